/- What the first words of a text seem to tell: the program's exScan. -/
import Derived.Test.YtpkinlcinccccaaDoorExRd9
import Derived.Test.YtpkinlcinccccaaDoorExM2
import Derived.Test.YtpkinlcinccccaaDoorShelf
import Derived.Lib.SplitLaws
namespace Go.Proofs.YtpkinlcinccccaaDoor
open Go.ChangeShapes Go.WideShapes Go.ChangeAt Go.RowKit
set_option linter.unusedVariables false
set_option maxRecDepth 4000
/-! ### strings.Split at one space -/
theorem cut_cur : ∀ (l cur : List UInt8), ∃ p q, cutAux [] l = p :: q ∧ cutAux cur l = (cur ++ p) :: q
  | [], cur => ⟨[], [], rfl, by simp [cutAux]⟩
  | c :: r, cur => by
    unfold cutAux
    by_cases h : c = 32
    · rw [if_pos h, if_pos h]; exact ⟨[], _, rfl, by simp⟩
    · rw [if_neg h, if_neg h]
      obtain ⟨p, q, h1, h2⟩ := cut_cur r (cur ++ [c])
      obtain ⟨p', q', h1', h2'⟩ := cut_cur r ([] ++ [c])
      rw [h1] at h1'
      cases h1'
      exact ⟨_, _, h2', by rw [h2]; simp⟩
theorem split_cut : ∀ l : List UInt8, Lib.splitK [32] 0 (Lib.count l [32]) l = cutAux [] l
  | [] => by rw [Lib.count_miss (by simp [Lib.index])]; rfl
  | c :: l => by
    have ih := split_cut l
    by_cases h : c = 32
    · subst h
      have hix : Lib.index (32 :: l) [32] = 0 := by rw [Lib.index]; simp [List.isPrefixOf]
      rw [Lib.count_cons_eq, Nat.add_comm, Lib.splitK, hix]
      simp only [cutAux, if_true]
      rw [← ih]
      simp
    · have hix : Lib.index (c :: l) [32] = if Lib.index l [32] == -1 then -1 else Lib.index l [32] + 1 := by
        have hp : ([32] : List UInt8).isPrefixOf (c :: l) = false := by simp [List.isPrefixOf, Ne.symm h]
        rw [Lib.index, hp]; simp
      rw [Lib.count_cons_ne c 32 l h]
      obtain ⟨p, q, h1, h2⟩ := cut_cur l [c]
      have e : cutAux [] (c :: l) = (c :: p) :: q := by
        show (if c = 32 then _ else _) = _
        rw [if_neg h]; exact h2
      rw [e]
      rw [h1] at ih
      cases hc : Lib.count l [32] with
      | zero =>
        rw [hc] at ih
        simp only [Lib.splitK, List.cons.injEq] at ih ⊢
        exact ⟨⟨trivial, ih.1⟩, ih.2⟩
      | succ k =>
        rw [hc] at ih
        rw [Lib.splitK] at ih ⊢
        rw [hix]
        by_cases hm : Lib.index l [32] = -1
        · rw [hm] at ih ⊢
          simp at ih ⊢
          exact ⟨by rw [ih.1], ih.2⟩
        · have hge := Lib.index_ge l [32]
          have hb : (Lib.index l [32] == -1) = false := by simpa using hm
          rw [hb] at ih ⊢
          have hb2 : (Lib.index l [32] + 1 == -1) = false := by simp; omega
          simp only [Bool.false_eq_true, if_false, hb2] at ih ⊢
          have e2 : (Lib.index l [32] + 1).toNat = (Lib.index l [32]).toNat + 1 := by omega
          rw [e2]
          simp only [List.cons.injEq] at ih ⊢
          refine ⟨?_, ?_⟩
          · rw [← ih.1]; simp
          · rw [← ih.2]
            congr 1
theorem split_words (s : ByteArray) : (Lib.splitB ⟨#[32]⟩ 0 (Lib.countB s ⟨#[32]⟩) s).map bs = cutAux [] (bs s) := by
  have h := Lib.splitB_data ⟨#[32]⟩ 0 (Lib.countB s ⟨#[32]⟩) s
  exact h.trans (split_cut (bs s))
/-! ### The deferred function -/
set_option maxHeartbeats 1000000 in
theorem scanD_calm (B0 B1 : Nat) (w : World) : CallsDIn Fence.wide 8 Tryd.prog 39 #[.pointer (some ⟨B0, 0, none⟩), .pointer (some ⟨B1, 0, none⟩)] .returning w fun e u' w' => u' = .returning ∧ (∃ x, e = .returned x) ∧ w' = w := by
  refine callsDIn_of_wpSIn Tryd.func39 rfl trivial fun c₀ cs hu => ?_
  apply wpSIn_seq
  apply wpSIn_region
  simp [wpOpsSIn, go_sem, recoverD, hu, Tryd.ntmps39, Exit.thenS]
  refine wpSIn_cond (t := false) (by simp [Act.eval, Array.replicate]) ?_
  refine wpSIn_of_wpIn rfl (wpIn_wide.2 (wp_skip ?_))
  exact ⟨rfl, .returning, by rw [← hu], _, results_none rfl _ _ _, rfl, ⟨_, rfl⟩, rfl⟩
set_option maxHeartbeats 1000000 in
theorem scanD_panic (B0 B1 : Nat) (t : TypeId) (v : Value) (kd sy n : Int) (x y : Value) (w : World) (h0 : PBox w B0 kd sy n x) (h1 : Boxed w B1 4 y) (hne : B0 ≠ B1) :
    CallsDIn Fence.wide 8 Tryd.prog 39 #[.pointer (some ⟨B0, 0, none⟩), .pointer (some ⟨B1, 0, none⟩)] (.panicking [{ v := .iface t v, recovered := false }]) w
    fun e u' w' => u' = .panicking [{ v := .iface t v, recovered := true }] ∧ (∃ x, e = .returned x) ∧ PBox w' B0 0 0 0 (.slice none 0 0) ∧ Boxed w' B1 4 (.bool false) ∧ (∀ B, B ≤ B0 → B ≤ B1 → Below B w w') := by
  obtain ⟨c0, c1, c2, c3⟩ := h0.cells
  have f0 := h0.free 0
  have f1 := h0.free 1
  have f2 := h0.free 2
  have f3 := h0.free 3
  have hs := h0.store 0 0 0 (.slice none 0 0)
  have h1' : Boxed ((((w.setCell ⟨B0, 0, none⟩ (.int .i64 0)).setCell ⟨B0, 1, none⟩ (.int .i64 0)).setCell ⟨B0, 2, none⟩ (.int .i64 0)).setCell ⟨B0, 3, none⟩ (.slice none 0 0)) B1 4 y := by
    show _ = _
    rw [Below.heap_setCell _ _ _ _ (Ne.symm hne), Below.heap_setCell _ _ _ _ (Ne.symm hne), Below.heap_setCell _ _ _ _ (Ne.symm hne), Below.heap_setCell _ _ _ _ (Ne.symm hne)]
    exact h1
  have d0 := h1'.cell
  have d1 := h1'.frozen
  refine callsDIn_of_wpSIn Tryd.func39 rfl trivial fun c₀ cs hu => ?_
  apply wpSIn_seq
  apply wpSIn_region
  simp [wpOpsSIn, go_sem, recoverD, hu, Tryd.ntmps39, Exit.thenS]
  refine wpSIn_cond (t := true) (by simp [Act.eval, Array.replicate]) ?_
  simp only [if_true]
  apply wpSIn_region
  simp [wpOpsSIn, go_sem, c0, c1, c2, c3, f0, f1, f2, f3, d0, d1]
  exact ⟨rfl, _, rfl, _, results_none rfl _ _ _, rfl, ⟨_, rfl⟩, hs.other B1 0 hne _, h1'.set _, fun B h h' => (below_store (Below.refl _ _) h _ _ _ _).setCell h' _⟩
/-! ### exScan -/
/-- The library's longest text to be searched for is some number. -/
def MaxAt (w : World) : Prop := ∃ m : Int, w.cell? ⟨1, 0, none⟩ = some (.int .i64 m)
theorem MaxAt.below {w w' : World} (h : MaxAt w) (hb : Below w.heap.size w w') : MaxAt w' := by
  obtain ⟨m, hm⟩ := h
  exact ⟨m, (hb.cell (p := ⟨1, 0, none⟩) (block_lt hm)).trans hm⟩
def ScanPost (t : List UInt8) (w : World) (e : Ending) (w' : World) : Prop :=
  Below w.heap.size w w' ∧ ((Hid (scanK numA ((cutAux [] t).length + 5) 1 (cutAux [] t) = none) ∧ e = .returned (.tuple #[.agg #[.int .i64 0, .int .i64 0, .int .i64 0, .slice none 0 0], .bool false])) ∨
    ∃ (kd sy n : Int) (a : Option Addr) (cap : Nat) (F : Fo) (rest : List Wd) (S : List Nat), Hid (scanK numA ((cutAux [] t).length + 5) 1 (cutAux [] t) = some (.cons kd sy n F .nil, rest)) ∧
      e = .returned (.tuple #[.agg #[.int .i64 kd, .int .i64 sy, .int .i64 n, .slice a F.len cap], .bool true]) ∧ OwnAt w' a S F ∧ S.Nodup ∧ (∀ x ∈ S, w.heap.size ≤ x ∧ x < w'.heap.size) ∧ F.len ≤ 3)
theorem pieces_len (t : List UInt8) : (cutAux [] t).length ≤ t.length + 1 := by
  have : ∀ (l cur : List UInt8), (cutAux cur l).length ≤ l.length + 1 := by
    intro l
    induction l with
    | nil => intro cur; simp [cutAux]
    | cons c r ih =>
      intro cur
      unfold cutAux
      split
      · have := ih []; simp; omega
      · have := ih (cur ++ [c]); simp at this ⊢; omega
  exact this t []
set_option maxHeartbeats 1000000 in
theorem exScan_any (s : ByteArray) (w : World) (t : TypeId) (v : Value) (hE : ErrAt w t v) (hM : MaxAt w) (hs : s.size ≤ 300) (hG : 0 < w.heap.size) : Calls Tryd.prog 24 #[.string s] w (ScanPost (bs s) w) := by
  have hmf : ∀ (fn : Fn) (first cap : Array Value) (w : World), (Instr.makeFunc fn first cap).run Tryd.prog w = .ok (.func fn first cap) w := fun _ _ _ _ => rfl
  obtain ⟨wA, hwA⟩ : ∃ wA, (w.alloc (.cells #[.int .i64 0, .int .i64 0, .int .i64 0, .slice none 0 0] 29)).alloc (.cells #[.bool false] 4) = wA := ⟨_, rfl⟩
  have hbA : Below w.heap.size w wA := by rw [← hwA]; exact bel2 _ _ _
  have hsA : wA.heap.size = w.heap.size + 2 := by rw [← hwA]; simp
  have h0A : PBox wA w.heap.size 0 0 0 (.slice none 0 0) := ⟨by rw [← hwA]; exact (Below.heap_alloc _ _ _ (by simp)).trans (World.alloc_heap_new w _)⟩
  have h1A : Boxed wA (w.heap.size + 1) 4 (.bool false) := by
    rw [← hwA]
    have := Boxed.new (w.alloc (.cells #[.int .i64 0, .int .i64 0, .int .i64 0, .slice none 0 0] 29)) 4 (.bool false)
    rwa [World.size_alloc] at this
  obtain ⟨m, hm⟩ := hM.below hbA
  have hsp := Tryd.strings_Split s ⟨#[32]⟩ m wA (by omega) hm (by decide)
  have hw := split_words s
  have hl0 := Lib.splitB_all ⟨#[32]⟩ (by decide) 0 _ s rfl
  generalize Lib.splitB ⟨#[32]⟩ 0 (Lib.countB s ⟨#[32]⟩) s = ps at hsp hw hl0
  rw [← hl0] at hsp
  obtain ⟨wB, hwB⟩ : ∃ wB, wA.alloc (.cells (ps.map Value.string).toArray 9) = wB := ⟨_, rfl⟩
  rw [hwB] at hsp
  obtain ⟨wC, hwC⟩ : ∃ wC, wB.alloc (.cells #[.slice (some ⟨wA.heap.size, 0, none⟩) ps.length ps.length] 76) = wC := ⟨_, rfl⟩
  have hbB : Below wA.heap.size wA wB := by rw [← hwB]; exact below_new _ _
  have hbC : Below wB.heap.size wB wC := by rw [← hwC]; exact below_new _ _
  have hsB : wB.heap.size = wA.heap.size + 1 := by rw [← hwB]; simp
  have hsC : wC.heap.size = wB.heap.size + 1 := by rw [← hwC]; simp
  have hPB : Pieces wB wA.heap.size ps := ⟨⟨_, by rw [← hwB]; exact heap_alloc_new _ _, fun i hi => by simp [hi]⟩⟩
  have hLC : Left wC wB.heap.size wA.heap.size ps 0 := ⟨⟨_, by rw [← hwC]; exact heap_alloc_new _ _, fun _ => rfl⟩, hPB.below hbC, by omega⟩
  have bC : Below w.heap.size w wC := (hbA.trans (hbB.mono hbA.size)).trans (hbC.mono (by omega))
  have bAC : Below wA.heap.size wA wC := hbB.trans (hbC.mono (by omega))
  have h0C := h0A.below bAC
  have h1C : Boxed wC (w.heap.size + 1) 4 (.bool false) := (bAC.block _ h1A.lt).trans h1A
  have hbl := bs_len s
  have hlen : ps.length ≤ 1000 := by
    have h1 := congrArg List.length hw
    have h2 := pieces_len (bs s)
    rw [List.length_map] at h1
    omega
  have hpsz : ∀ p ∈ ps, p.size ≤ 1048576 := by
    intro p hp
    have h1 := joinF_len (ps.map bs) (bs p) (List.mem_map_of_mem hp)
    rw [hw, joinF_cut, List.nil_append, bs_len, bs_len] at h1
    omega
  have hpart := wpart_any ps wB.heap.size wA.heap.size t v hlen hpsz (by omega) ps.length 0 (ps.length + 5) wC (by omega) (by omega) (Nat.zero_le _) (hE.below bC) hLC
  have hcl : (cutAux [] (bs s)).length = ps.length := by rw [← hw, List.length_map]
  have Hw : Hid (ps.map bs = cutAux [] (bs s)) := hw
  have Hcl : Hid ((cutAux [] (bs s)).length = ps.length) := hcl
  have hs1 : w.heap.size + 2 ≤ wA.heap.size := by omega
  have hs2 : wA.heap.size + 1 ≤ wB.heap.size := by omega
  have hs3 : wB.heap.size + 1 ≤ wC.heap.size := by omega
  clear hw hcl hl0 hbl hsA hsB hsC
  refine (callsIn_wide (n := 9)).1 (callsIn_of_wp_marks Tryd.func24 rfl trivial ?_ rfl)
  refine wpIn_wide.2 ?_
  simp only [Tryd.ntmps24, List.size_toArray, List.length_cons, List.length_nil, Nat.reduceAdd, Nat.reduceSub, Array.replicate_succ, Array.replicate_zero, List.push_toArray, List.append_toArray, List.nil_append, List.cons_append]
  go_wp2_with fail
  refine hsp.mono ?_
  rintro e w1 ⟨rfl, rfl⟩
  clear hsp
  go_wp2_with fail
  refine hpart.mono ?_
  rintro e w2 ⟨hg2, ⟨hN, rfl⟩ | ⟨kd, sy, n, a, cap, F, j, S, hS, hj0, hjl, rfl, hl2, hO2, hnd2, hS2, hF3⟩⟩
  · have h02 := h0C.grown hg2 (fun e => by have : w1.heap.size = w.heap.size := Option.some.inj e; omega)
    have h12 := h1C.kept hg2 (fun e => by have : w.heap.size + 1 = w1.heap.size := Option.some.inj e; omega)
    have b2 : Below w.heap.size w w2 := bC.grown hg2 (by omega) (fun k hk => by cases hk; omega)
    have HN : Hid (scanK numA ((cutAux [] (bs s)).length + 5) 1 (cutAux [] (bs s)) = none) := by
      have h1 := hN.out
      rw [List.drop_zero, Hw.out, ← Hcl.out] at h1
      exact h1
    go_wp2_with fail
    refine ⟨by simp, .inr ⟨fun h => (by cases h), _, _, 39, #[.pointer (some ⟨w.heap.size, 0, none⟩), .pointer (some ⟨w.heap.size + 1, 0, none⟩)], rfl, by simp [invoke, go_sem], fun _ _ => trivial, ?_⟩⟩
    refine (scanD_panic w.heap.size (w.heap.size + 1) t v 0 0 0 _ _ w2 h02 h12 (by omega)).mono ?_
    rintro e u' w3 ⟨rfl, ⟨y, rfl⟩, hp3, hb3, hbe3⟩
    obtain ⟨c0, c1, c2, c3⟩ := hp3.cells
    have d0 := hb3.cell
    refine ⟨.tuple #[.agg #[.int .i64 0, .int .i64 0, .int .i64 0, .slice none 0 0], .bool false], by simp [results, Tryd.results24, go_sem, c0, c1, c2, c3, d0], b2.trans (hbe3 _ (Nat.le_refl _) (by omega)), Or.inl ⟨HN, rfl⟩⟩
  · have h02 := h0C.grown hg2 (fun e => by have : w1.heap.size = w.heap.size := Option.some.inj e; omega)
    have h12 := h1C.kept hg2 (fun e => by have : w.heap.size + 1 = w1.heap.size := Option.some.inj e; omega)
    have b2 : Below w.heap.size w w2 := bC.grown hg2 (by omega) (fun k hk => by cases hk; omega)
    have HS : Hid (scanK numA ((cutAux [] (bs s)).length + 5) 1 (cutAux [] (bs s)) = some (.cons kd sy n F .nil, (cutAux [] (bs s)).drop j)) := by
      have h1 := hS.out
      rw [List.drop_zero, Hw.out, ← Hcl.out] at h1
      exact h1
    obtain ⟨c0, c1, c2, c3⟩ := h02.cells
    have f0 := h02.free 0
    have f1 := h02.free 1
    have f2 := h02.free 2
    have f3 := h02.free 3
    have d0 := h12.cell
    have d1 := h12.frozen
    have hst := h02.store kd sy n (.slice a F.len cap)
    have h13 : Boxed ((((w2.setCell ⟨w.heap.size, 0, none⟩ (.int .i64 kd)).setCell ⟨w.heap.size, 1, none⟩ (.int .i64 sy)).setCell ⟨w.heap.size, 2, none⟩ (.int .i64 n)).setCell ⟨w.heap.size, 3, none⟩ (.slice a F.len cap)) (w.heap.size + 1) 4 (.bool false) := by
      show _ = _
      rw [Below.heap_setCell _ _ _ _ (by simp), Below.heap_setCell _ _ _ _ (by simp), Below.heap_setCell _ _ _ _ (by simp), Below.heap_setCell _ _ _ _ (by simp)]
      exact h12
    have h14 := h13.set (.bool true)
    have hp4 := hst.other (w.heap.size + 1) 0 (by omega) (.bool true)
    obtain ⟨W4, hW4⟩ : ∃ W4, ((((w2.setCell ⟨w.heap.size, 0, none⟩ (.int .i64 kd)).setCell ⟨w.heap.size, 1, none⟩ (.int .i64 sy)).setCell ⟨w.heap.size, 2, none⟩ (.int .i64 n)).setCell ⟨w.heap.size, 3, none⟩ (.slice a F.len cap)).setCell ⟨w.heap.size + 1, 0, none⟩ (.bool true) = W4 := ⟨_, rfl⟩
    have hb4 : Below w.heap.size w W4 := by rw [← hW4]; exact (below_store b2 (Nat.le_refl _) _ _ _ _).setCell (by simp) _
    have hs4 : W4.heap.size = w2.heap.size := by rw [← hW4]; simp
    have hO4 : OwnAt W4 a S F := hO2.of_blocks fun x hx => by
      have := (hS2 x hx).1
      rw [← hW4, Below.heap_setCell _ _ _ _ (by simp; omega)]
      exact store_low (w := w2) (b := w.heap.size) (lo := wC.heap.size) (by omega) _ _ _ _ x this
    rw [hW4] at h14 hp4
    have HS4 : Hid (∀ x ∈ S, w.heap.size ≤ x ∧ x < W4.heap.size) := fun x hx => by have := hS2 x hx; exact ⟨by omega, by omega⟩
    clear hs4
    go_wp2
    refine ⟨by simp, .inr ⟨fun h => (by cases h), _, _, 39, #[.pointer (some ⟨w.heap.size, 0, none⟩), .pointer (some ⟨w.heap.size + 1, 0, none⟩)], rfl, by simp [invoke, go_sem], fun _ _ => trivial, ?_⟩⟩
    refine (scanD_calm w.heap.size (w.heap.size + 1) _).mono ?_
    rintro e u' w3 ⟨rfl, ⟨y, rfl⟩, rfl⟩
    obtain ⟨k0, k1, k2, k3⟩ := hp4.cells
    have k4 := h14.cell
    refine ⟨.tuple #[.agg #[.int .i64 kd, .int .i64 sy, .int .i64 n, .slice a F.len cap], .bool true], ?_, ?_, ?_⟩
    · simp [results, Tryd.results24, go_sem, k0, k1, k2, k3, k4]
    · exact hb4
    · exact Or.inr ⟨kd, sy, n, a, cap, F, _, S, HS, rfl, hO4, hnd2, HS4.out, hF3⟩
end Go.Proofs.YtpkinlcinccccaaDoor
