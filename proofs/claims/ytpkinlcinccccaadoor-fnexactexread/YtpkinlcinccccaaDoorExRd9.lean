/- One part with all its kids, as the program takes it from the words: the walk. -/
import Derived.Test.YtpkinlcinccccaaDoorExRd8
import Derived.RegionDies
namespace Go.Proofs.YtpkinlcinccccaaDoor
open Go.ChangeShapes Go.WideShapes Go.ChangeAt Go.RowKit
set_option linter.unusedVariables false
set_option maxRecDepth 4000
theorem results_one {fn : Func} {p : Tmp} (h : fn.results = #[.cell p 29]) (tmps : Array Value) (w : World) (g : Nat) (kd sy n : Int) (v : Value) (hp : tmps.getD p undef = .pointer (some ⟨g, 0, none⟩)) (hg : PBox w g kd sy n v) :
    (results fn tmps).run Tryd.prog w = .ok (.agg #[.int .i64 kd, .int .i64 sy, .int .i64 n, v]) w := by
  have hl := run_loadVar_row w g 29 29 _ (0, 0) _ hg.row Tryd.underlying29 rfl (by kernel_rfl)
  have e : (results fn tmps).run Tryd.prog w = ((asAddr (tmps.getD p undef)).run Tryd.prog w).andThen fun a w₁ => (loadVar 29 a).run Tryd.prog w₁ := by
    simp only [results, h]
    simp [Sem.run_bind, Result.andThen]
  rw [e, hp]
  simp [asAddr, hl, Result.andThen]
theorem none_hit {num : Wd → Option Int} {v : Wd} {r : List Wd} (h : ∀ j : Nat, 1 ≤ j → j < 8 → hitB j v = false) : headR num (v :: r) = none := by
  have h1 := h 1 (by decide) (by decide)
  simp [hitB] at h1
  have hk : kindW v = 0 := by
    by_cases h0 : kindW v = 0
    · exact h0
    · exfalso
      obtain ⟨_, h2, h7⟩ := kindW_word h0
      obtain ⟨j, hj⟩ : ∃ j : Nat, kindW v = j := ⟨(kindW v).toNat, by omega⟩
      have := h j (by omega) (by omega)
      simp [hitB, hj] at this
      omega
  rw [headR_cons, if_neg (by omega), if_pos hk]
/-- An append as one step of a region that draws, its run being known. -/
theorem xstep_append_run {P : Program} {ops : Array Oper} {o : Oper} {a : Act} {w : World} {K : Act → World → Prop} {Q : Exit → Act → World → Prop} {E : Prop} (hg : o.guard = none) (s x : Operand) (t : TypeId)
    (hop : o.op = Op.call { callee := Callee.builtin Builtin.append, args := #[s, x], argTypes := #[t, t] }) (vs vx : Value) (hs : a.eval s = vs) (hx : a.eval x = vx) {v' : Value} {w' : World}
    (hrun : (Builtin.append_ #[t, t] o.type #[vs, vx]).run P w = .ok v' w') (hK : K (a.put o.dst v') w') : if Region.wanted o (yielded ops a.tmps) = true then Oper.wp P o a w K Q else E := by
  have hw : Region.wanted o (yielded ops a.tmps) = true := by simp [Region.wanted, hg]
  rw [if_pos hw]
  unfold Oper.wp
  simp [execOp, hop, resolve, invoke, builtin, hs, hx, hrun, Result.andThen]
  exact hK
/-- A kid is put behind the kids: what the append does. -/
theorem kid_run {wr w6 : World} {X Bw : Nat} {kd sy n kd' sy' n' : Int} {u : Value} {q : List Hd} {a' : Option Addr} {F' : Fo} {cap' : Nat} (hX : PBox wr X kd sy n u) (hown : wr.ownsRow (X + 1) 29 4 u q.length (hdCells q)) (hg6 : wr.drew.grownBy w6 (some Bw)) (hBX : Bw < X) (hq : q.length ≤ 3) :
    PBox w6 X kd sy n u ∧ ∃ w7, w6.alloc (.cells #[.int .i64 kd', .int .i64 sy', .int .i64 n', .slice a' F'.len cap'] 29) = w7 ∧ PBox w7 X kd sy n u ∧
      ∃ v8 w8, (Builtin.append_ #[27, 27] 27 #[u, .slice (some ⟨w6.heap.size, 0, none⟩) 1 1]).run Tryd.prog w7 = .ok v8 w8 ∧ PBox w8 X kd sy n u ∧ w8.ownsRow (X + 1) 29 4 v8 (q.length + 1) (hdCells (q ++ [⟨kd', sy', n', a', F'.len, cap'⟩])) ∧ w7.grownBy w8 u.ownBlock ∧ (∀ k, v8.ownBlock = some k → u.ownBlock = some k ∨ w7.heap.size ≤ k) := by
  obtain ⟨i0, hinf, hz0, hz1, hz2⟩ := info_ex_parts
  have hXl : X < wr.heap.size := hX.lt
  have hX6 : PBox w6 X kd sy n u := (hX.drew).grown hg6 (fun e => by cases e; omega)
  have hs6 : wr.heap.size ≤ w6.heap.size := hg6.4
  have hownd : wr.drew.ownsRow (X + 1) 29 4 u q.length (hdCells q) := owns_below hown ((Below.refl wr.heap.size wr).drew)
  have hown6 : w6.ownsRow (X + 1) 29 4 u q.length (hdCells q) := hownd.kept hg6 (.inr fun e => by have := (hown.lt _ e).1; omega)
  obtain ⟨w7, hw7⟩ : ∃ w7, w6.alloc (.cells #[.int .i64 kd', .int .i64 sy', .int .i64 n', .slice a' F'.len cap'] 29) = w7 := ⟨_, rfl⟩
  have hb7 : Below w6.heap.size w6 w7 := by rw [← hw7]; exact below_new _ _
  have hn7 : w7.heap[w6.heap.size]? = some (.cells #[.int .i64 kd', .int .i64 sy', .int .i64 n', .slice a' F'.len cap'] 29 (0, 0)) := by rw [← hw7]; exact heap_alloc_new _ _
  have hown7 := owns_below hown6 hb7
  have hs7 := hb7.size
  obtain ⟨v8, w8, hrun, r1, r2, r3⟩ := append_where (P := Tryd.prog) w7 (X + 1) 27 27 29 i0 (.agg #[.int .i64 0, .int .i64 0, .int .i64 0, .slice none 0 0]) 4 48 Tryd.underlying27 hinf hz0 hz1 hz2 rfl (by decide) u q.length (hdCells q) hown7 ⟨w6.heap.size, 0, none⟩ 1 1 [.int .i64 kd', .int .i64 sy', .int .i64 n', .slice a' F'.len cap'] rfl
    (by intro j x hj; rw [add_plain, cell_at hn7]; simpa using hj)
    (by intro x hx; simp at hx; rcases hx with rfl | rfl | rfl | rfl <;> rfl) (by unfold maxLen; omega) (by omega) (by omega)
  exact ⟨hX6, w7, hw7, hX6.below hb7, v8, w8, hrun, (hX6.below hb7).grown r2 (fun e => by have := (hown.lt _ e).1; omega), by rw [hdCells_snoc]; exact r1, r2, r3⟩
theorem grown_new {w w' w'' : World} {r r' : Option Nat} (h : w.grownBy w' r) (k : w'.grownBy w'' r') (hr : ∀ x, r' = some x → w.heap.size ≤ x) : w.grownBy w'' r :=
  ⟨k.1.trans h.1, k.2.trans h.2, k.3.trans h.3, Nat.le_trans h.4 k.4, fun x hx hne => (k.5 x (Nat.lt_of_lt_of_le hx h.4) (fun e => by have := hr x e.symm; omega)).trans (h.5 x hx hne)⟩
/-- Behind a kid: what lies where. -/
theorem kid_close {ps : List ByteArray} {w wr w6 w7 w8 : World} {X Bw g j' gv cv : Nat} {kd sy n kd' sy' n' : Int} {u : Value} {q : List Hd} {G F' : Fo} {S S' : List Nat} {a' : Option Addr} {cap' : Nat}
    (hBl : Bw < w.heap.size) (hgl : g < w.heap.size) (hwX : w.heap.size < X) (g05 : w.grownBy wr (some Bw)) (hX5 : PBox wr X kd sy n u) (hR5 : PBox wr w.heap.size 0 0 0 (.slice none 0 0)) (hown : wr.ownsRow (X + 1) 29 4 u q.length (hdCells q))
    (hHd : HeadsS wr q G S) (hnd : S.Nodup) (hSS : ∀ x ∈ S, X + 1 ≤ x ∧ x < wr.heap.size ∧ some x ≠ u.ownBlock)
    (hg6 : wr.drew.grownBy w6 (some Bw)) (hl6 : Left w6 Bw g ps j') (hO6 : OwnAt w6 a' S' F') (hnd6 : S'.Nodup) (hS6 : ∀ x ∈ S', wr.drew.heap.size ≤ x ∧ x < w6.heap.size) (hF3 : F'.len ≤ 3)
    (hw7 : w6.alloc (.cells #[.int .i64 kd', .int .i64 sy', .int .i64 n', .slice a' F'.len cap'] 29) = w7)
    (r0 : PBox w8 X kd sy n u) (r1 : w8.ownsRow (X + 1) 29 4 (.slice (some ⟨gv, 0, none⟩) (q.length + 1) cv) (q.length + 1) (hdCells (q ++ [⟨kd', sy', n', a', F'.len, cap'⟩]))) (r2 : w7.grownBy w8 u.ownBlock) (r3 : u.ownBlock = some gv ∨ w7.heap.size ≤ gv) {w9 : World}
    (hw9 : w8.setCell ⟨X, 3, none⟩ (.slice (some ⟨gv, 0, none⟩) (q.length + 1) cv) = w9) :
    Left w9 Bw g ps j' ∧ PBox w9 X kd sy n (.slice (some ⟨gv, 0, none⟩) (q.length + 1) cv) ∧ PBox w9 w.heap.size 0 0 0 (.slice none 0 0) ∧ w9.ownsRow (X + 1) 29 4 (.slice (some ⟨gv, 0, none⟩) (q.length + 1) cv) (q.length + 1) (hdCells (q ++ [⟨kd', sy', n', a', F'.len, cap'⟩])) ∧
    HeadsS w9 (q ++ [⟨kd', sy', n', a', F'.len, cap'⟩]) (G.app (.cons kd' sy' n' F' .nil)) (S ++ S') ∧ (S ++ S').Nodup ∧ (∀ x ∈ S ++ S', X + 1 ≤ x ∧ x < w9.heap.size ∧ some x ≠ (Value.slice (some ⟨gv, 0, none⟩) (q.length + 1) cv).ownBlock) ∧ w.grownBy w9 (some Bw) := by
  have hXl := hX5.lt
  have hrs : wr.drew.heap.size = wr.heap.size := rfl
  have hs6 : wr.heap.size ≤ w6.heap.size := hg6.4
  have hb7 : Below w6.heap.size w6 w7 := by rw [← hw7]; exact below_new _ _
  have hs7 := hb7.size
  have hs8 := r2.4
  have hus := fun k hk => hown.lt k hk
  have hgv : X + 1 ≤ gv := (r1.lt gv rfl).1
  have hsz9 : w9.heap.size = w8.heap.size := by rw [← hw9]; simp
  have h98 : ∀ x, x ≠ X → w9.heap[x]? = w8.heap[x]? := fun x hx => by rw [← hw9]; exact Below.heap_setCell _ _ _ _ hx
  have h86 : ∀ x, x < w6.heap.size → some x ≠ u.ownBlock → w8.heap[x]? = w6.heap[x]? := fun x hx hne => (r2.5 x (by omega) hne).trans (hb7.block x hx)
  have h6r : ∀ x, x < wr.heap.size → x ≠ Bw → w6.heap[x]? = wr.heap[x]? := fun x hx hne => hg6.5 x hx (fun e => hne (Option.some.inj e))
  have hlow : ∀ x, x ≤ X → some x ≠ u.ownBlock := fun x hx e => by have := (hus x e.symm).1; omega
  have hS9 : ∀ x ∈ S, w9.heap[x]? = wr.heap[x]? := fun x hx => by
    obtain ⟨k1, k2, k3⟩ := hSS x hx
    rw [h98 x (by omega), h86 x (by omega) k3, h6r x k2 (by omega)]
  have hS9' : ∀ x ∈ S', w9.heap[x]? = w6.heap[x]? := fun x hx => by
    obtain ⟨k1, k2⟩ := hS6 x hx
    rw [hrs] at k1
    rw [h98 x (by omega), h86 x k2 (fun e => by have := (hus x e.symm).2; omega)]
  have hg9 : w8.grownBy w9 (some X) := by rw [← hw9]; exact ⟨rfl, rfl, rfl, by simp, fun b _ hb => Below.heap_setCell _ _ _ _ (fun e => hb (by rw [e]))⟩
  refine ⟨hl6.blocks ?_ ?_, ?_, ?_, ?_, ?_, ?_, ?_, ?_⟩
  · rw [h98 _ (by omega), h86 _ hl6.lt (hlow _ (by omega))]
  · rw [h98 _ (by omega), h86 _ hl6.row.lt (hlow _ (by omega))]
  · rw [← hw9]; exact r0.put _
  · exact ⟨by rw [h98 _ (by omega), h86 _ (by omega) (hlow _ (by omega)), h6r _ (by omega) (by omega)]; exact hR5.row⟩
  · exact r1.kept hg9 (.inr fun e => by have : gv = X := Option.some.inj e; omega)
  · exact HeadsS.snoc ⟨kd', sy', n', a', F'.len, cap'⟩ F' S' rfl (by unfold maxLen; omega) (hO6.of_blocks hS9') q G S (hHd.of_blocks q G S hS9)
  · refine List.nodup_append.2 ⟨hnd, hnd6, fun x hx y hy => ?_⟩
    have h1 := (hSS x hx).2.1
    have h2 := (hS6 y hy).1
    omega
  · intro x hx
    rcases List.mem_append.1 hx with hx | hx
    · obtain ⟨k1, k2, k3⟩ := hSS x hx
      refine ⟨k1, by omega, fun e => ?_⟩
      have e : x = gv := Option.some.inj e
      rcases r3 with h | h
      · exact k3 (by rw [h, e])
      · omega
    · obtain ⟨k1, k2⟩ := hS6 x hx
      rw [hrs] at k1
      refine ⟨by omega, by omega, fun e => ?_⟩
      have e : x = gv := Option.some.inj e
      rcases r3 with h | h
      · have := (hus _ h).2; omega
      · omega
  · exact grown_new (grown_new (grownBy_trans (grownBy_trans (grown_drew g05) hg6) (below_by hb7 _)) r2 (fun x hx => by have := (hus x hx).1; omega)) hg9 (fun x hx => by cases hx; omega)
set_option maxHeartbeats 8000000 in
theorem wpart_any (ps : List ByteArray) (Bw g : Nat) (t : TypeId) (v : Value) (hlen : ps.length ≤ 1000) (hsz : ∀ p ∈ ps, p.size ≤ 1048576) (hBw : Bw ≠ 0) : ∀ (N i d : Nat) (w : World), ps.length - i ≤ N → ps.length - i ≤ d → i ≤ ps.length → ErrAt w t v → Left w Bw g ps i →
    Calls Tryd.prog 41 #[.pointer (some ⟨Bw, 0, none⟩)] w (PartPost ps Bw g i d t v w) := by
  intro N
  induction N using Nat.strongRecOn with
  | _ N ih =>
  intro i d w hN hd hi hE hL
  have hb0 := below_new w (.cells #[.int .i64 0, .int .i64 0, .int .i64 0, .slice none 0 0] 29)
  have hx0 : PBox (w.alloc (.cells #[.int .i64 0, .int .i64 0, .int .i64 0, .slice none 0 0] 29)) w.heap.size 0 0 0 (.slice none 0 0) := ⟨heap_alloc_new _ _⟩
  have hBl := hL.lt
  have hgl := hL.row.lt
  have hErr : some Bw ≠ some 0 := fun e => hBw (Option.some.inj e)
  by_cases hil : i < ps.length
  · obtain ⟨d, rfl⟩ : ∃ d', d = d' + 1 := ⟨d - 1, by omega⟩
    have hdw := drop_words ps i hil
    have hss := hsz _ (List.getElem_mem hil)
    have hnext := next_some ps Bw g i _ (hL.below hb0) hil hlen
    generalize ps[i] = s at hdw hss hnext
    have Hdw : Hid ((ps.map bs).drop i = bs s :: (ps.map bs).drop (i + 1)) := hdw
    clear hdw
    go_enter Tryd.func41, Tryd.ntmps41
    go_wp2_with fail
    refine hnext.mono ?_
    rintro e w1 ⟨rfl, hg1, hl1⟩
    have g01 : w.grownBy w1 (some Bw) := grownBy_trans (below_by hb0 _) hg1
    have hx1 := hx0.grown hg1 (fun e => by cases e; omega)
    clear hnext
    go_wp2_with fail
    go_loopw [4, 5, 6, 7] (fun c _ _ _ wr => ∃ j : Nat, c = .int .i64 j ∧ 1 ≤ j ∧ j ≤ 8 ∧ Hid (∀ j' : Nat, 1 ≤ j' → j' < j → hitB j' (bs s) = false) ∧ w.grownBy wr (some Bw) ∧ Left wr Bw g ps (i + 1) ∧ PBox wr w.heap.size 0 0 0 (.slice none 0 0)) (fun c _ _ _ _ => 8 - (intOf c).toNat)
    case atStart => exact ⟨1, rfl, by decide, by decide, fun j' h1 h2 => by omega, g01, hl1, hx1⟩
    case round =>
      revert hrel
      generalize wr = wo
      intro hrel
      obtain ⟨j, rfl, hj1, hj8, hmiss, hgr, hlr, hxr⟩ := hrel
      by_cases hj7 : j ≤ 7
      · have hj7' : (j : Int) ≤ 7 := by omega
        obtain ⟨T, V, K1, Kb, hK, hKc⟩ := kindB_any j hj1 hj7
        have m1 := hK.kids
        have m2 := hK.begin
        have m3 := hK.enter1
        have m4 := hK.enter2
        have hbeg := hK.begin_any ps Bw g (i + 1) s t v wo (hE.grown hgr hErr) hlr (by omega) hlen hsz hss
        go_wp2_with fail
        refine (hKc _).mono ?_
        rintro e w2 ⟨rfl, rfl⟩
        go_wp2_with fail
        refine hbeg.mono ?_
        rintro e w2 (⟨hh, x0, x1, x2, rfl, hb2⟩ | ⟨hh, hg2, ⟨sy, n, i', rfl, HR, hi1, hi2, hl2⟩ | ⟨hR, rfl⟩⟩)
        · have hb3 := below_new w2 (.cells #[.int .i64 x0, .int .i64 x1, .int .i64 x2, .slice none 0 0] 29)
          have b3 := hb2.trans (hb3.mono hb2.size)
          have hmiss' : Hid (∀ j' : Nat, 1 ≤ j' → j' < j + 1 → hitB j' (bs s) = false) := fun j' h1 h2 => by
            by_cases e : j' = j
            · rw [e]; exact hh
            · exact hmiss.out j' h1 (by omega)
          clear hh
          go_wp2
          exact ⟨⟨j + 1, by go_num, by omega, by omega, hmiss', grownBy_trans hgr (below_by b3 _), hlr.below b3, hxr.below b3⟩, by simp [intOf]; omega⟩
        · obtain ⟨w3, hw3⟩ : ∃ w3, w2.alloc (.cells #[.int .i64 j, .int .i64 sy, .int .i64 n, .slice none 0 0] 29) = w3 := ⟨_, rfl⟩
          have hb3 : Below w2.heap.size w2 w3 := by rw [← hw3]; exact below_new _ _
          have hX3 : PBox w3 w2.heap.size j sy n (.slice none 0 0) := by rw [← hw3]; exact ⟨heap_alloc_new _ _⟩
          have g02 := grownBy_trans hgr hg2
          have g03 := grownBy_trans g02 (below_by hb3 _)
          have hl3 := hl2.below hb3
          have hR3 := (hxr.grown hg2 (fun e => by cases e; omega)).below hb3
          have hRl := (hxr.grown hg2 (fun e => by cases e; omega)).lt
          have hkr := kids_range (kd := (j : Int)) ⟨by omega, by omega⟩
          obtain ⟨K, hKe⟩ : ∃ K : Nat, kidsOf j = K := ⟨(kidsOf j).toNat, by omega⟩
          have hkc := hK.kids_any
          rw [hKe] at hkc
          have HK : Hid (kidsOf j = K) := hKe
          have hK3 : K ≤ 3 := by omega
          have hs02 := g02.4
          subst hw3
          clear hh hkr hKe hbeg hK hKc hmiss
          go_wp2_with fail
          refine (hkc _).mono ?_
          rintro e w4 ⟨rfl, hb4⟩
          have g04 := grownBy_trans g03 (below_by hb4 _)
          have hX4 := hX3.below hb4
          have hR4 := hR3.below hb4
          have hl4 := hl3.below hb4
          clear m1 m2 m3 m4
          go_wp2_with fail
          go_loopw [27] (fun c wr => ∃ (i2 : Nat) (q : List Hd) (G : Fo) (u : Value) (S : List Nat), c = .int .i64 q.length ∧ q.length ≤ K ∧ i < i2 ∧ i2 ≤ ps.length ∧ Left wr Bw g ps i2 ∧ PBox wr w2.heap.size j sy n u ∧ PBox wr w.heap.size 0 0 0 (.slice none 0 0) ∧ wr.ownsRow (w2.heap.size + 1) 29 4 u q.length (hdCells q) ∧ Hid (HeadsS wr q G S) ∧ Hid S.Nodup ∧ Hid (∀ x ∈ S, w2.heap.size + 1 ≤ x ∧ x < wr.heap.size ∧ some x ≠ u.ownBlock) ∧ Hid (KidsA ps d K ((ps.map bs).drop i') i2 (K - q.length) G) ∧ w.grownBy wr (some Bw)) (fun c _ => K - (intOf c).toNat)
          case atStart => exact ⟨i', [], .nil, .slice none 0 0, [], rfl, Nat.zero_le _, by omega, hi2, hl4, hX4, hR4, World.ownsRow_nil _ _ _ _, rfl, List.nodup_nil, (fun x hx => by cases hx), by show KidsA _ _ _ _ _ _ _; unfold KidsA; simp [Fo.app], g04⟩
          case round =>
            obtain ⟨i2, q, G, u, S, rfl, hqK, hi3, hi4, hl5, hX5, hR5, hown, hHd, hnd, hSS, hTo, g05⟩ := hrel
            have hXl := hX5.lt
            by_cases hm : q.length < K
            · have hm' : ((q.length : Int) < (K : Int)) := by omega
              obtain ⟨m, hmK⟩ : ∃ m, K - q.length = m + 1 := ⟨K - q.length - 1, by omega⟩
              have hE5 : ErrAt wr t v := hE.grown g05 hErr
              have hE5d : ErrAt wr.drew t v := hE5
              have hcall := ih (ps.length - i2) (by omega) i2 d wr.drew (Nat.le_refl _) (by omega) hi4 hE5d hl5.drew
              clear ih
              obtain ⟨x0, x1, x2, x3⟩ := hX5.cells
              by_cases hn : scanK numA d 1 ((ps.map bs).drop i2) = none
              · have hcN : Calls Tryd.prog 41 #[.pointer (some ⟨Bw, 0, none⟩)] wr.drew (fun e w' => wr.drew.grownBy w' (some Bw) ∧ e = .panicked [{ v := .iface t v, recovered := false }]) := hcall.mono fun e w' h => by
                  rcases h with ⟨hg, ⟨_, he⟩ | ⟨_, _, _, _, _, _, _, _, hs, _⟩⟩
                  · exact ⟨hg, he⟩
                  · rw [hn] at hs; exact absurd hs.out (by simp)
                have HN : Hid (scanK numA (d + 1) 1 ((ps.map bs).drop i) = none) := by
                  show _ = _
                  have h0 := hTo.out
                  rw [hmK] at h0
                  rw [Hdw.out, scanK_some HR.out, HK.out, Int.toNat_natCast, h0.bad hn]
                clear hn hcall hmK
                go_wp2_with fail
                go_region_dies
                all_goals refine hcN.mono ?_
                all_goals rintro e w6 ⟨hg6, rfl⟩
                all_goals go_wp2
                all_goals exact ⟨rfl, grownBy_trans (grown_drew g05) hg6, Or.inl ⟨HN, rfl⟩⟩
              · have hcS : Calls Tryd.prog 41 #[.pointer (some ⟨Bw, 0, none⟩)] wr.drew (fun e w' => wr.drew.grownBy w' (some Bw) ∧ PartYes ps Bw g i2 d wr.drew e w') := hcall.mono fun e w' h => by
                  rcases h with ⟨hg, ⟨h1, _⟩ | h1⟩
                  · exact absurd h1.out hn
                  · exact ⟨hg, h1⟩
                clear hn hcall
                obtain ⟨i0, hinf, hz0, hz1, hz2⟩ := info_ex_parts
                have g05d := grown_drew g05
                go_wp2_with fail
                go_region_law (first
                  | refine xstep_append_run rfl (.tmp 30) (.tmp 33) 27 rfl _ _ rfl rfl hrun ?_
                  | (go_simp; go_wp2_with (go_at_call 41; refine hcS.mono ?_; rintro e w6 ⟨hg6, kd', sy', n', a', cap', F', j', S', hs, hjj, hjl, rfl, hl6, hO6, hnd6, hS6, hF3⟩; obtain ⟨hX6, w7, hw7, hX7, v7, w8, hrun, r0, r1, r2, r3⟩ := kid_run (kd' := kd') (sy' := sy') (n' := n') (a' := a') (F' := F') (cap' := cap') hX5 hown hg6 (by omega) (by omega); obtain ⟨e0, e1, e2, e3⟩ := hX6.cells; obtain ⟨gv, cv, rfl⟩ := ownsRow_succ r1; obtain ⟨h0, h1, h2, h3⟩ := r0.cells; obtain ⟨t0, t1, t2, t3⟩ := hX7.cells; have hf3 := r0.free 3)))
                all_goals go_wp2
                all_goals
                  have hTo' : Hid (KidsA ps d K ((ps.map bs).drop i') j' (K - (q.length + 1)) (G.app (.cons kd' sy' n' F' .nil))) := by
                    have h9 := hTo.out
                    rw [hmK] at h9
                    have h9 := h9.step hs.out
                    rwa [show m = K - (q.length + 1) by omega] at h9
                  obtain ⟨k1, k2, k3, k4, k5, k6, k7, k8⟩ := kid_close hBl hgl hRl g05 hX5 hR5 hown hHd.out hnd.out hSS.out hg6 hl6 hO6 hnd6 hS6 hF3 hw7 r0 r1 r2 (r3 gv rfl) rfl
                  have K5 : Hid _ := k5
                  have K6 : Hid _ := k6
                  have K7 : Hid _ := k7
                  exact ⟨⟨j', q ++ [⟨kd', sy', n', a', F'.len, cap'⟩], G.app (.cons kd' sy' n' F' .nil), .slice (some ⟨gv, 0, none⟩) (q.length + 1) cv, S ++ S', by rw [List.length_append]; go_num, by simp; omega, by omega, hjl, k1, k2, k3, by rw [List.length_append]; exact k4, K5, K6, K7, by rw [List.length_append]; exact hTo', k8⟩, by simp [intOf]; omega⟩
            · obtain ⟨ua, uc, rfl⟩ := slice_own hown
              obtain ⟨x0, x1, x2, x3⟩ := hX5.cells
              obtain ⟨z0, z1, z2, z3⟩ := hR5.cells
              have f0 := hR5.free 0
              have f1 := hR5.free 1
              have f2 := hR5.free 2
              have f3 := hR5.free 3
              obtain ⟨Ts, hO, hTn, hTs⟩ := own_row hown hHd.out hnd.out hSS.out
              have hGl : Hid (q.length = G.len) := hHd.out.len q G S
              have hK0 : K - q.length = 0 := by omega
              have HS : Hid (scanK numA (d + 1) 1 ((ps.map bs).drop i) = some (.cons j sy n G .nil, (ps.map bs).drop i2)) := by
                show _ = _
                have h0 := hTo.out
                rw [hK0] at h0
                rw [Hdw.out, scanK_some HR.out, HK.out, Int.toNat_natCast]
                simp only [h0.done, scanK_zero]
              clear hK0 ih
              have hst := hR5.store (j : Int) sy n (.slice ua q.length uc)
              have hOs : OwnAt ((((wr.setCell ⟨w.heap.size, 0, none⟩ (.int .i64 j)).setCell ⟨w.heap.size, 1, none⟩ (.int .i64 sy)).setCell ⟨w.heap.size, 2, none⟩ (.int .i64 n)).setCell ⟨w.heap.size, 3, none⟩ (.slice ua q.length uc)) ua Ts G :=
                hO.of_blocks fun x hx => store_low (w := wr) (b := w.heap.size) (lo := w2.heap.size + 1) (by omega) _ _ _ _ x (hTs x hx).1
              go_wp2
              refine bodyPost_ret (results_one rfl _ _ w.heap.size j sy n _ rfl hst) rfl ⟨grown_store g05 (Nat.le_refl _) _ _ _ _, Or.inr ⟨j, sy, n, ua, uc, G, i2, Ts, HS, hi3, hi4, by rw [← hGl.out], hl5.store (by omega) (by omega) _ _ _ _, hOs, hTn, fun x hx => ⟨by have := (hTs x hx).1; omega, by simpa using (hTs x hx).2⟩, by have := hGl.out; omega⟩⟩
        · have HN : Hid (scanK numA (d + 1) 1 ((ps.map bs).drop i) = none) := by
            show _ = _
            rw [Hdw.out]; exact scanK_none hR
          clear hR
          go_wp2
          exact ⟨rfl, grownBy_trans hgr hg2, Or.inl ⟨HN, rfl⟩⟩
      · obtain rfl : j = 8 := by omega
        have HN : Hid (scanK numA (d + 1) 1 ((ps.map bs).drop i) = none) := by
          show _ = _
          rw [Hdw.out]; exact scanK_none (none_hit hmiss.out)
        have hE' : wo.cell? ⟨0, 0, none⟩ = some (.iface t v) := hE.grown hgr hErr
        go_wp2
        exact ⟨rfl, hgr, Or.inl ⟨HN, rfl⟩⟩
  · obtain rfl : i = ps.length := by omega
    have hN : Hid (scanK numA d 1 ((ps.map bs).drop ps.length) = none) := by
      show _ = _
      rw [List.drop_eq_nil_of_le (by rw [List.length_map]; exact Nat.le_refl _)]
      cases d with
      | zero => exact scanK_deep _ _ _
      | succ d => exact scanK_none rfl
    go_enter Tryd.func41, Tryd.ntmps41
    go_wp2_with fail
    refine (next_none ps Bw g _ t v (hE.below hb0) (hL.below hb0)).mono ?_
    rintro e w1 ⟨rfl, rfl⟩
    go_wp2
    exact ⟨rfl, below_by hb0 _, Or.inl ⟨hN, rfl⟩⟩
end Go.Proofs.YtpkinlcinccccaaDoor
