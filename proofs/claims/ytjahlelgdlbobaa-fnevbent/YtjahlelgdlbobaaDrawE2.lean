/- The laws' draws: what happened, one in ten bent. -/
import Derived.Test.YtjahlelgdlbobaaDrawE
namespace Go.Proofs.Ytjahlelgdlbobaa
open Go.ChangeShapes Go.WideShapes Go.ChangeAt Go.RowKit
set_option linter.unusedVariables false
set_option maxRecDepth 4000
theorem evCells_cons (e : Ev) (r : List Ev) : evCells (e :: r) = .int .i64 e.sym :: .int .i64 e.at' :: .int .i64 e.val :: evCells r := by simp [evCells]
theorem evCells_set0 : ∀ (l : List Ev) (k : Nat) (h : k < l.length) (x : Int), (evCells l).set (k * 3) (.int .i64 x) = evCells (l.set k ⟨x, l[k].at', l[k].val⟩)
  | e :: r, 0, _, x => by simp [evCells_cons]
  | e :: r, k + 1, h, x => by
    have := evCells_set0 r k (by simpa using h) x
    rw [show (k + 1) * 3 = k * 3 + 1 + 1 + 1 by omega]
    simp [evCells_cons, this]
theorem evCells_set1 : ∀ (l : List Ev) (k : Nat) (h : k < l.length) (x : Int), (evCells l).set (k * 3 + 1) (.int .i64 x) = evCells (l.set k ⟨l[k].sym, x, l[k].val⟩)
  | e :: r, 0, _, x => by simp [evCells_cons]
  | e :: r, k + 1, h, x => by
    have := evCells_set1 r k (by simpa using h) x
    rw [show (k + 1) * 3 + 1 = k * 3 + 1 + 1 + 1 + 1 by omega]
    simp [evCells_cons, this]
theorem evCells_set2 : ∀ (l : List Ev) (k : Nat) (h : k < l.length) (x : Int), (evCells l).set (k * 3 + 2) (.int .i64 x) = evCells (l.set k ⟨l[k].sym, l[k].at', x⟩)
  | e :: r, 0, _, x => by simp [evCells_cons]
  | e :: r, k + 1, h, x => by
    have := evCells_set2 r k (by simpa using h) x
    rw [show (k + 1) * 3 + 2 = k * 3 + 2 + 1 + 1 + 1 by omega]
    simp [evCells_cons, this]
/-- One cell of a row of the call's own is written. -/
theorem own_set {w : World} {B g n cap j z : Nat} {t : TypeId} {xs : List Value} (h : w.ownsRow B t z (.slice (some ⟨g, 0, none⟩) n cap) n xs) (hj : j < n * z) (u : Value) :
    (w.setCell ⟨g, j, none⟩ u).ownsRow B t z (.slice (some ⟨g, 0, none⟩) n cap) n (xs.set j u) ∧ w.grownBy (w.setCell ⟨g, j, none⟩ u) (some g) ∧ (∃ y, w.cell? ⟨g, j, none⟩ = some y) ∧ w.frozen? ⟨g, j, none⟩ = false := by
  rcases h.2 with ⟨e, _⟩ | ⟨g', cap', cur, e, hb, hg, hn, hcm, hcs, htk⟩
  · cases e
  · simp only [Value.slice.injEq, Option.some.injEq, Addr.mk.injEq, and_true, true_and] at e
    obtain ⟨rfl, rfl⟩ := e
    have hjc : j < cur.size := by
      have : n * z ≤ cap * z := Nat.mul_le_mul_right _ hn
      omega
    refine ⟨⟨by rw [List.length_set]; exact h.1, .inr ⟨g, cap, _, rfl, hb, heap_setCell_same _ _ _ _ _ _ hg, hn, hcm, by simpa using hcs, ?_⟩⟩, ⟨rfl, rfl, rfl, by simp, fun b _ hb => Below.heap_setCell _ _ _ _ (fun e => hb (by rw [e]))⟩, ⟨cur[j], by rw [oCellD hg]; exact Array.getElem?_eq_getElem hjc⟩, by simp [World.frozen?, hg]⟩
    rw [← htk]
    simp [List.take_set]
theorem set_bound {l : List Ev} {k : Nat} {e : Ev} (h : ∀ x ∈ l, 0 ≤ x.at' ∧ x.at' ≤ 1200) (he : 0 ≤ e.at' ∧ e.at' ≤ 1200) : ∀ x ∈ l.set k e, 0 ≤ x.at' ∧ x.at' ≤ 1200 := fun x hx => by
  rcases List.mem_or_eq_of_mem_set hx with hx | rfl
  · exact h x hx
  · exact he
def sliceLenE : Value → Nat
  | .slice _ n _ => n
  | _ => 0
theorem wide {l : List Ev} (h : ∀ x ∈ l, 0 ≤ x.at' ∧ x.at' ≤ 1200) : ∀ x ∈ l, 0 ≤ x.at' ∧ x.at' ≤ 2000 := fun x hx => by have := h x hx; omega
theorem mem_at {l : List Ev} (h : ∀ x ∈ l, 0 ≤ x.at' ∧ x.at' ≤ 1200) {k : Nat} (hk : k < l.length) : 0 ≤ l[k].at' ∧ l[k].at' ≤ 1200 := h _ (List.getElem_mem hk)
set_option maxHeartbeats 4000000 in
theorem l1Bent_any (R p : Nat) (w : World) (h : Rd w R p) (hp : p ≤ 80000) : Calls Try.prog 15 #[.pointer (some ⟨R, 0, none⟩)] w (EvsDraw w R p 50 25 2000) := by
  obtain ⟨i0, hi, hz0, hz1, hz2⟩ := info_ev_parts
  have hRl := h.lt
  go_enter Try.func15, Try.ntmps15
  go_wp2_with fail
  refine (l1Evs_any R p w h (by omega)).mono ?_
  rintro e w1 ⟨v, l, p1, rfl, hown1, hl12, hbd, hR1, hp1, gr1⟩
  obtain ⟨av, cv, rfl, hO1⟩ := evOwn_of hown1
  by_cases hl0 : l.length = 0
  · have hl0' : ((l.length : Int) == 0) = true := by simp; exact List.eq_nil_of_length_eq_zero hl0
    have Hl0 : Hid (l.length = 0) := hl0
    clear hl0
    go_wp2
    go_ret
    exact ⟨_, l, p1, rfl, hown1, by omega, wide hbd.out, hR1, by omega, gr1⟩
  · have hl0' : ((l.length : Int) == 0) = false := by simp; intro e; exact hl0 (by rw [e]; rfl)
    obtain ⟨g, rfl, hgw⟩ : ∃ g, av = some ⟨g, 0, none⟩ ∧ w.heap.size ≤ g := by
      rcases hown1.2 with ⟨_, e⟩ | ⟨g, cap, cur, e, hb, _⟩
      · exact absurd e hl0
      · simp only [Value.slice.injEq] at e
        exact ⟨g, e.1, hb⟩
    clear hO1
    go_wp2_with fail
    refine (pick_any R (l.length : Int) p1 _ hR1 (by omega) (by omega) (by omega)).mono ?_
    rintro e w2 ⟨k, rfl, _, hk', hR2, hg2⟩
    have hk : k < l.length := by have := hk' (by omega); omega
    have gr2 := grownBy_trans gr1 hg2
    have hown2 := hown1.kept hg2 (.inr fun e => by have : g = R := Option.some.inj e; omega)
    clear hk'
    go_wp2_with fail
    refine (pick_any R 40 (p1 + 1) _ hR2 (by omega) (by omega) (by omega)).mono ?_
    rintro e w3 ⟨q, rfl, _, hq', hR3, hg3⟩
    have hq40 : (q : Int) < 40 := hq' (by omega)
    have gr3 := grownBy_trans gr2 hg3
    have hown3 := hown2.kept hg3 (.inr fun e => by have : g = R := Option.some.inj e; omega)
    have hs3 := gr3.4
    clear hq'
    by_cases hq0 : q = 0
    · subst hq0
      have hr4 : Ints (w3.alloc (.cells #[.int .i64 (-1), .int .i64 5] 3)) _ [-1, 5] := ints_new w3 [-1, 5] (by simp [maxLen]) 3
      have hb4 := eBelow_new w3 (.cells #[.int .i64 (-1), .int .i64 5] 3)
      go_wp2_with fail
      refine (num_any R _ 2 [-1, 5] (p1 + 1 + 1) _ (hR3.below hb4) (by omega) hr4 (by simp) (by simp) (fun x hx => by cases hx; show w3.heap.size ≠ R; omega)).mono ?_
      rintro e w4 ⟨y, hy, rfl, hR4, hg4⟩
      have gr4 : w.grownBy w4 (some R) := grownBy_trans (grownBy_trans gr3 (eGrown hb4)) hg4
      have hown4 := (eOwns_below hown3 hb4).kept hg4 (.inr fun e => by have : g = R := Option.some.inj e; omega)
      obtain ⟨hown5, hg5, ⟨z, hz⟩, hfz⟩ := own_set hown4 (j := k * 3) (by omega) (.int .i64 y)
      rw [evCells_set0 l k hk y] at hown5
      have hR5 := hR4.grown hg5 (by omega)
      have gr5 := eGrown_new gr4 hg5 (fun x hx => by cases hx; omega)
      have hset : Hid (∀ x ∈ l.set k ⟨y, l[k].at', l[k].val⟩, 0 ≤ x.at' ∧ x.at' ≤ 2000) := wide (set_bound hbd.out (mem_at hbd.out hk))
      clear hy hr4
      go_wp2
      go_ret
      refine ⟨_, l.set k ⟨y, l[k].at', l[k].val⟩, p1 + 1 + 1 + 1, rfl, ?_, by rw [List.length_set]; omega, hset, hR5, by omega, gr5⟩
      rw [List.length_set]; exact hown5
    by_cases hq1 : q = 1
    · subst hq1
      obtain ⟨y0, hy0, hyb⟩ : ∃ y0, w3.cell? ⟨g, 1, none⟩ = some (.int .i64 y0) ∧ 0 ≤ y0 ∧ y0 ≤ 1200 := by
        obtain ⟨a', c', e, hO⟩ := evOwn_of hown3
        simp only [Value.slice.injEq] at e
        obtain ⟨rfl, _, _⟩ := e
        obtain ⟨b, off, e, _, hc⟩ := hO.evs.cells (by omega)
        cases e
        have := (hc 0 (by omega)).2.1
        exact ⟨_, by simpa using this, mem_at hbd.out _⟩
      have hr4 : Ints (w3.alloc (.cells #[.int .i64 0, .int .i64 1001, .int .i64 y0] 3)) _ [0, 1001, y0] := ints_new w3 [0, 1001, y0] (by simp [maxLen]) 3
      have hb4 := eBelow_new w3 (.cells #[.int .i64 0, .int .i64 1001, .int .i64 y0] 3)
      go_wp2_with fail
      refine (num_any R _ 3 [0, 1001, y0] (p1 + 1 + 1) _ (hR3.below hb4) (by omega) hr4 (by simp) (by simp) (fun x hx => by cases hx; show w3.heap.size ≠ R; omega)).mono ?_
      rintro e w4 ⟨y, hy, rfl, hR4, hg4⟩
      have gr4 : w.grownBy w4 (some R) := grownBy_trans (grownBy_trans gr3 (eGrown hb4)) hg4
      have hown4 := (eOwns_below hown3 hb4).kept hg4 (.inr fun e => by have : g = R := Option.some.inj e; omega)
      obtain ⟨hown5, hg5, ⟨z, hz⟩, hfz⟩ := own_set hown4 (j := k * 3 + 1) (by omega) (.int .i64 y)
      rw [evCells_set1 l k hk y] at hown5
      have hR5 := hR4.grown hg5 (by omega)
      have gr5 := eGrown_new gr4 hg5 (fun x hx => by cases hx; omega)
      have hset : Hid (∀ x ∈ l.set k ⟨l[k].sym, y, l[k].val⟩, 0 ≤ x.at' ∧ x.at' ≤ 2000) := wide (set_bound hbd.out (by show 0 ≤ y ∧ y ≤ 1200; simp only [List.mem_cons, List.not_mem_nil, or_false] at hy; omega))
      clear hy hr4
      go_wp2
      go_ret
      refine ⟨_, l.set k ⟨l[k].sym, y, l[k].val⟩, p1 + 1 + 1 + 1, rfl, ?_, by rw [List.length_set]; omega, hset, hR5, by omega, gr5⟩
      rw [List.length_set]; exact hown5
    by_cases hq2 : q = 2
    · subst hq2
      have hr4 : Ints (w3.alloc (.cells #[.int .i64 (-1), .int .i64 101] 3)) _ [-1, 101] := ints_new w3 [-1, 101] (by simp [maxLen]) 3
      have hb4 := eBelow_new w3 (.cells #[.int .i64 (-1), .int .i64 101] 3)
      go_wp2_with fail
      refine (num_any R _ 2 [-1, 101] (p1 + 1 + 1) _ (hR3.below hb4) (by omega) hr4 (by simp) (by simp) (fun x hx => by cases hx; show w3.heap.size ≠ R; omega)).mono ?_
      rintro e w4 ⟨y, hy, rfl, hR4, hg4⟩
      have gr4 : w.grownBy w4 (some R) := grownBy_trans (grownBy_trans gr3 (eGrown hb4)) hg4
      have hown4 := (eOwns_below hown3 hb4).kept hg4 (.inr fun e => by have : g = R := Option.some.inj e; omega)
      obtain ⟨hown5, hg5, ⟨z, hz⟩, hfz⟩ := own_set hown4 (j := k * 3 + 2) (by omega) (.int .i64 y)
      rw [evCells_set2 l k hk y] at hown5
      have hR5 := hR4.grown hg5 (by omega)
      have gr5 := eGrown_new gr4 hg5 (fun x hx => by cases hx; omega)
      have hset : Hid (∀ x ∈ l.set k ⟨l[k].sym, l[k].at', y⟩, 0 ≤ x.at' ∧ x.at' ≤ 2000) := wide (set_bound hbd.out (mem_at hbd.out hk))
      clear hy hr4
      go_wp2
      go_ret
      refine ⟨_, l.set k ⟨l[k].sym, l[k].at', y⟩, p1 + 1 + 1 + 1, rfl, ?_, by rw [List.length_set]; omega, hset, hR5, by omega, gr5⟩
      rw [List.length_set]; exact hown5
    by_cases hq3 : q = 3
    · subst hq3
      clear hk hown1 hown2 hR1 hR2 hg2 hg3 gr1 gr2
      go_wp2_with fail
      go_loopw [3] (fun v wr => ∃ (l' : List Ev) (g' c' : Nat), v = .slice (some ⟨g', 0, none⟩) l'.length c' ∧ l.length ≤ l'.length ∧ l'.length ≤ 25 ∧ wr.ownsRow w.heap.size 30 3 (.slice (some ⟨g', 0, none⟩) l'.length c') l'.length (evCells l') ∧ Hid (∀ x ∈ l', 0 ≤ x.at' ∧ x.at' ≤ 1200 + l'.length) ∧ Rd wr R (p1 + 1 + 1) ∧ w.grownBy wr (some R)) (fun v _ => 25 - sliceLenE v)
      case atStart => exact ⟨l, g, cv, rfl, Nat.le_refl _, by omega, hown3, (fun x hx => by have := hbd.out x hx; omega), hR3, gr3⟩
      case round =>
        obtain ⟨l', g', c', rfl, hll, hl25, hown, hb', hRr, hgr⟩ := hrel
        have hsz := hgr.4
        have Hll : Hid (l.length ≤ l'.length) := hll
        by_cases h24 : l'.length ≤ 24
        · have h24' : (l'.length : Int) ≤ 24 := by omega
          have hgw' := (hown.lt g' rfl).1
          obtain ⟨y0, hy0, hyb⟩ : ∃ y0, wr.cell? ⟨g', (l'.length - 1) * 3 + 1, none⟩ = some (.int .i64 y0) ∧ 0 ≤ y0 ∧ y0 ≤ 1200 + l'.length := by
            obtain ⟨a', c'', e, hO⟩ := evOwn_of hown
            simp only [Value.slice.injEq] at e
            obtain ⟨rfl, _, _⟩ := e
            obtain ⟨b, off, e, _, hc⟩ := hO.evs.cells (by omega)
            cases e
            have := (hc (l'.length - 1) (by omega)).2.1
            exact ⟨_, by simpa using this, hb'.out _ (List.getElem_mem _)⟩
          obtain ⟨m, hm⟩ : ∃ m, l'.length = m + 1 := ⟨l'.length - 1, by omega⟩
          have Hm : Hid (l'.length = m + 1) := hm
          have hm24 : m ≤ 23 := by omega
          rw [hm, Nat.add_sub_cancel] at hy0
          rw [hm] at hown h24' hyb ⊢
          have hm1 : ((m + 1 : Nat) : Int) - 1 = m := by omega
          clear hm h24 hl25 hll
          go_wp2_with (at_builtin; refine wpList_append_own _ rfl _ _ 23 rfl w.heap.size 30 i0 (.agg #[.int .i64 0, .int .i64 0, .int .i64 0]) 3 24 Try.underlying23 hi hz0 hz1 hz2 rfl (by decide) _ _ _ rfl (hown.alloc _) ⟨wr.heap.size, 0, none⟩ 1 1 [.int .i64 0, .int .i64 (y0 + 1), .int .i64 0] rfl rfl ?c1 ?c2 ?c3 ?c4 ?c5 ?_)
          case c1 => simpa using new_ev wr ⟨0, y0 + 1, 0⟩ 30
          case c2 => intro u hu; simp at hu; rcases hu with rfl | rfl | rfl <;> rfl
          case c3 => unfold maxLen; omega
          case c4 => omega
          case c5 => simp; omega
          intro v' w5 hown5 hgr5 _
          have hb4 := eBelow_new wr (.cells #[.int .i64 0, .int .i64 (y0 + 1), .int .i64 0] 30)
          have gr5 : w.grownBy w5 (some R) := eGrown_new (grownBy_trans hgr (eGrown hb4)) hgr5 (fun x hx => (hown.lt x hx).1)
          have hR5 := (hRr.below hb4).row hgr5 (fun b hb => by have := (hown.lt b hb).1; omega)
          obtain ⟨g5, c5, rfl⟩ : ∃ g5 c5, v' = .slice (some ⟨g5, 0, none⟩) (m + 1 + 1) c5 := by
            rcases hown5.2 with ⟨_, e⟩ | ⟨g5, c5, cur, e, _⟩
            · omega
            · exact ⟨g5, c5, e⟩
          go_wp2
          have hlen5 : (l' ++ [(⟨0, y0 + 1, 0⟩ : Ev)]).length = m + 1 + 1 := by rw [List.length_append, Hm.out]; rfl
          refine ⟨⟨l' ++ [⟨0, y0 + 1, 0⟩], g5, c5, by rw [hlen5], ?_, by omega, ?_, ?_, hR5, gr5⟩, by simp [sliceLenE]; omega⟩
          · have := Hm.out; have := Hll.out; omega
          · rw [evCells_snoc, hlen5]; exact hown5
          · intro x hx
            rcases List.mem_append.1 hx with hx | hx
            · have h1 := hb'.out x hx
              have h2 := Hm.out
              show _ ∧ _
              omega
            · simp only [List.mem_singleton] at hx
              subst hx
              show 0 ≤ y0 + 1 ∧ y0 + 1 ≤ _
              omega
        · go_wp2
          go_ret
          exact ⟨_, l', p1 + 1 + 1, rfl, hown, hl25, (fun x hx => by have := hb'.out x hx; omega), hRr, by omega, hgr⟩
    · have q0 : ((q : Int) == 0) = false := by rw [beq_eq_false_iff_ne]; omega
      have q1 : ((q : Int) == 1) = false := by rw [beq_eq_false_iff_ne]; omega
      have q2 : ((q : Int) == 2) = false := by rw [beq_eq_false_iff_ne]; omega
      have q3 : ((q : Int) == 3) = false := by rw [beq_eq_false_iff_ne]; omega
      go_wp2
      go_ret
      exact ⟨_, l, p1 + 1 + 1, rfl, hown3, by omega, wide hbd.out, hR3, by omega, gr3⟩
end Go.Proofs.Ytjahlelgdlbobaa
