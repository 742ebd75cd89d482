/- The laws' draws: what happened, twice; appends to what happened. -/
import Derived.Test.YtjahlelgdlbobaaDrawE3
import Derived.Deep.RegionLaw
namespace Go.Proofs.Ytjahlelgdlbobaa
open Go.ChangeShapes Go.WideShapes Go.ChangeAt Go.RowKit
set_option linter.unusedVariables false
set_option maxRecDepth 4000
set_option maxHeartbeats 1000000 in
theorem drawEvsOk_any (a : Option Addr) (cap : Nat) (c : List Int) (w : World) (h : Bytes w a c) (hc : c.length ≤ cap) :
    Calls Try.prog 5 #[.slice a c.length cap] w fun e w' => ∃ (v : Value) (l : List Ev), e = .returned v ∧ w'.ownsRow w.heap.size 30 3 v l.length (evCells l) ∧ l.length ≤ 25 ∧ Below w.heap.size w w' := by
  go_enter Try.func5, Try.ntmps5
  go_wp2_with fail
  refine (l14Open_any a cap c w h hc).mono ?_
  rintro e w1 ⟨rfl, hR1, hb1, hs1⟩
  have hlt1 : w.heap.size < w1.heap.size := by omega
  clear hs1
  go_wp2_with fail
  refine (l1Bent_any w.heap.size 0 w1 hR1 (by omega)).mono ?_
  rintro e w2 ⟨v, l, p', rfl, hown, hl, _, hR2, hp', hg2⟩
  have hb2 : Below w.heap.size w w2 := hb1.grown hg2 hb1.size (fun k hk => by cases hk; exact Nat.le_refl _)
  go_wp2
  go_ret
  exact ⟨v, l, rfl, hown.mono (by omega), hl, hb2⟩
set_option maxHeartbeats 1000000 in
theorem drawEvsSame_any (a : Option Addr) (cap : Nat) (c : List Int) (w : World) (h : Bytes w a c) (hc : c.length ≤ cap) :
    Calls Try.prog 6 #[.slice a c.length cap] w fun e w' => ∃ (v v' : Value) (l l' : List Ev), e = .returned (.tuple #[v, v']) ∧ w'.ownsRow w.heap.size 30 3 v l.length (evCells l) ∧ w'.ownsRow w.heap.size 30 3 v' l'.length (evCells l') ∧ l.length ≤ 25 ∧ l'.length ≤ 26 ∧ Below w.heap.size w w' := by
  obtain ⟨i0, hi, hz0, hz1, hz2⟩ := info_ev_parts
  have hlen := h.len
  unfold maxLen at hlen
  go_enter Try.func6, Try.ntmps6
  go_wp2_with fail
  refine (l14Open_any a cap c w h hc).mono ?_
  rintro e w1 ⟨rfl, hR1, hb1, hs1⟩
  have hlt1 : w.heap.size < w1.heap.size := by omega
  clear hs1
  go_wp2_with fail
  refine (l1Bent_any w.heap.size 0 w1 hR1 (by omega)).mono ?_
  rintro e w2 ⟨v, l, p', rfl, hown, hl, _, hR2, hp', hg2⟩
  have hb2 : Below w.heap.size w w2 := hb1.grown hg2 hb1.size (fun k hk => by cases hk; exact Nat.le_refl _)
  have hs2 := hg2.4
  go_wp2_with fail
  refine (l14Open_any a cap c w2 (h.below hb2) hc).mono ?_
  rintro e w3 ⟨rfl, hR3, hb3, hs3⟩
  have hlt3 : w2.heap.size < w3.heap.size := by omega
  clear hs3
  go_wp2_with fail
  refine (l1Bent_any w2.heap.size 0 w3 hR3 (by omega)).mono ?_
  rintro e w4 ⟨v', l', p4, rfl, hown4, hl4, _, hR4, hp4, hg4⟩
  have hb34 : Below w2.heap.size w2 w4 := hb3.grown hg4 hb3.size (fun k hk => by cases hk; exact Nat.le_refl _)
  have hb4 := hb2.trans (hb34.mono hb2.size)
  have hown' := eOwns_below hown hb34
  have hb4' := h.below hb4
  have hkeep : Hid (w4.ownsRow w.heap.size 30 3 v l.length (evCells l) ∧ w4.ownsRow w.heap.size 30 3 v' l'.length (evCells l') ∧ Below w.heap.size w w4) := ⟨hown'.mono (by omega), hown4.mono (by omega), hb4⟩
  cases c with
  | nil =>
    simp only [List.length_nil] at *
    go_wp2
    go_ret2
    exact ⟨v, v', l, l', rfl, hkeep.out.1, hkeep.out.2.1, hl, by omega, hkeep.out.2.2⟩
  | cons b0 bs =>
    obtain ⟨N, hN⟩ : ∃ N, (b0 :: bs).length = N := ⟨_, rfl⟩
    have hN0 : 0 < N := by rw [← hN]; simp
    obtain ⟨b, off, rfl, hbl, hcc⟩ := hb4'.cells (by simp)
    obtain ⟨e0, e1, e2⟩ := hcc 0 (by simp)
    simp only [List.getElem_cons_zero, Nat.add_zero] at e0
    rw [hN] at hc hlen ⊢
    have hN0' : (0 : Int) < (N : Int) := by omega
    clear hN hcc
    by_cases hr : b0.tmod 2 = 1
    · have hr' : (b0.tmod 2 == 1) = true := by simpa using hr
      go_wp2_with (at_builtin; refine wpList_append_own _ rfl _ _ 23 rfl w3.heap.size 30 i0 (.agg #[.int .i64 0, .int .i64 0, .int .i64 0]) 3 24 Try.underlying23 hi hz0 hz1 hz2 rfl (by decide) _ _ _ rfl (hown4.alloc _) ⟨w4.heap.size, 0, none⟩ 1 1 [.int .i64 0, .int .i64 999, .int .i64 0] rfl rfl ?c1 ?c2 ?c3 ?c4 ?c5 ?_)
      case c1 => simpa using new_ev w4 ⟨0, 999, 0⟩ 30
      case c2 => intro u hu; simp only [List.mem_cons, List.not_mem_nil, or_false] at hu; rcases hu with rfl | rfl | rfl <;> rfl
      case c3 => unfold maxLen; omega
      case c4 => omega
      case c5 => have := hg4.4; simp; omega
      intro v6 w6 hown6 hgr6 _
      have hb5 := eBelow_new w4 (.cells #[.int .i64 0, .int .i64 999, .int .i64 0] 30)
      have hb25 := hb34.trans (hb5.mono hb34.size)
      have hb26 : Below w2.heap.size w2 w6 := hb25.grown hgr6 hb25.size (fun x hx => by have := (hown4.lt x hx).1; omega)
      have hE : Hid (w6.ownsRow w.heap.size 30 3 v l.length (evCells l) ∧ w6.ownsRow w.heap.size 30 3 v6 (l' ++ [(⟨0, 999, 0⟩ : Ev)]).length (evCells (l' ++ [⟨0, 999, 0⟩])) ∧ Below w.heap.size w w6) :=
        ⟨(eOwns_below hown hb26).mono (by omega), by rw [evCells_snoc, List.length_append]; exact hown6.mono (by omega), hb2.trans (hb26.mono hb2.size)⟩
      go_wp2
      go_ret2
      exact ⟨v, v6, l, l' ++ [⟨0, 999, 0⟩], rfl, hE.out.1, hE.out.2.1, hl, by simp; omega, hE.out.2.2⟩
    · have hr' : (b0.tmod 2 == 1) = false := by simpa using hr
      go_wp2
      go_ret2
      exact ⟨v, v', l, l', rfl, hkeep.out.1, hkeep.out.2.1, hl, by omega, hkeep.out.2.2⟩
section
variable {P : Program}
/-- An append of a list to a row without room, as one step of a region that draws. -/
theorem estep_fresh {ops : Array Oper} {o : Oper} {a : Act} {W : World} {K : Act → World → Prop} {Q : Exit → Act → World → Prop} {E : Prop} (hg : o.guard = none) (s x : Operand)
    (hop : o.op = Op.call { callee := Callee.builtin Builtin.append, args := #[s, x], argTypes := #[23, 23] }) (g : Nat) (hs : a.eval s = .slice (some ⟨g, 0, none⟩) 0 0) (l : List Ev) (ax : Option Addr) (cx : Nat) (hx : a.eval x = .slice ax l.length cx) (hE : Evs W ax l) (h1 : 0 < l.length) (h2 : l.length ≤ 100)
    (hK : ∀ v' w', w'.ownsRow W.heap.size 30 3 v' l.length (evCells l) → Below W.heap.size W w' → Evs w' ax l → K (a.put o.dst v') w') : if Region.wanted o (yielded ops a.tmps) = true then Oper.wp Try.prog o a W K Q else E := by
  obtain ⟨i0, hi, hz0, hz1, hz2⟩ := info_ev_parts
  have hE0 := hE
  obtain ⟨b, off, rfl, hlt, hc⟩ := hE.cells h1
  have hcell : ∀ j u, (evCells l)[j]? = some u → W.cell? ((⟨b, off, none⟩ : Addr).add j) = some u := by
    intro j u hj
    have hjl : j < l.length * 3 := by rw [← evCells_length]; exact (List.getElem?_eq_some_iff.1 hj).1
    rw [add_plain]
    obtain ⟨k0, k1, k2⟩ := hc (j / 3) (by omega)
    obtain ⟨e0, e1, e2⟩ := evCells_get l (j / 3) (by omega)
    have h3 : j % 3 = 0 ∨ j % 3 = 1 ∨ j % 3 = 2 := by omega
    rcases h3 with h3 | h3 | h3
    · have ej : j = j / 3 * 3 := by omega
      rw [ej, e0] at hj
      rw [ej, k0]; exact hj
    · have ej : j = j / 3 * 3 + 1 := by omega
      rw [ej, e1] at hj
      rw [ej, ← Nat.add_assoc, k1]; exact hj
    · have ej : j = j / 3 * 3 + 2 := by omega
      rw [ej, e2] at hj
      rw [ej, ← Nat.add_assoc, k2]; exact hj
  obtain ⟨v', w', r, r1, r2⟩ := run_append_arg_grows (P := Try.prog) W 23 o.type 30 i0 (.agg #[.int .i64 0, .int .i64 0, .int .i64 0]) 3 24 Try.underlying23 hi hz0 hz1 hz2 rfl (by decide) ⟨g, 0, none⟩ 0 0 [] rfl (by intro j u hj; simp at hj) ⟨b, off, none⟩ l.length cx (evCells l) (evCells_length l) hcell (by omega) (by unfold maxLen; omega) (by omega)
  have hw : Region.wanted o (yielded ops a.tmps) = true := by simp [Region.wanted, hg]
  rw [if_pos hw]
  unfold Oper.wp
  simp [execOp, hop, resolve, invoke, builtin, hs, hx, r, Result.andThen]
  have hb : Below W.heap.size W w' := ⟨r2.1, r2.2, r2.3, r2.4, fun k hk => r2.5 k hk (by simp)⟩
  refine hK _ _ ?_ hb (hE0.below hb)
  simpa using r1
/-- An append of one to a row of one's own, as one step of a region that draws. -/
theorem estep_one {ops : Array Oper} {o : Oper} {a : Act} {W : World} {K : Act → World → Prop} {Q : Exit → Act → World → Prop} {E : Prop} (hg : o.guard = none) (s x : Operand)
    (hop : o.op = Op.call { callee := Callee.builtin Builtin.append, args := #[s, x], argTypes := #[23, 23] }) (B : Nat) (v : Value) (l : List Ev) (hs : a.eval s = v) (hown : W.ownsRow B 30 3 v l.length (evCells l)) (hB : B ≤ W.heap.size) (b : Nat) (y : Ev) (hx : a.eval x = .slice (some ⟨b, 0, none⟩) 1 1)
    (hn : W.heap[b]? = some (.cells #[.int .i64 y.sym, .int .i64 y.at', .int .i64 y.val] 30 (0, 0))) (h2 : l.length ≤ 100)
    (hK : ∀ v' w', w'.ownsRow B 30 3 v' (l ++ [y]).length (evCells (l ++ [y])) → W.grownBy w' v.ownBlock → K (a.put o.dst v') w') : if Region.wanted o (yielded ops a.tmps) = true then Oper.wp Try.prog o a W K Q else E := by
  obtain ⟨i0, hi, hz0, hz1, hz2⟩ := info_ev_parts
  obtain ⟨v', w', r, r1, r2, _⟩ := run_append_own (P := Try.prog) W B 23 o.type 30 i0 (.agg #[.int .i64 0, .int .i64 0, .int .i64 0]) 3 24 Try.underlying23 hi hz0 hz1 hz2 rfl (by decide) v l.length (evCells l) hown ⟨b, 0, none⟩ 1 1 [.int .i64 y.sym, .int .i64 y.at', .int .i64 y.val] rfl
    (by intro j u hj; rw [add_plain, oCellD hn]; simpa using hj) (by intro u hu; simp at hu; rcases hu with rfl | rfl | rfl <;> rfl) (by unfold maxLen; omega) (by omega) hB
  have hw : Region.wanted o (yielded ops a.tmps) = true := by simp [Region.wanted, hg]
  rw [if_pos hw]
  unfold Oper.wp
  simp [execOp, hop, resolve, invoke, builtin, hs, hx, r, Result.andThen]
  refine hK _ _ ?_ r2
  rw [evCells_snoc, List.length_append]; exact r1
end
end Go.Proofs.Ytjahlelgdlbobaa
