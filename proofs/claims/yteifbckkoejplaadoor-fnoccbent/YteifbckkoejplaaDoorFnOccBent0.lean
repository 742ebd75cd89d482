/- Appends of the law on bent places, ahead of its walk. -/
import Derived.Test.YteifbckkoejplaaDoorDraw5
import Derived.Test.YteifbckkoejplaaDoorOccPut1
import Derived.Test.YteifbckkoejplaaDoorOccJ4
namespace Go.Proofs.YteifbckkoejplaaDoor
open Go.ChangeShapes Go.WideShapes Go.ChangeAt Go.RowKit
set_option linter.unusedVariables false
set_option maxRecDepth 4000

theorem wp_join {P : Program} {c : Code} {Q : Exit → Act → World → Prop} {a : Act} {w : World} (R : Act → Act → World → Prop)
    (h1 : c.wp P (fun e a' w' => match e with | .normal => R a a' w' | _ => False) a w) (h2 : ∀ a' w', R a a' w' → Q .normal a' w') : c.wp P Q a w := by
  refine wp_mono h1 ?_
  rintro (_ | _ | _ | _ | _ | _) a' w1 hq
  all_goals first | exact h2 _ _ hq | exact hq.elim
def putSlots (a : Act) (l : List (Nat × Value)) : Act := { a with tmps := l.foldl (fun t p => t.setIfInBounds p.1 p.2) a.tmps }

theorem Occs.rest {w : World} {b off : Nat} {x : Occ} {r : List Occ} (h : Occs w (some ⟨b, off, none⟩) (x :: r)) : Occs w (some ⟨b, off + 3, none⟩) r := by
  refine ⟨by have := h.len; simp at this; omega, fun hl => ?_⟩
  obtain ⟨b', off', e, hlt, hc⟩ := h.cells (by simp)
  cases e
  refine ⟨b, off + 3, rfl, hlt, fun i hi => ?_⟩
  have := hc (i + 1) (by simpa using hi)
  rw [show off + (i + 1) * 3 = off + 3 + i * 3 by omega] at this
  simpa using this
theorem cells_of_occs {w : World} {b : Nat} : ∀ (l : List Occ) (off : Nat), Occs w (some ⟨b, off, none⟩) l →
    ∃ M : List OC, M.map (·.o) = l ∧ (∀ j u, (ocCells M)[j]? = some u → w.cell? ((⟨b, off, none⟩ : Addr).add j) = some u) ∧ ∀ x ∈ M, Ints w x.a x.o.ids
  | [], off, _ => ⟨[], rfl, by intro j u h; simp [ocCells] at h, by simp⟩
  | x :: r, off, h => by
    obtain ⟨M, h1, h2, h3⟩ := cells_of_occs r (off + 3) h.rest
    obtain ⟨b', off', e, _, hc⟩ := h.cells (by simp)
    cases e
    obtain ⟨d0, d1, a, cap, d2, hi⟩ := hc 0 (by simp)
    simp only [Nat.zero_mul, Nat.add_zero, List.getElem_cons_zero] at d0 d1 d2 hi
    refine ⟨⟨x, a, cap⟩ :: M, by simp [h1], ?_, ?_⟩
    · intro j u hj
      have e : ocCells ((⟨x, a, cap⟩ : OC) :: M) = OC.v ⟨x, a, cap⟩ ++ ocCells M := by simp [ocCells]
      rw [e] at hj
      rw [add_plain]
      match j, hj with
      | 0, hj => simp [OC.v] at hj; subst hj; exact d0
      | 1, hj => simp [OC.v] at hj; subst hj; exact d1
      | 2, hj => simp [OC.v] at hj; subst hj; exact d2
      | j + 3, hj =>
        rw [List.getElem?_append_right (by simp [OC.v])] at hj
        have := h2 j u (by simpa [OC.v] using hj)
        rw [add_plain] at this
        rw [show off + (j + 3) = off + 3 + j by omega]
        exact this
    · intro z hz
      rcases List.mem_cons.1 hz with rfl | hz
      · exact hi
      · exact h3 z hz

/-- All of a list appended to an empty row. -/
theorem app_list {w6 W : World} {e b off cl N : Nat} {M : List OC} (hW : Below w6.heap.size w6 W) (hE : W.ownsRow w6.heap.size 25 3 (.slice (some ⟨e, 0, none⟩) 0 0) 0 []) (hbl : b < w6.heap.size)
    (hM : ∀ j u, (ocCells M)[j]? = some u → w6.cell? ((⟨b, off, none⟩ : Addr).add j) = some u) (hN : M.length = N) (h7 : N ≤ 7) :
    ∃ v5 w5, (Builtin.append_ #[27, 27] 27 #[.slice (some ⟨e, 0, none⟩) 0 0, .slice (some ⟨b, off, none⟩) N cl]).run Tryd.prog W = .ok v5 w5 ∧ w5.ownsRow w6.heap.size 25 3 v5 N (ocCells M) ∧ W.grownBy w5 (some e) ∧
      (∀ k, v5.ownBlock = some k → k = e ∨ W.heap.size ≤ k) ∧ Below w6.heap.size w6 w5 := by
  obtain ⟨i0, hi, hz0, hz1, hz2⟩ := info_occ_parts
  obtain ⟨v5, w5, hrun, q1, q2, q3⟩ := oAppend_where (P := Tryd.prog) W w6.heap.size 27 27 25 i0 (.agg #[.int .i64 0, .int .i64 0, .slice none 0 0]) 3 40 Tryd.underlying27 hi hz0 hz1 hz2 rfl (by decide) (.slice (some ⟨e, 0, none⟩) 0 0) 0 [] hE ⟨b, off, none⟩ N cl (ocCells M) (by rw [ocCells_length, hN]) (fun j u hj => (hW.cell (by rw [add_plain]; exact hbl)).trans (hM j u hj)) (ocCells_one _) (by unfold maxLen; omega) (by omega) hW.size
  refine ⟨v5, w5, hrun, by simpa using q1, q2, fun k hk => ?_, hW.grown q2 hW.size (fun k hk => (hE.lt k hk).1)⟩
  rcases q3 k hk with h | h
  · left; cases h; rfl
  · exact .inr h
/-- One more behind. -/
theorem app_one {w6 W : World} {S N : Nat} {v5 : Value} {M : List OC} {y : OC} (hW : Below w6.heap.size w6 W) (hrow : W.ownsRow w6.heap.size 25 3 v5 N (ocCells M)) (hN : M.length = N) (h7 : N ≤ 7)
    (hS : W.heap[S]? = some (.cells #[.int .i64 y.o.fr, .int .i64 y.o.tl, .slice y.a y.o.ids.length y.c] 25 (0, 0))) :
    ∃ v6 w7, (Builtin.append_ #[27, 27] 27 #[v5, .slice (some ⟨S, 0, none⟩) 1 1]).run Tryd.prog W = .ok v6 w7 ∧ w7.ownsRow w6.heap.size 25 3 v6 (N + 1) (ocCells (M ++ [y])) ∧ Below w6.heap.size w6 w7 := by
  obtain ⟨i0, hi, hz0, hz1, hz2⟩ := info_occ_parts
  obtain ⟨v6, w7, hrun, q1, q2, q3⟩ := oAppend_where (P := Tryd.prog) W w6.heap.size 27 27 25 i0 (.agg #[.int .i64 0, .int .i64 0, .slice none 0 0]) 3 40 Tryd.underlying27 hi hz0 hz1 hz2 rfl (by decide) v5 N (ocCells M) hrow ⟨S, 0, none⟩ 1 1 y.v rfl (vb_cells hS) (ocv_one y) (by unfold maxLen; omega) (by omega) hW.size
  exact ⟨v6, w7, hrun, by rw [ocCells_snoc]; exact q1, hW.grown q2 hW.size (fun k hk => (hrow.lt k hk).1)⟩
/-- All numbers of a list appended to an empty row. -/
theorem iapp_list {w6 W : World} {e b off cl : Nat} {l : List Int} (hW : Below w6.heap.size w6 W) (hE : W.ownsRow w6.heap.size 3 1 (.slice (some ⟨e, 0, none⟩) 0 0) 0 []) (hI : Ints w6 (some ⟨b, off, none⟩) l) (hbl : b < w6.heap.size) (h7 : l.length ≤ 100) :
    ∃ a5 c5 w5, (Builtin.append_ #[23, 23] 23 #[.slice (some ⟨e, 0, none⟩) 0 0, .slice (some ⟨b, off, none⟩) l.length cl]).run Tryd.prog W = .ok (.slice a5 l.length c5) w5 ∧ w5.ownsRow w6.heap.size 3 1 (.slice a5 l.length c5) l.length (intCells l) ∧ W.grownBy w5 (some e) ∧ Below w6.heap.size w6 w5 := by
  obtain ⟨i0, hi, hz0, hz1, hz2⟩ := info_int_parts
  obtain ⟨v5, w5, hrun, q1, q2, q3⟩ := oAppend_where (P := Tryd.prog) W w6.heap.size 23 23 3 i0 (.int .i64 0) 1 8 Tryd.underlying23 hi hz0 hz1 hz2 rfl (by decide) (.slice (some ⟨e, 0, none⟩) 0 0) 0 [] hE ⟨b, off, none⟩ l.length cl (intCells l) (by simp [intCells]) (fun j u hj => (hW.cell (by rw [add_plain]; exact hbl)).trans (ints_cells hI rfl j u hj)) (intCells_one l) (by unfold maxLen; omega) (by omega) hW.size
  have q1' : w5.ownsRow w6.heap.size 3 1 v5 l.length (intCells l) := by simpa using q1
  obtain ⟨a5, c5, rfl⟩ := pOwns_slice q1'
  exact ⟨a5, c5, w5, hrun, q1', q2, hW.grown q2 hW.size (fun k hk => (hE.lt k hk).1)⟩
theorem iapp_one {w6 W : World} {S c5 : Nat} {a5 : Option Addr} {l : List Int} {z : Int} (hW : Below w6.heap.size w6 W) (hrow : W.ownsRow w6.heap.size 3 1 (.slice a5 l.length c5) l.length (intCells l)) (h7 : l.length ≤ 100) (hS : W.heap[S]? = some (.cells #[.int .i64 z] 3 (0, 0))) :
    ∃ a6 c6 w7, (Builtin.append_ #[23, 23] 23 #[.slice a5 l.length c5, .slice (some ⟨S, 0, none⟩) 1 1]).run Tryd.prog W = .ok (.slice a6 (l.length + 1) c6) w7 ∧ w7.ownsRow w6.heap.size 3 1 (.slice a6 (l.length + 1) c6) (l.length + 1) (intCells (l ++ [z])) ∧ Below w6.heap.size w6 w7 := by
  obtain ⟨i0, hi, hz0, hz1, hz2⟩ := info_int_parts
  obtain ⟨v6, w7, hrun, q1, q2, q3⟩ := oAppend_where (P := Tryd.prog) W w6.heap.size 23 23 3 i0 (.int .i64 0) 1 8 Tryd.underlying23 hi hz0 hz1 hz2 rfl (by decide) (.slice a5 l.length c5) l.length (intCells l) hrow ⟨S, 0, none⟩ 1 1 [.int .i64 z] rfl (fun j u hj => by
    match j, hj with
    | 0, hj => simp at hj; subst hj; rw [add_plain, oCell hS]; rfl) (by simp [Value.oneCell']) (by unfold maxLen; omega) (by omega) hW.size
  obtain ⟨a6, c6, rfl⟩ := pOwns_slice q1
  exact ⟨a6, c6, w7, hrun, by rw [intCells_snoc]; exact q1, hW.grown q2 hW.size (fun k hk => (hrow.lt k hk).1)⟩
theorem box3_set {w : World} {A b p : Nat} {v0 v1 v2 v : Value} (h : Box3 w A v0 v1 v2) (hne : A ≠ b) : Box3 (w.setCell ⟨b, p, none⟩ v) A v0 v1 v2 := by
  obtain ⟨t, f, h⟩ := h
  exact ⟨t, f, (Below.heap_setCell _ _ _ _ hne).trans h⟩
theorem box3_put2 {w : World} {A : Nat} {v0 v1 v2 : Value} (h : Box3 w A v0 v1 v2) (v : Value) : Box3 (w.setCell ⟨A, 2, none⟩ v) A v0 v1 v := by
  obtain ⟨t, f, h⟩ := h
  exact ⟨t, f, by simp [World.setCell, Array.getElem?_modify, h]⟩
theorem row_ints {w : World} {B : Nat} {a : Option Addr} {n cap : Nat} {l : List Int} (h : w.ownsRow B 3 1 (.slice a n cap) l.length (intCells l)) : Ints w a l := (pOwn_of_row h).ints
theorem occOkB_late (f t : Int) (l : List Int) (h : t < f) : occOkB f t l = false := by
  unfold occOkB
  rw [decide_eq_false (by omega)]
  rfl
theorem twice_last {f t z : Int} {l : List Int} (h : z ∈ l) : occOkB f t (l ++ [z]) = false := by
  rw [Bool.eq_false_iff]
  intro hc
  simp only [occOkB, Bool.and_eq_true] at hc
  have ha := (idsFrom_asc _ _ hc.2).1
  have := (List.pairwise_append.1 ha).2.2 z h z (by simp)
  omega
theorem ints_none (w : World) : Ints w none [] := ⟨by simp, fun h => absurd h (by simp)⟩
/-- A list with its first behind it is not ok. -/
theorem twice_bad {y : Occ} {s : List Occ} (h : occsOkB (y :: s) = true) : occsOkB (y :: s ++ [y]) = false := by
  rw [Bool.eq_false_iff]
  intro hc
  have h2 := asc_ok hc
  have h3 : AscO (y :: (s ++ [y])) := h2
  have h4 := (List.pairwise_cons.1 h3).1 y (by simp)
  exact ocmp_irr y h4
end Go.Proofs.YteifbckkoejplaaDoor
