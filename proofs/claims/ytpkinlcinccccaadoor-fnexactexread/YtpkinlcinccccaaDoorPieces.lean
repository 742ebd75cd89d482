/- A row of texts. -/
import Derived.Test.YtpkinlcinccccaaDoorNum6
namespace Go.Proofs.YtpkinlcinccccaaDoor
open Go.ChangeShapes Go.WideShapes Go.ChangeAt Go.RowKit
set_option linter.unusedVariables false

/-- The row g of texts holds the pieces. -/
structure Pieces (w : World) (g : Nat) (ps : List ByteArray) : Prop where
  row : ∃ c, w.heap[g]? = some (.cells c 9 (0, 0)) ∧ ∀ i (h : i < ps.length), c[i]? = some (.string ps[i])

theorem Pieces.cell {w : World} {g : Nat} {ps : List ByteArray} (h : Pieces w g ps) {i : Nat} (hi : i < ps.length) : w.cell? ⟨g, i, none⟩ = some (.string ps[i]) := by
  obtain ⟨c, h1, h2⟩ := h.row
  rw [Lib.cell_of_heap h1]; exact h2 i hi
theorem Pieces.lt {w : World} {g : Nat} {ps : List ByteArray} (h : Pieces w g ps) : g < w.heap.size := by
  obtain ⟨c, h1, _⟩ := h.row
  exact (Array.getElem?_eq_some_iff.1 h1).1
theorem Pieces.below {w w' : World} {g : Nat} {ps : List ByteArray} (h : Pieces w g ps) (hb : Below w.heap.size w w') : Pieces w' g ps := by
  have hlt := h.lt
  obtain ⟨c, h1, h2⟩ := h.row
  exact ⟨c, (hb.block g hlt).trans h1, h2⟩
theorem pieces_of {w : World} {B : Nat} {v : Value} {ps : List ByteArray} (h : w.ownsRow B 9 1 v ps.length (strCellsL ps)) (hne : ps ≠ []) : ∃ g cap, v = .slice (some ⟨g, 0, none⟩) ps.length cap ∧ Pieces w g ps := by
  rcases h.2 with ⟨_, h0⟩ | ⟨g, cap, cur, rfl, _, hg, hnc, hcm, hcs, htk⟩
  · exact absurd (List.eq_nil_of_length_eq_zero h0) hne
  · refine ⟨g, cap, rfl, ⟨cur, hg, fun i hi => ?_⟩⟩
    have h1 : (strCellsL ps)[i]? = some (.string ps[i]) := by simp [strCellsL, hi]
    rw [← htk, List.getElem?_take, if_pos (by omega), Array.getElem?_toList] at h1
    exact h1

theorem flat_len : ∀ (q : List (List UInt8)) (p : List UInt8), p ∈ q → p.length ≤ (q.flatMap (fun x => 32 :: x)).length
  | [], _, h => by cases h
  | x :: r, p, h => by
    simp only [List.mem_cons] at h
    simp only [List.flatMap_cons, List.length_append, List.length_cons]
    rcases h with rfl | h
    · omega
    · have := flat_len r p h
      omega
theorem joinF_len (q : List (List UInt8)) (p : List UInt8) (h : p ∈ q) : p.length ≤ (joinF q).length := by
  match q, h with
  | x :: r, h =>
    simp only [List.mem_cons] at h
    simp only [joinF, List.length_append]
    rcases h with rfl | h
    · omega
    · have := flat_len r p h
      omega
end Go.Proofs.YtpkinlcinccccaaDoor
