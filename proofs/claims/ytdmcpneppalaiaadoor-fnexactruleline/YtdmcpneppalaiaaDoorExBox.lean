/- One that is looked for, in a box of its own. -/
import Derived.Test.YtdmcpneppalaiaaDoorEx7
import Derived.Deep.RegionHeld
namespace Go.Proofs.YtdmcpneppalaiaaDoor
open Go.ChangeShapes Go.WideShapes Go.ChangeAt Go.RowKit
set_option linter.unusedVariables false

/-- Block A is the box of one value of four cells. -/
def Box4 (w : World) (A : Nat) (v0 v1 v2 v3 : Value) : Prop := ∃ t f, w.heap[A]? = some (.cells #[v0, v1, v2, v3] t f)
theorem Box4.cells {w : World} {A : Nat} {v0 v1 v2 v3 : Value} (h : Box4 w A v0 v1 v2 v3) : w.cell? ⟨A, 0, none⟩ = some v0 ∧ w.cell? ⟨A, 1, none⟩ = some v1 ∧ w.cell? ⟨A, 2, none⟩ = some v2 ∧ w.cell? ⟨A, 3, none⟩ = some v3 := by
  obtain ⟨t, f, h⟩ := h
  exact ⟨cell_at h 0, cell_at h 1, cell_at h 2, cell_at h 3⟩
theorem Box4.lt {w : World} {A : Nat} {v0 v1 v2 v3 : Value} (h : Box4 w A v0 v1 v2 v3) : A < w.heap.size := by
  obtain ⟨t, f, h⟩ := h
  exact (Array.getElem?_eq_some_iff.1 h).1
theorem Box4.below {w w' : World} {A : Nat} {v0 v1 v2 v3 : Value} (h : Box4 w A v0 v1 v2 v3) (hb : Below w.heap.size w w') : Box4 w' A v0 v1 v2 v3 := by
  have hl := h.lt
  obtain ⟨t, f, h⟩ := h
  exact ⟨t, f, (hb.block A hl).trans h⟩
theorem box_new (w : World) (v0 v1 v2 v3 : Value) (t : TypeId) : Box4 (w.alloc (.cells #[v0, v1, v2, v3] t)) w.heap.size v0 v1 v2 v3 := ⟨t, (0, 0), heap_alloc_new w _⟩
theorem below_new (w : World) (o : Obj) : Below w.heap.size w (w.alloc o) := (Below.refl _ _).alloc (Nat.le_refl _) _
end Go.Proofs.YtdmcpneppalaiaaDoor
