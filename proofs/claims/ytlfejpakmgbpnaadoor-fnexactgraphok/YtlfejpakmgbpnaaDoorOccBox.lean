/- A place in a box of its own. -/
import Derived.Test.YtlfejpakmgbpnaaDoorOccOpen
import Derived.Deep.RegionHeld
namespace Go.Proofs.YtlfejpakmgbpnaaDoor
open Go.ChangeShapes Go.WideShapes Go.ChangeAt Go.RowKit
set_option linter.unusedVariables false

/-- Block A is the box of one value of three cells. -/
def Box3 (w : World) (A : Nat) (v0 v1 v2 : Value) : Prop := ∃ t f, w.heap[A]? = some (.cells #[v0, v1, v2] t f)
theorem Box3.cells {w : World} {A : Nat} {v0 v1 v2 : Value} (h : Box3 w A v0 v1 v2) : w.cell? ⟨A, 0, none⟩ = some v0 ∧ w.cell? ⟨A, 1, none⟩ = some v1 ∧ w.cell? ⟨A, 2, none⟩ = some v2 := by
  obtain ⟨t, f, h⟩ := h
  exact ⟨oCell h 0, oCell h 1, oCell h 2⟩
theorem Box3.lt {w : World} {A : Nat} {v0 v1 v2 : Value} (h : Box3 w A v0 v1 v2) : A < w.heap.size := by
  obtain ⟨t, f, h⟩ := h
  exact (Array.getElem?_eq_some_iff.1 h).1
theorem Box3.below {w w' : World} {A : Nat} {v0 v1 v2 : Value} (h : Box3 w A v0 v1 v2) (hb : Below w.heap.size w w') : Box3 w' A v0 v1 v2 := by
  have hl := h.lt
  obtain ⟨t, f, h⟩ := h
  exact ⟨t, f, (hb.block A hl).trans h⟩
theorem Box3.only {w w' : World} {A : Nat} {v0 v1 v2 : Value} {row : Option Nat} (h : Box3 w A v0 v1 v2) (hg : w.grownBy w' row) (hne : row ≠ some A) : Box3 w' A v0 v1 v2 := by
  have hl := h.lt
  obtain ⟨t, f, h⟩ := h
  exact ⟨t, f, (hg.block A hl (fun e => hne e.symm)).trans h⟩
theorem box3_new (w : World) (v0 v1 v2 : Value) (t : TypeId) : Box3 (w.alloc (.cells #[v0, v1, v2] t)) w.heap.size v0 v1 v2 := ⟨t, (0, 0), heap_alloc_new w _⟩
theorem oBelow_new (w : World) (o : Obj) : Below w.heap.size w (w.alloc o) := (Below.refl _ _).alloc (Nat.le_refl _) _
/-- A row of numbers can be read. -/
theorem IntRow.ints {w : World} {b : Nat} {l : List Int} (h : IntRow w b l) (hl : l.length ≤ maxLen) : Ints w (some ⟨b, 0, none⟩) l := by
  obtain ⟨c, t, hb, hs, hc⟩ := h
  exact ⟨hl, fun _ => ⟨b, 0, rfl, (Array.getElem?_eq_some_iff.1 hb).1, fun i hi => by simp [World.cell?, hb, hc i hi]⟩⟩
end Go.Proofs.YtlfejpakmgbpnaaDoor
