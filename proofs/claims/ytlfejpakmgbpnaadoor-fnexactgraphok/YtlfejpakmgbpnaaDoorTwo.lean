/- Two values in one box; rows of places that stay as they are. -/
import Derived.Test.YtlfejpakmgbpnaaDoorOccs2
namespace Go.Proofs.YtlfejpakmgbpnaaDoor
open Go.ChangeShapes Go.WideShapes Go.ChangeAt Go.RowKit Go.Deep
set_option linter.unusedVariables false
set_option maxRecDepth 4000

/-- Block A is the box of one value of two cells. -/
def Box2 (w : World) (A : Nat) (v0 v1 : Value) : Prop := ∃ t f, w.heap[A]? = some (.cells #[v0, v1] t f)
theorem Box2.cells {w : World} {A : Nat} {v0 v1 : Value} (h : Box2 w A v0 v1) : w.cell? ⟨A, 0, none⟩ = some v0 ∧ w.cell? ⟨A, 1, none⟩ = some v1 := by
  obtain ⟨t, f, h⟩ := h
  exact ⟨oCell h 0, oCell h 1⟩
theorem Box2.lt {w : World} {A : Nat} {v0 v1 : Value} (h : Box2 w A v0 v1) : A < w.heap.size := by
  obtain ⟨t, f, h⟩ := h
  exact (Array.getElem?_eq_some_iff.1 h).1
theorem Box2.below {w w' : World} {A : Nat} {v0 v1 : Value} (h : Box2 w A v0 v1) (hb : Below w.heap.size w w') : Box2 w' A v0 v1 := by
  have hl := h.lt
  obtain ⟨t, f, h⟩ := h
  exact ⟨t, f, (hb.block A hl).trans h⟩
theorem box2_new (w : World) (v0 v1 : Value) (t : TypeId) : Box2 (w.alloc (.cells #[v0, v1] t)) w.heap.size v0 v1 := ⟨t, (0, 0), heap_alloc_new w _⟩

/-- What the copy of one hands back: two rows of their own, the second behind all of the first. -/
def CopyP (w : World) (l l' : List Occ) (e : Ending) (w' : World) : Prop :=
  ∃ (b b' M : Nat) (L L' : List (Occ × Nat)), e = .returned (.agg #[.slice (some ⟨b, 0, none⟩) l.length l.length, .slice (some ⟨b', 0, none⟩) l'.length l'.length]) ∧ L.map (·.1) = l ∧ L'.map (·.1) = l' ∧
    OccRow w' w.heap.size b L ∧ b < M ∧ (∀ x ∈ L, 0 < x.1.ids.length → x.2 < M) ∧ OccRow w' M b' L' ∧ w.heap.size ≤ M ∧ Below w.heap.size w w'
theorem CopyP.left {w' : World} {B b : Nat} {L : List (Occ × Nat)} {l : List Occ} (h : OccRow w' B b L) (e : L.map (·.1) = l) : Occs w' (some ⟨b, 0, none⟩) l := by
  have := h.occs
  rwa [e] at this
theorem OccRow.inner {w : World} {B b : Nat} {L : List (Occ × Nat)} (h : OccRow w B b L) : ∀ x ∈ L, 0 < x.1.ids.length → x.2 < w.heap.size := by
  intro x hx hp
  obtain ⟨i, hi, rfl⟩ := List.getElem_of_mem hx
  obtain ⟨_, _, a, cap, _, _, h5⟩ := h.one i hi
  exact (h5 hp).2.2.2.1
theorem OccRow.inner_ne {w : World} {B b : Nat} {L : List (Occ × Nat)} (h : OccRow w B b L) : ∀ x ∈ L, 0 < x.1.ids.length → B ≤ x.2 ∧ x.2 ≠ b := by
  intro x hx hp
  obtain ⟨i, hi, rfl⟩ := List.getElem_of_mem hx
  obtain ⟨_, _, a, cap, _, _, h5⟩ := h.one i hi
  exact ⟨(h5 hp).2.2.1, (h5 hp).2.1⟩
/-- A row stays as long as none of its blocks is written. -/
theorem OccRow.stay {w w' : World} {B b : Nat} {L : List (Occ × Nat)} (h : OccRow w B b L) (hb : w'.heap[b]? = w.heap[b]?) (hx : ∀ x ∈ L, 0 < x.1.ids.length → w'.heap[x.2]? = w.heap[x.2]?) (hs : w.heap.size ≤ w'.heap.size) : OccRow w' B b L := by
  obtain ⟨c, t, hc, hcs⟩ := h.blk
  refine ⟨⟨c, t, hb.trans hc, hcs⟩, h.ge, fun i hi => ?_, h.apart, h.len⟩
  have := h.one i hi
  exact this.frame (fun o _ _ => by simp [World.cell?, hb]) (fun hp => hx _ (List.getElem_mem hi) hp) hs
end Go.Proofs.YtlfejpakmgbpnaaDoor
