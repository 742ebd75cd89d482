/- The laws' draws of chapter 3: a place, a list. -/
import Derived.Test.YtmomoboedoljfaaDraw4
namespace Go.Proofs.Ytmomoboedoljfaa
open Go.ChangeShapes Go.WideShapes Go.ChangeAt Go.RowKit
set_option linter.unusedVariables false
set_option maxRecDepth 4000

theorem below_grown {w w1 w2 : World} {B R : Nat} (hb : Below B w w1) (hg : w1.grownBy w2 (some R)) (hR : B ≤ R) (hs : B ≤ w1.heap.size) : Below B w w2 := hb.grown hg hs (fun k hk => by cases hk; exact hR)

/-- A place that was drawn. -/
def DrawnO (w : World) (e : Ending) (w' : World) : Prop :=
  ∃ (o : Occ) (a' : Option Addr) (c' : Nat), e = .returned (.agg #[.int .i64 o.fr, .int .i64 o.tl, .slice a' o.ids.length c']) ∧ Ints w' a' o.ids ∧ Below w.heap.size w w'

theorem drawnO_set {w w3 u : World} {A : Nat} {o : Occ} {a' : Option Addr} {c' : Nat} (hA : w.heap.size = A) (hu : ((w3.setCell ⟨A, 0, none⟩ (.int .i64 o.fr)).setCell ⟨A, 1, none⟩ (.int .i64 o.tl)).setCell ⟨A, 2, none⟩ (.slice a' o.ids.length c') = u) (hI : Ints u a' o.ids) (hb : Below w.heap.size w w3) :
    DrawnO w (.returned (.agg #[.int .i64 o.fr, .int .i64 o.tl, .slice a' o.ids.length c'])) u := by
  have hgA : w3.grownBy u (some A) := by rw [← hu]; exact grownBy_setCell (grownBy_setCell (grownBy_setCell (grownBy_refl _ _) _) _) _
  exact ⟨o, a', c', rfl, hI, below_grown hb hgA (by rw [hA]; exact Nat.le_refl _) hb.size⟩

end Go.Proofs.Ytmomoboedoljfaa
