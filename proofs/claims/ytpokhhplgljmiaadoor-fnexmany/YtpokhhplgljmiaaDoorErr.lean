/- Where the error lies that a panic bears. -/
import Derived.Test.YtpokhhplgljmiaaDoorEvsOpen
namespace Go.Proofs.YtpokhhplgljmiaaDoor
open Go.ChangeShapes Go.WideShapes Go.ChangeAt Go.RowKit
set_option linter.unusedVariables false

/-- The error that a panic bears lies where the program's text lays it: an interface value that holds something. -/
def ErrAt (w : World) (t : TypeId) (v : Value) : Prop := w.cell? ⟨0, 0, none⟩ = some (.iface t v)
theorem ErrAt.lt {w : World} {t : TypeId} {v : Value} (h : ErrAt w t v) : 0 < w.heap.size := block_lt h
theorem ErrAt.below {w w' : World} {t : TypeId} {v : Value} (h : ErrAt w t v) (hb : Below w.heap.size w w') : ErrAt w' t v := by
  show w'.cell? _ = _
  rw [hb.cell h.lt]; exact h
theorem ErrAt.lower {w w' : World} {B : Nat} {t : TypeId} {v : Value} (h : ErrAt w t v) (hb : Below B w w') (hB : 0 < B) : ErrAt w' t v := by
  show w'.cell? _ = _
  rw [hb.cell hB]; exact h
end Go.Proofs.YtpokhhplgljmiaaDoor
