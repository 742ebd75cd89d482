/- How many parts there are: the laws' own count. -/
import Derived.Test.YtpokhhplgljmiaaDoorEx
namespace Go.Proofs.YtpokhhplgljmiaaDoor
open Go.ChangeShapes Go.WideShapes Go.ChangeAt Go.RowKit
set_option linter.unusedVariables false
set_option maxRecDepth 4000

theorem Fo.inner_at {F : Fo} {k : Nat} {kd sy n : Int} {kids : Fo} (h : F.drop k = .cons kd sy n kids (F.drop (k + 1))) : (F.drop k).inner = kids.size + (F.drop (k + 1)).inner := by
  rw [h]; rfl

/-- What is left of a number when a list was counted: below 0 is -1. -/
def szLeft (left : Int) (s : Nat) : Int := if left - s < 0 then -1 else left - s

end Go.Proofs.YtpokhhplgljmiaaDoor
