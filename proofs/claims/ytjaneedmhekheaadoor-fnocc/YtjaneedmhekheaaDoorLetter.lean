/- The letter of what happened, by the program and by the specification. -/
import Derived.Test.YtjaneedmhekheaaDoorEv
import Derived.Test.YtjaneedmhekheaaDoorDec
import Derived.WalkSpells
namespace Go.Proofs.YtjaneedmhekheaaDoor
open Go.ChangeShapes Go.WideShapes Go.ChangeAt Go.RowKit
set_option linter.unusedVariables false

def letB (s : Int) : UInt8 := if 0 ≤ s ∧ s < 5 then UInt8.ofNat (97 + s.toNat) else 63
theorem letB_no {s : Int} (h : ¬ (0 ≤ s ∧ s < 5)) : letB s = 63 := if_neg h

def lettersV : Value := .agg #[.int .u8 97, .int .u8 98, .int .u8 99, .int .u8 100, .int .u8 101]

theorem letB_nat {i : Nat} (h : i < 5) : (97 : Int) + (i : Int) = ((letB (i : Int)).toNat : Int) := by
  match i, h with
  | 0, _ => decide
  | 1, _ => decide
  | 2, _ => decide
  | 3, _ => decide
  | 4, _ => decide

theorem ret_u8 {a b : Int} (h : a = b) : Ending.returned (.int .u8 a) = .returned (.int .u8 b) := by rw [h]

end Go.Proofs.YtjaneedmhekheaaDoor
