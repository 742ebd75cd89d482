/- What the functions on one event answer: toEv copies it, both EvOk answer evOkB. No condition. -/
import Derived.Test.YtpokhhplgljmiaaDoorRows
import Derived.WalkKit
import Derived.ProofKit
import Derived.OpenShut
import Derived.ShutString
import Derived.ChangeOld
import Derived.Below
namespace Go.Proofs.YtpokhhplgljmiaaDoor
open Go.ChangeShapes Go.WideShapes Go.ChangeAt Go.RowKit
set_option linter.unusedVariables false

theorem own : ownKnob Tryd.prog.godebug = none := by kernel_rfl
theorem laidOut : laidOutB Tryd.prog = true := by kernel_rfl

/-- An event: what, when, with which number. -/
structure Ev where
  sym : Int
  at' : Int
  val : Int

def evV (e : Ev) : Value := .agg #[.int .i64 e.sym, .int .i64 e.at', .int .i64 e.val]

def evOkB (s a v : Int) : Bool := decide (0 ≤ s ∧ s < 5 ∧ 1 ≤ a ∧ a ≤ 1000 ∧ 0 ≤ v ∧ v ≤ 100)
theorem evOkB_yes {s a v : Int} (h : 0 ≤ s ∧ s < 5 ∧ 1 ≤ a ∧ a ≤ 1000 ∧ 0 ≤ v ∧ v ≤ 100) : evOkB s a v = true := by simp [evOkB, h]
theorem evOkB_no {s a v : Int} (h : ¬ (0 ≤ s ∧ s < 5 ∧ 1 ≤ a ∧ a ≤ 1000 ∧ 0 ≤ v ∧ v ≤ 100)) : evOkB s a v = false := decide_eq_false h
theorem ret_bool {a b : Bool} (h : a = b) : Ending.returned (.bool a) = .returned (.bool b) := by rw [h]

set_option maxHeartbeats 400000 in
theorem within_any (n lo hi : Int) (w : World) :
    Calls Tryd.prog 84 #[.int .i64 n, .int .i64 lo, .int .i64 hi] w fun e w' => e = .returned (.bool (decide (lo ≤ n) && decide (n ≤ hi))) ∧ w' = w := by
  go_enter Tryd.func84, Tryd.ntmps84
  go_wp2
  · go_ret
    exact ⟨ret_bool (by simp_all), rfl⟩
  · go_ret
    exact ⟨ret_bool (by simp; omega), rfl⟩

end Go.Proofs.YtpokhhplgljmiaaDoor
