/- What the functions on one event answer: toEv copies it, both EvOk answer evOkB. No condition. -/
import Derived.Test.YtjahlelgdlbobaaRows
import Derived.WalkKit
import Derived.ProofKit
import Derived.OpenShut
import Derived.ShutString
import Derived.ChangeOld
import Derived.Below
namespace Go.Proofs.Ytjahlelgdlbobaa
open Go.ChangeShapes Go.WideShapes Go.ChangeAt Go.RowKit
set_option linter.unusedVariables false

theorem own : ownKnob Try.prog.godebug = none := by kernel_rfl
theorem laidOut : laidOutB Try.prog = true := by kernel_rfl

/-- An event: what, when, with which number. -/
structure Ev where
  sym : Int
  at' : Int
  val : Int

def evV (e : Ev) : Value := .agg #[.int .i64 e.sym, .int .i64 e.at', .int .i64 e.val]

def evOkB (s a v : Int) : Bool := decide (0 ≤ s ∧ s < 5 ∧ 1 ≤ a ∧ a ≤ 1000 ∧ 0 ≤ v ∧ v ≤ 100)
theorem evOkB_yes {s a v : Int} (h : 0 ≤ s ∧ s < 5 ∧ 1 ≤ a ∧ a ≤ 1000 ∧ 0 ≤ v ∧ v ≤ 100) : evOkB s a v = true := by simp [evOkB, h]
theorem evOkB_no {s a v : Int} (h : ¬ (0 ≤ s ∧ s < 5 ∧ 1 ≤ a ∧ a ≤ 1000 ∧ 0 ≤ v ∧ v ≤ 100)) : evOkB s a v = false := decide_eq_false h
theorem ret_bool {a b : Bool} (h : a = b) : Ending.returned (.bool a) = .returned (.bool b) := by rw [h]

set_option maxHeartbeats 400000 in
theorem within_any (n lo hi : Int) (w : World) :
    Calls Try.prog 19 #[.int .i64 n, .int .i64 lo, .int .i64 hi] w fun e w' => e = .returned (.bool (decide (lo ≤ n) && decide (n ≤ hi))) ∧ w' = w := by
  go_enter Try.func19, Try.ntmps19
  go_wp2
  · go_ret
    exact ⟨ret_bool (by simp_all), rfl⟩
  · go_ret
    exact ⟨ret_bool (by simp; omega), rfl⟩

set_option maxHeartbeats 400000 in
theorem specEvOk_any (s a v : Int) (w : World) :
    Calls Try.prog 17 #[.agg #[.int .i64 s, .int .i64 a, .int .i64 v]] w fun e w' => e = .returned (.bool (evOkB s a v)) ∧ Below w.heap.size w w' := by
  go_enter Try.func17, Try.ntmps17
  go_wp2
  all_goals go_ret
  all_goals refine ⟨ret_bool ?_, (Below.refl _ _).alloc (Nat.le_refl _) _⟩
  all_goals first | exact (evOkB_no (by omega)).symm | (unfold evOkB; simp [*])

set_option maxHeartbeats 400000 in
theorem implEvOk_any (s a v : Int) (w : World) :
    Calls Try.prog 11 #[.agg #[.int .i64 s, .int .i64 a, .int .i64 v]] w fun e w' => e = .returned (.bool (evOkB s a v)) ∧ Below w.heap.size w w' := by
  go_enter Try.func11, Try.ntmps11
  go_wp2_with (go_at_call 19; refine (within_any _ _ _ _).mono ?_; rintro e w' ⟨rfl, rfl⟩)
  all_goals go_ret
  all_goals refine ⟨ret_bool ?_, (Below.refl _ _).alloc (Nat.le_refl _) _⟩
  all_goals first | exact (evOkB_no (by omega)).symm | (unfold evOkB; rw [Bool.eq_iff_iff]; simp; omega)
end Go.Proofs.Ytjahlelgdlbobaa
