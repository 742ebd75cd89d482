/- The laws' comparison of what is looked for. -/
import Derived.Test.YtpokhhplgljmiaaDoorEx3
namespace Go.Proofs.YtpokhhplgljmiaaDoor
open Go.ChangeShapes Go.WideShapes Go.ChangeAt Go.RowKit
set_option linter.unusedVariables false
set_option maxRecDepth 4000

def eqF : Fo → Fo → Bool
  | .nil, .nil => true
  | .cons kd sy n k r, .cons kd' sy' n' k' r' => decide (kd = kd' ∧ sy = sy' ∧ n = n') && eqF k k' && eqF r r'
  | _, _ => false
theorem eqF_iff : ∀ a b : Fo, eqF a b = true ↔ a = b
  | .nil, .nil => by simp [eqF]
  | .nil, .cons .. => by simp [eqF]
  | .cons .., .nil => by simp [eqF]
  | .cons kd sy n k r, .cons kd' sy' n' k' r' => by simp [eqF, eqF_iff k k', eqF_iff r r', and_assoc]
theorem eqF_self (a : Fo) : eqF a a = true := (eqF_iff a a).2 rfl
theorem eqF_len {a b : Fo} (h : a.len ≠ b.len) : eqF a b = false := by
  rw [Bool.eq_false_iff]; intro e; exact h (by rw [(eqF_iff a b).1 e])
/-- One: its numbers and its parts. -/
def eqX (kd sy n : Int) (k : Fo) (kd' sy' n' : Int) (k' : Fo) : Bool := decide (kd = kd' ∧ sy = sy' ∧ n = n') && eqF k k'
theorem eqF_step {F F' : Fo} {k : Nat} {kd sy n kd' sy' n' : Int} {kids kids' : Fo} (h : F.drop k = .cons kd sy n kids (F.drop (k + 1))) (h' : F'.drop k = .cons kd' sy' n' kids' (F'.drop (k + 1))) :
    eqF (F.drop k) (F'.drop k) = (eqX kd sy n kids kd' sy' n' kids' && eqF (F.drop (k + 1)) (F'.drop (k + 1))) := by
  rw [h, h']; rfl
theorem eqF_end {F F' : Fo} {k : Nat} (h : F.len ≤ k) (h' : F'.len ≤ k) : eqF (F.drop k) (F'.drop k) = true := by
  rw [Fo.drop_end k F h, Fo.drop_end k F' h']; rfl

theorem eqX_self (kd sy n : Int) (F : Fo) : eqX kd sy n F kd sy n F = true := by simp [eqX, eqF_self]
end Go.Proofs.YtpokhhplgljmiaaDoor
