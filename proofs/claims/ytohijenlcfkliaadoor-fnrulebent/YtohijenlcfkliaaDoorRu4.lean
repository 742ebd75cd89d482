/- Rules compared by the laws. -/
import Derived.Test.YtohijenlcfkliaaDoorRu3
namespace Go.Proofs.YtohijenlcfkliaaDoor
open Go.ChangeShapes Go.WideShapes Go.ChangeAt Go.RowKit Go.Deep
set_option linter.unusedVariables false
set_option maxRecDepth 4000

theorem nm_yes {s u : ByteArray} (h : s = u) : (s.toList == u.toList) = true := by subst h; simp
theorem nm_no {s u : ByteArray} (h : s ≠ u) : (s.toList == u.toList) = false := by
  rw [beq_eq_false_iff_ne, ByteArray.toList_eq, ByteArray.toList_eq]
  intro e
  exact h (ByteArray.ext (Array.toList_inj.1 e))
def ruEqB (x y : Ru) : Bool := decide (x.nm = y.nm ∧ x.pri = y.pri ∧ x.mode = y.mode ∧ x.lo = y.lo ∧ x.hi = y.hi ∧ x.key = y.key ∧ x.add = y.add ∧ x.ra = y.ra) && eqX x.kd x.sy x.n x.ks y.kd y.sy y.n y.ks
theorem ruEqB_self (x : Ru) : ruEqB x x = true := by simp [ruEqB, eqX_self]
def rusEqB : List Ru → List Ru → Bool
  | [], [] => true
  | x :: r, y :: s => ruEqB x y && rusEqB r s
  | _, _ => false
theorem rusEqB_self : ∀ (a : List Ru), rusEqB a a = true
  | [] => rfl
  | x :: r => by simp [rusEqB, ruEqB_self, rusEqB_self r]
theorem rusEqB_len : ∀ {a b : List Ru}, a.length ≠ b.length → rusEqB a b = false
  | [], [], h => by simp at h
  | [], _ :: _, _ => rfl
  | _ :: _, [], _ => rfl
  | x :: r, y :: s, h => by simp [rusEqB, rusEqB_len (a := r) (b := s) (by simpa using h)]
theorem rusEqB_step {a b : List Ru} {k : Nat} (h : k < a.length) (h' : k < b.length) : rusEqB (a.drop k) (b.drop k) = (ruEqB a[k] b[k] && rusEqB (a.drop (k + 1)) (b.drop (k + 1))) := by
  rw [List.drop_eq_getElem_cons h, List.drop_eq_getElem_cons h']; rfl
theorem rusEqB_end {a b : List Ru} {k : Nat} (h : ¬ k < a.length) (h' : a.length = b.length) : rusEqB (a.drop k) (b.drop k) = true := by
  rw [List.drop_eq_nil_of_le (by omega), List.drop_eq_nil_of_le (by omega)]; rfl

end Go.Proofs.YtohijenlcfkliaaDoor
