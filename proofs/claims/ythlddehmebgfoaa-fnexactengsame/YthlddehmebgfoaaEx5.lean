/- What the specification's functions on what is looked for answer: which is ok, how many parts it has. -/
import Derived.Test.YthlddehmebgfoaaEx4
import Derived.WalkLawsBesides
namespace Go.Proofs.Ythlddehmebgfoaa
open Go.ChangeShapes Go.WideShapes Go.ChangeAt Go.RowKit
set_option linter.unusedVariables false
set_option maxRecDepth 4000

/-- How many parts a kind has. -/
def kidsOf (kd : Int) : Int := if kd = 1 then 0 else if kd = 7 then 1 else if kd = 2 ∨ kd = 3 ∨ kd = 4 then 2 else if kd = 5 ∨ kd = 6 then 3 else -1

/-- One without its parts is as it should. -/
def headB (kd sy n : Int) (len : Nat) : Bool := decide (kidsOf kd = len ∧ 0 ≤ sy ∧ sy < 5 ∧ (kd = 1 ∨ sy = 0) ∧ (if kd = 7 then 1 ≤ n ∧ n ≤ 20 else n = 0))
/-- All of a list are as they should, not deeper than so. -/
def formF : Nat → Fo → Bool
  | _, .nil => true
  | 0, .cons .. => false
  | d + 1, .cons kd sy n k r => headB kd sy n k.len && formF d k && formF (d + 1) r
def formX : Nat → Int → Int → Int → Fo → Bool
  | 0, _, _, _, _ => false
  | d + 1, kd, sy, n, k => headB kd sy n k.len && formF d k
theorem formF_step {d : Nat} {F : Fo} {k : Nat} {kd sy n : Int} {kids : Fo} (h : F.drop k = .cons kd sy n kids (F.drop (k + 1))) : formF d (F.drop k) = (formX d kd sy n kids && formF d (F.drop (k + 1))) := by
  rw [h]
  cases d with
  | zero => simp [formF, formX]
  | succ d => simp [formF, formX]
theorem formF_end {d : Nat} {F : Fo} {k : Nat} (h : F.len ≤ k) : formF d (F.drop k) = true := by
  rw [Fo.drop_end k F h]; cases d <;> rfl

theorem headB_yes {kd sy n : Int} {len : Nat} (hk : kidsOf kd = len) (h0 : ¬ sy < 0) (h5 : ¬ 5 ≤ sy) (h1 : kd = 1 ∨ sy = 0) (hn : kd ≠ 7 ∧ n = 0 ∨ kd = 7 ∧ 1 ≤ n ∧ n ≤ 20) : headB kd sy n len = true := by
  unfold headB
  rcases hn with ⟨h7, hn⟩ | ⟨h7, hn⟩
  · simp only [h7, if_false, decide_eq_true_eq]; exact ⟨hk, by omega, by omega, h1, hn⟩
  · simp only [h7, if_true, decide_eq_true_eq]; exact ⟨by rw [← h7]; exact hk, by omega, by omega, by rw [← h7]; exact h1, hn⟩
theorem formX_no {d : Nat} {kd sy n : Int} {F : Fo} (hn : kd ≠ 7 ∧ n ≠ 0 ∨ kd = 7 ∧ ¬ (1 ≤ n ∧ n ≤ 20)) : formX (d + 1) kd sy n F = false := by
  have : headB kd sy n F.len = false := by
    unfold headB
    rcases hn with ⟨h7, hn⟩ | ⟨h7, hn⟩
    · simp only [h7, if_false, decide_eq_false_iff_not]; exact fun h => hn h.2.2.2.2
    · simp only [h7, if_true, decide_eq_false_iff_not]; exact fun h => hn h.2.2.2.2
  simp [formX, this]
theorem box4 (w : World) (v0 v1 v2 v3 : Value) (t : TypeId) : (w.alloc (.cells #[v0, v1, v2, v3] t)).cell? ⟨w.heap.size, 0, none⟩ = some v0 ∧ (w.alloc (.cells #[v0, v1, v2, v3] t)).cell? ⟨w.heap.size, 1, none⟩ = some v1 ∧
    (w.alloc (.cells #[v0, v1, v2, v3] t)).cell? ⟨w.heap.size, 2, none⟩ = some v2 ∧ (w.alloc (.cells #[v0, v1, v2, v3] t)).cell? ⟨w.heap.size, 3, none⟩ = some v3 := by
  have h := heap_alloc_new w (.cells #[v0, v1, v2, v3] t)
  exact ⟨cell_at h 0, cell_at h 1, cell_at h 2, cell_at h 3⟩

end Go.Proofs.Ythlddehmebgfoaa
