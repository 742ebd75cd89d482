/- Where something was found: the one order of places, as the specification reckons it. -/
import Derived.Test.YtlleodhecnmdoaaDoorOcc2
import Derived.Test.YtlleodhecnmdoaaDoorOcc3
namespace Go.Proofs.YtlleodhecnmdoaaDoor
open Go.ChangeShapes Go.WideShapes Go.ChangeAt Go.RowKit
set_option linter.unusedVariables false
set_option maxRecDepth 4000

/-- How two lists of numbers stand: a difference, or of the lengths. -/
def l3F : List Int → List Int → Int
  | [], s => - (s.length : Int)
  | r, [] => r.length
  | x :: r, y :: s => if x = y then l3F r s else wrap64 (x - y)
theorem l3F_nil (l : List Int) : l3F l [] = l.length := by cases l <;> simp [l3F]
theorem l3F_step {l l' : List Int} {k : Nat} (h : k < l.length) (h' : k < l'.length) : l3F (l.drop k) (l'.drop k) = if l[k] = l'[k] then l3F (l.drop (k + 1)) (l'.drop (k + 1)) else wrap64 (l[k] - l'[k]) := by
  rw [List.drop_eq_getElem_cons h, List.drop_eq_getElem_cons h']; rfl
theorem l3F_end {l l' : List Int} {k : Nat} (h : ¬ (k < l.length ∧ k < l'.length)) (hk : k ≤ l.length) (hk' : k ≤ l'.length) : l3F (l.drop k) (l'.drop k) = (l.length : Int) - l'.length := by
  by_cases h1 : k < l.length
  · have e : l'.drop k = [] := List.drop_eq_nil_of_le (by omega)
    rw [e, l3F_nil]
    simp
    omega
  · have e : l.drop k = [] := List.drop_eq_nil_of_le (by omega)
    rw [e]
    simp [l3F]
    omega

theorem wrap64_small {x : Int} (h0 : -24 < x) (h1 : x < 24) : wrap64 x = x := by
  unfold wrap64
  omega
theorem wrap64_zero {x y : Int} (hx : I64 x) (hy : I64 y) (h : wrap64 (x - y) = 0) : x = y := by
  unfold wrap64 at h
  unfold I64 at hx hy
  omega
theorem l3F_zero : ∀ (l l' : List Int), (∀ x ∈ l, I64 x) → (∀ x ∈ l', I64 x) → (l3F l l' = 0 ↔ l = l')
  | [], [], _, _ => by simp [l3F]
  | [], _ :: _, _, _ => by simp [l3F] <;> omega
  | _ :: _, [], _, _ => by simp [l3F] <;> omega
  | x :: r, y :: s, h, h' => by
    have ih := l3F_zero r s (fun z hz => h z (by simp [hz])) (fun z hz => h' z (by simp [hz]))
    have hx := h x (by simp)
    have hy := h' y (by simp)
    simp only [l3F]
    by_cases e : x = y
    · rw [if_pos e, ih]; simp [e]
    · rw [if_neg e]
      constructor
      · intro hw; exact absurd (wrap64_zero hx hy hw) e
      · intro hw; simp at hw; exact absurd hw.1 e
/-- Numbers of events. -/
def Small (l : List Int) : Prop := ∀ x ∈ l, 0 ≤ x ∧ x < 24
theorem idsFrom_small : ∀ (l : List Int) (last : Int), idsFrom last l = true → Small l
  | [], _, _ => by intro x hx; cases hx
  | i :: r, last, h => by
    simp [idsFrom] at h
    have := idsFrom_small r i h.2
    intro x hx
    rcases List.mem_cons.1 hx with rfl | hx
    · omega
    · exact this x hx
theorem occOkB_small {f t : Int} {l : List Int} (h : occOkB f t l = true) : Small l := by
  simp [occOkB] at h
  exact idsFrom_small l (-1) h.2
theorem l3F_neg : ∀ (l l' : List Int), Small l → Small l' → (l3F l l' < 0 ↔ idsCmp l l' < 0)
  | [], [], _, _ => by simp [l3F, idsCmp]
  | [], _ :: _, _, _ => by simp [l3F, idsCmp] <;> omega
  | _ :: _, [], _, _ => by simp [l3F, idsCmp] <;> omega
  | x :: r, y :: s, h, h' => by
    have ih := l3F_neg r s (fun z hz => h z (by simp [hz])) (fun z hz => h' z (by simp [hz]))
    have hx := h x (by simp)
    have hy := h' y (by simp)
    simp only [l3F, idsCmp, cmpI_zero]
    by_cases e : x = y
    · rw [if_pos e, if_pos e, ih]
    · rw [if_neg e, if_neg e, wrap64_small (by omega) (by omega), cmpI_neg]; omega
theorem lessB_to {f t f' t' : Int} {l l' : List Int} (h : ¬ t = t') : lessB f t l f' t' l' = decide (t < t') := by
  have : ¬ cmpI t t' = 0 := fun e => h (cmpI_zero.1 e)
  simp [lessB, occCmp, orF, this, cmpI_neg]
theorem lessB_from {f t f' : Int} {l l' : List Int} (h : ¬ f = f') : lessB f t l f' t l' = decide (f < f') := by
  have : ¬ cmpI f f' = 0 := fun e => h (cmpI_zero.1 e)
  have e : cmpI t t = 0 := cmpI_zero.2 rfl
  simp [lessB, occCmp, orF, this, e, cmpI_neg]
theorem lessB_ids {f t : Int} {l l' : List Int} (h : Small l) (h' : Small l') : lessB f t l f t l' = decide (l3F l l' < 0) := by
  have e : cmpI t t = 0 := cmpI_zero.2 rfl
  have e' : cmpI f f = 0 := cmpI_zero.2 rfl
  have : (if idsCmp l l' = 0 then 0 else idsCmp l l') = idsCmp l l' := by split <;> simp_all
  simp [lessB, occCmp, orF, e, e', this, l3F_neg l l' h h']

end Go.Proofs.YtlleodhecnmdoaaDoor
