/- Lists of places: both OccsSame. -/
import Derived.Test.YteifbckkoejplaaDoorOccs2
namespace Go.Proofs.YteifbckkoejplaaDoor
open Go.ChangeShapes Go.WideShapes Go.ChangeAt Go.RowKit
set_option linter.unusedVariables false
theorem idsCmp_zero : ∀ (l l' : List Int), idsCmp l l' = 0 ↔ l = l'
  | [], [] => by simp [idsCmp]
  | [], _ :: _ => by simp [idsCmp]
  | _ :: _, [] => by simp [idsCmp]
  | x :: r, y :: s => by
    have ih := idsCmp_zero r s
    simp only [idsCmp]
    by_cases e : x = y
    · rw [if_pos (cmpI_zero.2 e), ih]; simp [e]
    · have e' : ¬ cmpI x y = 0 := fun h => e (cmpI_zero.1 h)
      rw [if_neg e']; simp [e', e]
theorem occCmp_zero (f t : Int) (l : List Int) (f' t' : Int) (l' : List Int) : (occCmp f t l f' t' l' == 0) = occEqB f t l f' t' l' := by
  rw [Bool.eq_iff_iff, occEqB_iff]
  simp only [occCmp, orF, beq_iff_eq]
  by_cases h1 : t = t'
  · rw [if_pos (cmpI_zero.2 h1)]
    by_cases h2 : f = f'
    · rw [if_pos (cmpI_zero.2 h2)]
      have := idsCmp_zero l l'
      split
      · simp_all
      · simp_all
    · have e' : ¬ cmpI f f' = 0 := fun h => h2 (cmpI_zero.1 h)
      rw [if_neg e']; simp [e', h2]
  · have e' : ¬ cmpI t t' = 0 := fun h => h1 (cmpI_zero.1 h)
    rw [if_neg e']; simp [e', h1]

end Go.Proofs.YteifbckkoejplaaDoor
