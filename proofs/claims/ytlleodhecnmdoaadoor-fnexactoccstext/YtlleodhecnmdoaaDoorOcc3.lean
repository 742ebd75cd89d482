/- Where something was found: the one order of places, as the program reckons it. -/
import Derived.Test.YtlleodhecnmdoaaDoorOccBox
namespace Go.Proofs.YtlleodhecnmdoaaDoor
open Go.ChangeShapes Go.WideShapes Go.ChangeAt Go.RowKit
set_option linter.unusedVariables false
set_option maxRecDepth 4000

theorem retI {a b : Int} (h : a = b) : Ending.returned (.int .i64 a) = .returned (.int .i64 b) := by rw [h]

def cmpI (x y : Int) : Int := if x < y then -1 else if y < x then 1 else 0
theorem cmpI_lt {x y : Int} (h : x < y) : -1 = cmpI x y := by simp [cmpI, h]
theorem cmpI_gt {x y : Int} (h : y < x) : 1 = cmpI x y := by unfold cmpI; rw [if_neg (by omega), if_pos h]
theorem cmpI_eq {x y : Int} (h : x = y) : 0 = cmpI x y := by simp [cmpI, h]
theorem cmpI_zero {x y : Int} : cmpI x y = 0 ↔ x = y := by unfold cmpI; split <;> (try split) <;> omega
theorem cmpI_neg {x y : Int} : cmpI x y < 0 ↔ x < y := by unfold cmpI; split <;> (try split) <;> omega

/-- Two lists of numbers: below 0, if the first comes first. -/
def idsCmp : List Int → List Int → Int
  | [], [] => 0
  | [], _ :: _ => -1
  | _ :: _, [] => 1
  | x :: r, y :: s => if cmpI x y = 0 then idsCmp r s else cmpI x y
theorem idsCmp_end {l l' : List Int} {k : Nat} (h : ¬ k < l.length) (hk0 : k ≤ l.length) (h' : k ≤ l'.length) : idsCmp (l.drop k) (l'.drop k) = if l.length < l'.length then -1 else 0 := by
  rw [List.drop_eq_nil_of_le (by omega)]
  by_cases hk : k < l'.length
  · rw [List.drop_eq_getElem_cons hk, if_pos (by omega)]; rfl
  · have e : l'.drop k = [] := List.drop_eq_nil_of_le (by omega)
    have e2 : ¬ l.length < l'.length := by omega
    rw [e, if_neg e2]; rfl
theorem idsCmp_over {l l' : List Int} {k : Nat} (h : k < l.length) (h' : ¬ k < l'.length) : idsCmp (l.drop k) (l'.drop k) = 1 := by
  have e : l'.drop k = [] := List.drop_eq_nil_of_le (by omega)
  rw [e, List.drop_eq_getElem_cons h]; rfl
theorem idsCmp_step {l l' : List Int} {k : Nat} (h : k < l.length) (h' : k < l'.length) : idsCmp (l.drop k) (l'.drop k) = if cmpI l[k] l'[k] = 0 then idsCmp (l.drop (k + 1)) (l'.drop (k + 1)) else cmpI l[k] l'[k] := by
  rw [List.drop_eq_getElem_cons h, List.drop_eq_getElem_cons h']; rfl

/-- The first number that is not 0, or 0. -/
def orF : List Int → Int
  | [] => 0
  | x :: r => if x = 0 then orF r else x

/-- The one order of places. -/
def occCmp (f t : Int) (l : List Int) (f' t' : Int) (l' : List Int) : Int := orF [cmpI t t', cmpI f f', idsCmp l l']

theorem row3 (w : World) (x y z : Int) (t : TypeId) : Ints (w.alloc (.cells #[.int .i64 x, .int .i64 y, .int .i64 z] t)) (some ⟨w.heap.size, 0, none⟩) [x, y, z] := by
  refine ⟨by simp [maxLen], fun _ => ⟨_, _, rfl, by simp, fun i hi => ?_⟩⟩
  have h : (w.alloc (.cells #[.int .i64 x, .int .i64 y, .int .i64 z] t)).heap[w.heap.size]? = some (.cells #[.int .i64 x, .int .i64 y, .int .i64 z] t (0, 0)) := heap_alloc_new w _
  rw [oCell h]
  match i, hi with
  | 0, _ => rfl
  | 1, _ => rfl
  | 2, _ => rfl

theorem below_two (w : World) (o o' : Obj) : Below w.heap.size w ((w.alloc o).alloc o') := ((Below.refl _ _).alloc (Nat.le_refl _) _).alloc (by simp) _

def lessB (f t : Int) (l : List Int) (f' t' : Int) (l' : List Int) : Bool := decide (occCmp f t l f' t' l' < 0)

end Go.Proofs.YtlleodhecnmdoaaDoor
