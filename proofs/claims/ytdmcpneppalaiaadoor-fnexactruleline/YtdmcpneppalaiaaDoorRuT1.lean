/- The line of a rule, as plain data; the words that the numbers and the letter are. -/
import Derived.Test.YtdmcpneppalaiaaDoorRuK
import Derived.Test.YtdmcpneppalaiaaDoorExT4
import Derived.Test.YtdmcpneppalaiaaDoorTab
namespace Go.Proofs.YtdmcpneppalaiaaDoor
open Go.ChangeShapes Go.WideShapes Go.ChangeAt Go.RowKit Go.Deep
set_option linter.unusedVariables false
set_option maxRecDepth 4000

def raiseT (ra : Int) : List UInt8 := if ra < 0 then [45] else [letB ra]
def numsR (x : Ru) : List Int := [x.pri, x.mode, x.lo, x.hi, x.key, x.add]
def wordsR (x : Ru) : List (List UInt8) := x.nm.data.toList :: (numsR x).map Lib.itoa
def lineR (x : Ru) : List UInt8 := Lib.join (wordsR x ++ [raiseT x.ra, textX x.kd x.sy x.n x.ks]) [32]
def lineOf (x : Ru) : List UInt8 := if ruOkB x then lineR x else []
theorem lineR_eq (x : Ru) : lineR x = x.nm.data.toList ++ [32] ++ Lib.itoa x.pri ++ [32] ++ Lib.itoa x.mode ++ [32] ++ Lib.itoa x.lo ++ [32] ++ Lib.itoa x.hi ++ [32] ++ Lib.itoa x.key ++ [32] ++ Lib.itoa x.add ++ [32] ++ raiseT x.ra ++ [32] ++ textX x.kd x.sy x.n x.ks := by
  simp [lineR, wordsR, numsR, Lib.join, List.intercalate]
theorem nm_list (s : ByteArray) : s = ⟨s.data.toList.toArray⟩ := by apply ByteArray.ext; simp
theorem ruOk_parts {x : Ru} (h : ruOkB x = true) : (1 ≤ x.nm.size ∧ x.nm.size ≤ 6) ∧ okX x.kd x.sy x.n x.ks = true ∧ (0 ≤ x.pri ∧ x.pri ≤ 9 ∧ 0 ≤ x.mode ∧ x.mode ≤ 4 ∧ 0 ≤ x.lo ∧ x.lo ≤ x.hi ∧ x.hi ≤ 100 ∧ 0 ≤ x.key ∧ x.key < 4 ∧ -9 ≤ x.add ∧ x.add ≤ 9 ∧ -1 ≤ x.ra ∧ x.ra < 5) := by
  unfold ruOkB nameB at h
  simp only [Bool.and_eq_true, decide_eq_true_eq] at h
  exact ⟨h.1.1.1, h.1.2, h.2⟩

set_option maxHeartbeats 400000 in
theorem l8Raise_any (s : Int) (w : World) :
    Calls Tryd.prog 13 #[.int .i64 s] w fun e w' => e = .returned (.string ⟨(raiseT s).toArray⟩) ∧ Below w.heap.size w w' := by
  by_cases h : s < 0
  · have hr : raiseT s = [45] := if_pos h
    rw [hr]
    go_enter Tryd.func13, Tryd.ntmps13
    go_wp2
    go_ret
    exact ⟨rfl, Below.refl _ _⟩
  · have hr : raiseT s = [letB s] := if_neg h
    rw [hr]
    go_enter Tryd.func13, Tryd.ntmps13
    go_wp2_with fail
    refine (l1Letter_any s _).mono ?_
    rintro e w1 ⟨rfl, rfl⟩
    go_wp2
    go_ret
    exact ⟨rfl, Below.refl _ _⟩

set_option maxHeartbeats 400000 in
theorem raiseWord_any (s : Int) (w : World) (h1 : s < 5) :
    Calls Tryd.prog 19 #[.int .i64 s] w fun e w' => e = .returned (.string ⟨(raiseT s).toArray⟩) ∧ Below w.heap.size w w' := by
  by_cases h : s < 0
  · have hr : raiseT s = [45] := if_pos h
    rw [hr]
    go_enter Tryd.func19, Tryd.ntmps19
    go_wp2
    go_ret
    exact ⟨rfl, Below.refl _ _⟩
  · have hlet := fun w => letterOf_any s w
    rcases (show s = 0 ∨ s = 1 ∨ s = 2 ∨ s = 3 ∨ s = 4 by omega) with rfl | rfl | rfl | rfl | rfl
    · have hl : ((letB 0).toNat : Int) = 97 := by decide
      have hh : raiseT 0 = [97] := by decide
      have hcv : ∀ w, (convert 5 9 (.int .u8 97)).run Tryd.prog w = .ok (.string ⟨#[97]⟩) w := fun _ => by kernel_rfl
      rw [hl] at hlet
      rw [hh]
      go_enter Tryd.func19, Tryd.ntmps19
      go_wp2_with fail
      refine (hlet _).mono ?_
      rintro e w1 ⟨rfl, hb1⟩
      go_wp2
      go_ret
      exact ⟨rfl, hb1⟩
    · have hl : ((letB 1).toNat : Int) = 98 := by decide
      have hh : raiseT 1 = [98] := by decide
      have hcv : ∀ w, (convert 5 9 (.int .u8 98)).run Tryd.prog w = .ok (.string ⟨#[98]⟩) w := fun _ => by kernel_rfl
      rw [hl] at hlet
      rw [hh]
      go_enter Tryd.func19, Tryd.ntmps19
      go_wp2_with fail
      refine (hlet _).mono ?_
      rintro e w1 ⟨rfl, hb1⟩
      go_wp2
      go_ret
      exact ⟨rfl, hb1⟩
    · have hl : ((letB 2).toNat : Int) = 99 := by decide
      have hh : raiseT 2 = [99] := by decide
      have hcv : ∀ w, (convert 5 9 (.int .u8 99)).run Tryd.prog w = .ok (.string ⟨#[99]⟩) w := fun _ => by kernel_rfl
      rw [hl] at hlet
      rw [hh]
      go_enter Tryd.func19, Tryd.ntmps19
      go_wp2_with fail
      refine (hlet _).mono ?_
      rintro e w1 ⟨rfl, hb1⟩
      go_wp2
      go_ret
      exact ⟨rfl, hb1⟩
    · have hl : ((letB 3).toNat : Int) = 100 := by decide
      have hh : raiseT 3 = [100] := by decide
      have hcv : ∀ w, (convert 5 9 (.int .u8 100)).run Tryd.prog w = .ok (.string ⟨#[100]⟩) w := fun _ => by kernel_rfl
      rw [hl] at hlet
      rw [hh]
      go_enter Tryd.func19, Tryd.ntmps19
      go_wp2_with fail
      refine (hlet _).mono ?_
      rintro e w1 ⟨rfl, hb1⟩
      go_wp2
      go_ret
      exact ⟨rfl, hb1⟩
    · have hl : ((letB 4).toNat : Int) = 101 := by decide
      have hh : raiseT 4 = [101] := by decide
      have hcv : ∀ w, (convert 5 9 (.int .u8 101)).run Tryd.prog w = .ok (.string ⟨#[101]⟩) w := fun _ => by kernel_rfl
      rw [hl] at hlet
      rw [hh]
      go_enter Tryd.func19, Tryd.ntmps19
      go_wp2_with fail
      refine (hlet _).mono ?_
      rintro e w1 ⟨rfl, hb1⟩
      go_wp2
      go_ret
      exact ⟨rfl, hb1⟩

set_option maxHeartbeats 400000 in
theorem l8Dec_any (n : Int) (w : World) (h0 : -1000 ≤ n) (h1 : n ≤ 1000) :
    Calls Tryd.prog 12 #[.int .i64 n] w fun e w' => e = .returned (.string ⟨(Lib.itoa n).toArray⟩) ∧ Below w.heap.size w w' := by
  by_cases h : n < 0
  · rw [itoa_neg h]
    go_enter Tryd.func12, Tryd.ntmps12
    go_wp2_with fail
    refine (l14Dec_any (-n) _ (by omega) (by omega)).mono ?_
    rintro e w1 ⟨rfl, hb1⟩
    have hl := Lib.itoa_length_le (-n) (by omega) (by omega)
    go_wp2
    go_ret
    exact ⟨ret_str (ba_app [45] _), hb1⟩
  · go_enter Tryd.func12, Tryd.ntmps12
    go_wp2_with fail
    refine (l14Dec_any n _ (by omega) (by omega)).mono ?_
    rintro e w1 ⟨rfl, hb1⟩
    go_wp2
    go_ret
    exact ⟨rfl, hb1⟩
end Go.Proofs.YtdmcpneppalaiaaDoor
