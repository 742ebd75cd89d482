/- The letter of what happened, by the program and by the specification. -/
import Derived.Test.YtdmcpneppalaiaaDoorEv
import Derived.Test.YtdmcpneppalaiaaDoorDec
import Derived.WalkSpells
namespace Go.Proofs.YtdmcpneppalaiaaDoor
open Go.ChangeShapes Go.WideShapes Go.ChangeAt Go.RowKit
set_option linter.unusedVariables false

def letB (s : Int) : UInt8 := if 0 ≤ s ∧ s < 5 then UInt8.ofNat (97 + s.toNat) else 63
theorem letB_no {s : Int} (h : ¬ (0 ≤ s ∧ s < 5)) : letB s = 63 := if_neg h

def lettersV : Value := .agg #[.int .u8 97, .int .u8 98, .int .u8 99, .int .u8 100, .int .u8 101]

set_option maxHeartbeats 400000 in
theorem letters_any (w : World) :
    Calls Tryd.prog 46 #[] w fun e w' => e = .returned (.agg #[.int .u8 97, .int .u8 98, .int .u8 99, .int .u8 100, .int .u8 101]) ∧ Below w.heap.size w w' := by
  go_enter Tryd.func46, Tryd.ntmps46
  go_wp2
  refine bodyPost_ret (v := .agg #[.int .u8 97, .int .u8 98, .int .u8 99, .int .u8 100, .int .u8 101]) (by simp [results, Tryd.results46, go_sem]) rfl ⟨rfl, ?_⟩
  exact (Below.refl _ _).alloc (Nat.le_refl _) _

theorem ix0 (w : World) : (Instr.index 73 (.agg #[.int .u8 97, .int .u8 98, .int .u8 99, .int .u8 100, .int .u8 101]) (.int .i64 ((0 : Nat) : Int))).run Tryd.prog w = .ok (.int .u8 (97 + ((0 : Nat) : Int))) w := by kernel_rfl
theorem ix1 (w : World) : (Instr.index 73 (.agg #[.int .u8 97, .int .u8 98, .int .u8 99, .int .u8 100, .int .u8 101]) (.int .i64 ((1 : Nat) : Int))).run Tryd.prog w = .ok (.int .u8 (97 + ((1 : Nat) : Int))) w := by kernel_rfl
theorem ix2 (w : World) : (Instr.index 73 (.agg #[.int .u8 97, .int .u8 98, .int .u8 99, .int .u8 100, .int .u8 101]) (.int .i64 ((2 : Nat) : Int))).run Tryd.prog w = .ok (.int .u8 (97 + ((2 : Nat) : Int))) w := by kernel_rfl
theorem ix3 (w : World) : (Instr.index 73 (.agg #[.int .u8 97, .int .u8 98, .int .u8 99, .int .u8 100, .int .u8 101]) (.int .i64 ((3 : Nat) : Int))).run Tryd.prog w = .ok (.int .u8 (97 + ((3 : Nat) : Int))) w := by kernel_rfl
theorem ix4 (w : World) : (Instr.index 73 (.agg #[.int .u8 97, .int .u8 98, .int .u8 99, .int .u8 100, .int .u8 101]) (.int .i64 ((4 : Nat) : Int))).run Tryd.prog w = .ok (.int .u8 (97 + ((4 : Nat) : Int))) w := by kernel_rfl
theorem index_letters (i : Nat) (h : i < 5) (w : World) : (Instr.index 73 (.agg #[.int .u8 97, .int .u8 98, .int .u8 99, .int .u8 100, .int .u8 101]) (.int .i64 i)).run Tryd.prog w = .ok (.int .u8 (97 + i)) w := by
  have : i = 0 ∨ i = 1 ∨ i = 2 ∨ i = 3 ∨ i = 4 := by omega
  rcases this with rfl | rfl | rfl | rfl | rfl
  · exact ix0 w
  · exact ix1 w
  · exact ix2 w
  · exact ix3 w
  · exact ix4 w

theorem letB_nat {i : Nat} (h : i < 5) : (97 : Int) + (i : Int) = ((letB (i : Int)).toNat : Int) := by
  match i, h with
  | 0, _ => decide
  | 1, _ => decide
  | 2, _ => decide
  | 3, _ => decide
  | 4, _ => decide

theorem ret_u8 {a b : Int} (h : a = b) : Ending.returned (.int .u8 a) = .returned (.int .u8 b) := by rw [h]

set_option maxHeartbeats 400000 in
theorem letterOf_any (s : Int) (w : World) :
    Calls Tryd.prog 36 #[.int .i64 s] w fun e w' => e = .returned (.int .u8 (letB s).toNat) ∧ Below w.heap.size w w' := by
  by_cases h : 0 ≤ s ∧ s ≤ 4
  · obtain ⟨i, rfl⟩ := Int.eq_ofNat_of_zero_le h.1
    have hi : i < 5 := by omega
    have hix := index_letters i hi
    have hb : (decide ((0 : Int) ≤ (i : Int)) && decide ((i : Int) ≤ 4)) = true := by simp; omega
    have hlb : Hid _ := letB_nat hi
    clear h
    go_enter Tryd.func36, Tryd.ntmps36
    go_wp2_with fail
    refine (within_any _ _ _ _).mono ?_
    rintro e w' ⟨rfl, rfl⟩
    rw [hb]
    go_wp2_with fail
    refine (letters_any _).mono ?_
    rintro e w1 ⟨rfl, hb1⟩
    go_wp2
    go_ret
    exact ⟨ret_u8 hlb.out, hb1⟩
  · rw [letB_no (by omega)]
    have hb : (decide ((0 : Int) ≤ s) && decide (s ≤ 4)) = false := by rw [Bool.eq_false_iff]; simp; omega
    clear h
    go_enter Tryd.func36, Tryd.ntmps36
    go_wp2_with fail
    refine (within_any _ _ _ _).mono ?_
    rintro e w' ⟨rfl, rfl⟩
    rw [hb]
    go_wp2
    go_ret
    exact ⟨rfl, Below.refl _ _⟩

set_option maxHeartbeats 400000 in
theorem l1Letter_any (s : Int) (w : World) :
    Calls Tryd.prog 26 #[.int .i64 s] w fun e w' => e = .returned (.string ⟨#[letB s]⟩) ∧ w' = w := by
  by_cases h : 0 ≤ s ∧ s < 5
  · obtain ⟨i, rfl⟩ := Int.eq_ofNat_of_zero_le h.1
    have hi : i < 5 := by omega
    clear h
    match i, hi with
    | 0, _ | 1, _ | 2, _ | 3, _ | 4, _ =>
      go_enter Tryd.func26, Tryd.ntmps26
      go_wp2
      go_ret
      exact ⟨rfl, rfl⟩
  · rw [letB_no h]
    by_cases hn : s < 0
    · go_enter Tryd.func26, Tryd.ntmps26
      go_wp2
      go_ret
      exact ⟨rfl, rfl⟩
    · have h5 : 5 ≤ s := by omega
      go_enter Tryd.func26, Tryd.ntmps26
      go_wp2
      go_ret
      exact ⟨rfl, rfl⟩
end Go.Proofs.YtdmcpneppalaiaaDoor
