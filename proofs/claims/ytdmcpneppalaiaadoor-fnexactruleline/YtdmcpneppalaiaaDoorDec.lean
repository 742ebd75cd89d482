/- What the specification's decimals are: the library's own, at every number. -/
import Derived.Test.YtdmcpneppalaiaaDoorEv
import Derived.Lib.ItoaNum
import Derived.Lib.ItoaLen
import Derived.WalkLawsBesides
import Derived.Deep.Light
import Derived.Outline
import Derived.Laws.BytesArg
namespace Go.Proofs.YtdmcpneppalaiaaDoor
open Go.ChangeShapes Go.WideShapes Go.ChangeAt Go.RowKit
set_option linter.unusedVariables false

/-- The text of some bytes. -/
def strV (l : List UInt8) : Value := .string ⟨l.toArray⟩
theorem ba_app (a b : List UInt8) : ((⟨a.toArray⟩ : ByteArray) ++ ⟨b.toArray⟩) = ⟨(a ++ b).toArray⟩ := by
  apply ByteArray.ext
  simp [ByteArray.data_append]
theorem ret_str {a b : ByteArray} (h : a = b) : Ending.returned (.string a) = .returned (.string b) := by rw [h]
theorem val_str {a b : ByteArray} (h : a = b) : Value.string a = .string b := by rw [h]

theorem itoa_big {k : Int} (h : 9 < k) : Lib.itoa k = Lib.itoa (k / 10) ++ [UInt8.ofNat (48 + k % 10).toNat] := by
  have h1 : ¬ k < 0 := by omega
  have h2 : ¬ k / 10 < 0 := by omega
  unfold Lib.itoa
  rw [if_neg h1, if_neg h2, Lib.decDigits, dif_neg (by omega)]
  have e1 : k.toNat / 10 = (k / 10).toNat := by omega
  have e2 : 48 + k.toNat % 10 = (48 + k % 10).toNat := by omega
  rw [e1, e2]
theorem itoa_small {k : Int} (h0 : 0 ≤ k) (h : ¬ 9 < k) : Lib.itoa k = [UInt8.ofNat (48 + k).toNat] := by
  have h1 : ¬ k < 0 := by omega
  unfold Lib.itoa
  rw [if_neg h1, Lib.decDigits, dif_pos (by omega)]
  have e2 : 48 + k.toNat = (48 + k).toNat := by omega
  rw [e2]
theorem itoa_neg {k : Int} (h : k < 0) : Lib.itoa k = 45 :: Lib.itoa (-k) := by
  have h2 : ¬ (-k) < 0 := by omega
  unfold Lib.itoa
  rw [if_pos h, if_neg h2]
  have e : k.natAbs = (-k).toNat := by omega
  rw [e]
theorem itoa_least : Lib.itoa (-9223372036854775808) = [45, 57, 50, 50, 51, 51, 55, 50, 48, 51, 54, 56, 53, 52, 55, 55, 53, 56, 48, 56] := by decide +kernel

theorem one_byte (c : Int) (w : World) : (convert 50 9 (.slice (some ⟨w.heap.size, 0, none⟩) 1 1)).run Tryd.prog (w.alloc (.cells #[.int .u8 c] 5)) = .ok (.string ⟨#[UInt8.ofNat c.toNat]⟩) (w.alloc (.cells #[.int .u8 c] 5)) :=
  run_convert_bytes_arg (P := Tryd.prog) (w.alloc (.cells #[.int .u8 c] 5)) 50 5 Tryd.underlying50 Tryd.underlying5 w.heap.size 0 1 1 [c] rfl (fun i hi => by
    obtain rfl : i = 0 := by omega
    simp) 9 Tryd.underlying9

set_option maxHeartbeats 400000 in
theorem l14Dec_nat (n : Int) (w : World) (h0 : 0 ≤ n) (h1 : n ≤ 9223372036854775807) :
    Calls Tryd.prog 11 #[.int .i64 n] w fun e w' => e = .returned (.string ⟨(Lib.itoa n).toArray⟩) ∧ Below w.heap.size w w' := by
  have hm : ¬ (n < -9223372036854775807) := by omega
  have hn : ¬ (n < 0) := by omega
  have hob := one_byte
  go_enter Tryd.func11, Tryd.ntmps11
  go_wp2
  go_loopw [0, 3] (fun m s wr => ∃ (k : Int) (acc : List UInt8), 0 ≤ k ∧ k ≤ n ∧ m = .int .i64 k ∧ s = .string ⟨acc.toArray⟩ ∧ Hid (Lib.itoa n = Lib.itoa k ++ acc) ∧ Below w.heap.size w wr) (fun m _ _ => (intOf m).toNat)
  case atStart => exact ⟨n, [], h0, Int.le_refl _, rfl, rfl, (by show _ = _; simp), Below.refl _ _⟩
  case round =>
    obtain ⟨k, acc, hk0, hkn, rfl, rfl, hr, hb⟩ := hrel
    have hal : acc.length ≤ 21 := by
      have e1 := congrArg List.length hr.out
      have e2 := Lib.itoa_length_le n (by omega) h1
      rw [List.length_append] at e1
      omega
    by_cases hlt : 9 < k
    · go_wp2
      refine ⟨⟨k / 10, UInt8.ofNat (48 + k % 10).toNat :: acc, by omega, by omega, rfl, val_str (ba_app [_] acc), ?_, hb.alloc hb.size _⟩, by simp [intOf]; omega⟩
      show Lib.itoa n = _
      rw [hr.out, itoa_big hlt]; simp
    · go_wp2
      go_ret
      refine ⟨ret_str ?_, hb.alloc hb.size _⟩
      rw [hr.out, itoa_small hk0 (by omega)]
      exact ba_app [_] acc

set_option maxHeartbeats 400000 in
theorem l14Dec_any (n : Int) (w : World) (h0 : -9223372036854775808 ≤ n) (h1 : n ≤ 9223372036854775807) :
    Calls Tryd.prog 11 #[.int .i64 n] w fun e w' => e = .returned (.string ⟨(Lib.itoa n).toArray⟩) ∧ Below w.heap.size w w' := by
  by_cases hn : 0 ≤ n
  · exact l14Dec_nat n w hn h1
  · by_cases hm : n < -9223372036854775807
    · obtain rfl : n = -9223372036854775808 := by omega
      rw [itoa_least]
      go_enter Tryd.func11, Tryd.ntmps11
      go_wp2
      go_ret
      exact ⟨rfl, Below.refl _ _⟩
    · rw [itoa_neg (by omega)]
      have hn0 : n < 0 := by omega
      clear hn
      go_enter Tryd.func11, Tryd.ntmps11
      go_wp2_with fail
      refine (l14Dec_nat _ _ (by omega) (by omega)).mono ?_
      rintro e w1 ⟨rfl, hb⟩
      have hl := Lib.itoa_length_le (-n) (by omega) (by omega)
      go_wp2
      go_ret
      exact ⟨ret_str (ba_app [45] _), hb⟩
end Go.Proofs.YtdmcpneppalaiaaDoor
