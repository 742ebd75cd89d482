/- What the readers of bytes and numbers answer. -/
import Derived.Test.YtpkinlcinccccaaDoorNumPure
import Derived.Lib.Strings
namespace Go.Proofs.YtpkinlcinccccaaDoor
open Go.ChangeShapes Go.WideShapes Go.ChangeAt Go.RowKit
set_option linter.unusedVariables false

/-- The bytes of a text. -/
def bs (s : ByteArray) : List UInt8 := s.data.toList
theorem bs_len (s : ByteArray) : (bs s).length = s.size := Array.length_toList
theorem bs_drop (s : ByteArray) {k : Nat} (h : k < s.size) : (bs s).drop k = s[k] :: (bs s).drop (k + 1) := by
  rw [List.drop_eq_getElem_cons (by rw [bs_len]; exact h)]; rfl
theorem bs_drop_end (s : ByteArray) {k : Nat} (h : ¬ k < s.size) : (bs s).drop k = [] := List.drop_eq_nil_of_le (by rw [bs_len]; omega)
theorem u8_lt (c : UInt8) : (c.toNat : Int) < 256 := by have := c.toNat_lt; omega

theorem numAt_stop {n : Int} {l : List UInt8} (h : ∀ c, l.head? = some c → ¬ isDig c) : numAt n l = (n, 0) := by
  match l, h with
  | [], _ => rfl
  | c :: r, h => exact numAt_no (h c rfl)

theorem numAt_step (n : Int) {c : UInt8} {r : List UInt8} (h : isDig c) : numAt n (c :: r) = ((numAt (capStep n c) r).1, (numAt (capStep n c) r).2 + 1) := numAt_yes h

theorem ret2_int {a b c d : Int} (h : a = b) (k : c = d) : Ending.returned (.tuple #[.int .i64 a, .int .i64 c]) = .returned (.tuple #[.int .i64 b, .int .i64 d]) := by rw [h, k]

set_option maxHeartbeats 1000000 in
theorem numberAt_any (s : ByteArray) (p : Nat) (w : World) (hp : p ≤ s.size) (hs : s.size ≤ 1048576) :
    Calls Tryd.prog 96 #[.string s, .int .i64 p] w fun e w' => e = .returned (.tuple #[.int .i64 (numAt 0 ((bs s).drop p)).1, .int .i64 ((p : Int) + ((numAt 0 ((bs s).drop p)).2 : Int))]) ∧ w' = w := by
  go_enter Tryd.func96, Tryd.ntmps96
  go_wp2
  go_loop [1, 6] (fun pl n => ∃ (q : Nat) (m : Int), p ≤ q ∧ q ≤ s.size ∧ 0 ≤ m ∧ m ≤ 10000009 ∧ pl = .int .i64 q ∧ n = .int .i64 m ∧ Hid ((numAt 0 ((bs s).drop p)).1 = (numAt m ((bs s).drop q)).1 ∧ p + (numAt 0 ((bs s).drop p)).2 = q + (numAt m ((bs s).drop q)).2)) (fun pl _ => s.size - (intOf pl).toNat)
  case atStart => exact ⟨p, 0, Nat.le_refl _, hp, by omega, by omega, rfl, rfl, rfl, rfl⟩
  case round =>
    obtain ⟨q, m, hpq, hq, hm0, hm1, rfl, rfl, hr⟩ := hrel
    by_cases hlt : q < s.size
    · have hdr : Hid ((bs s).drop q = s[q] :: (bs s).drop (q + 1)) := bs_drop s hlt
      have hc := u8_lt s[q]
      by_cases hd : 48 ≤ (s[q].toNat : Int) ∧ (s[q].toNat : Int) ≤ 57
      · obtain ⟨hd1, hd2⟩ := hd
        have hdig : Hid (isDig s[q]) := ⟨by omega, by omega⟩
        have hst := numAt_step m (r := (bs s).drop (q + 1)) hdig.out
        have hrel : Hid ((numAt 0 ((bs s).drop p)).1 = (numAt (capStep m s[q]) ((bs s).drop (q + 1))).1 ∧ p + (numAt 0 ((bs s).drop p)).2 = (q + 1) + (numAt (capStep m s[q]) ((bs s).drop (q + 1))).2) := by
          obtain ⟨h1, h2⟩ := hr.out
          rw [hdr.out, hst] at h1 h2
          exact ⟨h1, by simp at h2; omega⟩
        clear hst
        by_cases hcap : m ≤ 1000000
        · have hcs : Hid (capStep m s[q] = 10 * m + ((s[q].toNat : Int) - 48)) := if_pos hcap
          go_wp2
          refine ⟨⟨q + 1, 10 * m + ((s[q].toNat : Int) - 48), by omega, by omega, by omega, by omega, by go_num, rfl, ?_⟩, by simp [intOf]; omega⟩
          rw [← hcs.out]; exact hrel
        · have hcs : Hid (capStep m s[q] = m) := if_neg hcap
          go_wp2
          refine ⟨⟨q + 1, m, by omega, by omega, by omega, by omega, by go_num, rfl, ?_⟩, by simp [intOf]; omega⟩
          have hrel' := hrel.out
          rw [hcs.out] at hrel'
          exact hrel'
      · have e : Hid (numAt m ((bs s).drop q) = (m, 0)) := by
          show _ = _
          rw [hdr.out]
          exact numAt_stop (fun c hc' => by rw [List.head?_cons, Option.some.injEq] at hc'; subst hc'; intro hx; unfold isDig at hx; omega)
        have HD : Hid (¬ (48 ≤ (s[q].toNat : Int) ∧ (s[q].toNat : Int) ≤ 57)) := hd
        clear hd hc
        go_wp2
        all_goals first
          | (exfalso; have h1 := HD.out; omega)
          | skip
        all_goals go_ret2
        all_goals obtain ⟨h1, h2⟩ := hr.out
        all_goals rw [e.out] at h1 h2
        all_goals exact ⟨ret2_int h1.symm (by simp at h2; omega), rfl⟩
    · go_wp2
      go_ret2
      have e : numAt m ((bs s).drop q) = (m, 0) := by rw [bs_drop_end s hlt]; rfl
      obtain ⟨h1, h2⟩ := hr.out
      rw [e] at h1 h2
      exact ⟨ret2_int h1.symm (by simp at h2; omega), rfl⟩

/-- The same, the place behind it a number of its own. -/
theorem numberAt_at (s : ByteArray) (x : Int) (p : Nat) (w : World) (hx : x = p) (hp : p ≤ s.size) (hs : s.size ≤ 1048576) :
    Calls Tryd.prog 96 #[.string s, .int .i64 x] w fun e w' => ∃ (m : Int) (q : Nat), e = .returned (.tuple #[.int .i64 m, .int .i64 q]) ∧ w' = w ∧ p ≤ q ∧ q ≤ s.size ∧ 0 ≤ m ∧ m ≤ 10000009 ∧ Hid (m = (numAt 0 ((bs s).drop p)).1 ∧ q = p + (numAt 0 ((bs s).drop p)).2) := by
  subst hx
  have hb := numAt_bound ((bs s).drop p) 0 (by omega) (by omega)
  have hl : ((bs s).drop p).length = s.size - p := by rw [List.length_drop, bs_len]
  refine (numberAt_any s p w hp hs).mono ?_
  rintro e w' ⟨rfl, hw⟩
  exact ⟨_, p + (numAt 0 ((bs s).drop p)).2, ret2_int rfl (by omega), hw, by omega, by omega, hb.1, hb.2.1, rfl, rfl⟩

/-! ### The letter read back -/
def symB (c : UInt8) : Int := if 97 ≤ c.toNat ∧ c.toNat ≤ 101 then (c.toNat : Int) - 97 else -1
theorem ret_int {a b : Int} (h : a = b) : Ending.returned (.int .i64 a) = .returned (.int .i64 b) := by rw [h]

set_option maxHeartbeats 400000 in
theorem symOf_int (x : Int) (w : World) (h0 : 0 ≤ x) (h1 : x < 256) :
    Calls Tryd.prog 84 #[.int .u8 x] w fun e w' => e = .returned (.int .i64 (if 97 ≤ x ∧ x ≤ 101 then x - 97 else -1)) ∧ Below w.heap.size w w' := by
  generalize hres : (if 97 ≤ x ∧ x ≤ 101 then x - 97 else -1) = res
  have Hres : Hid _ := hres
  clear hres
  go_enter Tryd.func84, Tryd.ntmps84
  go_wp2_with fail
  refine (letters_any _).mono ?_
  rintro e w1 ⟨rfl, hb1⟩
  go_wp2
  go_loopw [3, 4, 6] (fun _ _ i wr => ∃ k : Nat, k ≤ 5 ∧ i = .int .i64 k ∧ Hid (∀ j : Nat, j < k → x ≠ 97 + j) ∧ wr = w1) (fun _ _ i _ => 5 - (intOf i).toNat)
  case atStart => exact ⟨0, Nat.zero_le _, rfl, (fun j hj => by omega), rfl⟩
  case round =>
    obtain ⟨k, hk, rfl, hr, rfl⟩ := hrel
    by_cases hlt : k < 5
    · have hix := index_letters k hlt
      by_cases he : x = 97 + k
      · have hcb : ((97 : Int) + (k : Int) == x) = true := by simp; omega
        have hsy : Hid ((k : Int) = res) := by show _ = _; rw [← Hres.out, if_pos (by omega)]; omega
        clear he
        go_wp2
        go_ret
        exact ⟨ret_int hsy.out, hb1⟩
      · have hcb : ((97 : Int) + (k : Int) == x) = false := by rw [beq_eq_false_iff_ne]; omega
        have hne : Hid (¬ x = 97 + k) := he
        clear he
        go_wp2
        refine ⟨⟨k + 1, by omega, by go_num, fun j hj => ?_, trivial⟩, by simp [intOf]; omega⟩
        by_cases hjk : j < k
        · exact hr.out j hjk
        · obtain rfl : j = k := by omega
          exact hne.out
    · obtain rfl : k = 5 := by omega
      have hsy : Hid (res = -1) := by
        show _ = _
        have g0 := hr.out 0 (by omega); have g1 := hr.out 1 (by omega); have g2 := hr.out 2 (by omega); have g3 := hr.out 3 (by omega); have g4 := hr.out 4 (by omega)
        rw [← Hres.out, if_neg (by omega)]
      go_wp2
      go_ret
      exact ⟨ret_int hsy.out.symm, hb1⟩
theorem symOf_any (c : UInt8) (w : World) :
    Calls Tryd.prog 84 #[.int .u8 c.toNat] w fun e w' => e = .returned (.int .i64 (symB c)) ∧ Below w.heap.size w w' := by
  have := symOf_int c.toNat w (by omega) (u8_lt c)
  have e : (if 97 ≤ (c.toNat : Int) ∧ (c.toNat : Int) ≤ 101 then (c.toNat : Int) - 97 else -1) = symB c := by
    unfold symB
    by_cases h : 97 ≤ c.toNat ∧ c.toNat ≤ 101
    · rw [if_pos h, if_pos (by omega)]
    · rw [if_neg h, if_neg (by omega)]
  rwa [e] at this

theorem u8_eq {c : UInt8} {n : Nat} (h : ((c.toNat : Int) == (n : Int)) = true) (hn : n < 256) : c = UInt8.ofNat n := by
  have : c.toNat = n := by have := eq_of_beq h; omega
  rw [← this]; simp
theorem u8_ne {c : UInt8} {n : Nat} (h : ((c.toNat : Int) == (n : Int)) = false) (hn : n < 256) : c ≠ UInt8.ofNat n := by
  intro e
  rw [beq_eq_false_iff_ne] at h
  apply h
  rw [e]; simp; omega
theorem head_at (s : ByteArray) {q : Nat} (h : q < s.size) : ((bs s).drop q).head? = some s[q] := by rw [bs_drop s h]; rfl
end Go.Proofs.YtpkinlcinccccaaDoor
