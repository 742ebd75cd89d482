/- The specification's reader of a number. -/
import Derived.Test.YtpkinlcinccccaaDoorNum1
import Derived.Test.YtpkinlcinccccaaDoorInfoStr
namespace Go.Proofs.YtpkinlcinccccaaDoor
open Go.ChangeShapes Go.WideShapes Go.ChangeAt Go.RowKit
set_option linter.unusedVariables false

theorem bs_extract (s : ByteArray) (a b : Nat) : bs (s.extract a b) = ((bs s).drop a).take (b - a) := Lib.extract_data s a b

/-- A row of texts of its own. -/
def strCellsL (ps : List ByteArray) : List Value := ps.map Value.string

theorem digs_take (l : List UInt8) (k : Nat) (h : k < l.length) : digs (l.take (k + 1)) = digs (l.take k) * 10 + (l[k].toNat - 48) := by
  rw [List.take_succ_eq_append_getElem h, digs_snoc]
theorem digs_lt : ∀ (n : Nat) (l : List UInt8), l.length = n → (∀ c ∈ l, isDig c) → digs l < 10 ^ n
  | 0, l, hl, _ => by
    match l, hl with
    | [], _ => decide
  | n + 1, l, hl, hd => by
    obtain ⟨r, c, rfl⟩ : ∃ r c, l = r ++ [c] := ⟨l.dropLast, l.getLast (by intro e; simp [e] at hl), (List.dropLast_concat_getLast _).symm⟩
    have hr : r.length = n := by simpa using hl
    have ih := digs_lt n r hr (fun x hx => hd x (by simp [hx]))
    have hc := hd c (by simp)
    rw [digs_snoc, Nat.pow_succ]
    unfold isDig at hc
    omega

/-- What the specification's reader of a number answers. -/
def numEnd (r : Option Int) : Ending := .returned (.tuple #[.int .i64 (r.getD 0), .bool r.isSome])

theorem numF_pos {s : List UInt8} (h : ¬ s.head? = some 45) : numF s = (numPos s false).map posI := if_neg h
theorem numF_neg {s : List UInt8} (h : s.head? = some 45) : numF s = (numPos s.tail true).map negI := if_pos h
theorem numPos_no {r : List UInt8} {neg : Bool} (h : r = [] ∨ 17 < r.length ∨ (r.head? = some 48 ∧ (1 < r.length ∨ neg = true)) ∨ ¬ (∀ c ∈ r, isDig c)) : numPos r neg = none := if_pos h
theorem numPos_yes {r : List UInt8} {neg : Bool} (h : ¬ (r = [] ∨ 17 < r.length ∨ (r.head? = some 48 ∧ (1 < r.length ∨ neg = true)) ∨ ¬ (∀ c ∈ r, isDig c))) : numPos r neg = some (digs r) := if_neg h

/-- The loop over the digits, from the place where the number begins to be read. -/
def DigLoop (s : ByteArray) (k : Nat) (n : Int) : Prop := (∀ c ∈ (bs s).take k, isDig c) ∧ n = digs ((bs s).take k)

set_option maxHeartbeats 4000000 in
theorem l14Num_any (s : ByteArray) (w : World) (hs : s.size ≤ 1048576) :
    Calls Tryd.prog 46 #[.string s] w fun e w' => e = numEnd (numF (bs s)) ∧ w' = w := by
  have hbl := bs_len s
  by_cases h0 : s.size = 0
  · have hnf : Hid (numF (bs s) = none) := by
      have : bs s = [] := List.eq_nil_of_length_eq_zero (by omega)
      show _ = _
      rw [this]; rfl
    have hz : (s.size : Int) = 0 := by omega
    clear hbl h0
    go_enter Tryd.func46, Tryd.ntmps46
    go_wp2
    go_ret2
    exact ⟨by rw [hnf.out]; rfl, rfl⟩
  · have hpos : 0 < s.size := by omega
    have hpi : (0 : Int) < (s.size : Int) := by omega
    have hh : Hid ((bs s).head? = some s[0]) := head_at s hpos
    clear h0
    cases h45 : ((s[0].toNat : Int) == 45)
    · have hnf : Hid (numF (bs s) = (numPos (bs s) false).map posI) := numF_pos (by rw [hh.out, Option.some.injEq]; exact u8_ne (n := 45) h45 (by decide))
      go_enter Tryd.func46, Tryd.ntmps46
      by_cases r0 : s.size = 0
      · have hz : (s.size : Int) = 0 := by omega
        have hno : Hid (numPos (bs s) false = none) := numPos_no (Or.inl (List.eq_nil_of_length_eq_zero (by rw [bs_len]; exact r0)))
        clear r0
        go_wp2
        go_ret2
        exact ⟨by rw [hnf.out, hno.out]; rfl, rfl⟩
      have rpos : 0 < s.size := by omega
      have rne : ((s.size : Int) == 0) = false := by rw [beq_eq_false_iff_ne]; omega
      clear r0
      by_cases r17 : (17 : Int) < (s.size : Int)
      · have hno : Hid (numPos (bs s) false = none) := numPos_no (Or.inr (Or.inl (by rw [bs_len]; omega)))
        go_wp2
        go_ret2
        exact ⟨by rw [hnf.out, hno.out]; rfl, rfl⟩
      have hR0 : Hid ((bs s).head? = some s[0]) := head_at s rpos
      cases r48 : ((s[0].toNat : Int) == 48)
      · have h48 : Hid (¬ (bs s).head? = some 48) := by
            show ¬ _ = _
            rw [hR0.out, Option.some.injEq]
            exact u8_ne (n := 48) r48 (by decide)
        go_wp2
        go_loop [5, 6] (fun n i => ∃ k : Nat, ∃ m : Nat, k ≤ s.size ∧ i = .int .i64 k ∧ n = .int .i64 m ∧ m < 100000000000000000 ∧ Hid ((∀ c ∈ (bs s).take k, isDig c) ∧ m = digs ((bs s).take k))) (fun _ i => s.size - (intOf i).toNat)
        case atStart => exact ⟨0, 0, Nat.zero_le _, rfl, rfl, by omega, (by intro c hc; simp at hc), by simp [digs]⟩
        case round =>
          obtain ⟨k, m, hk, rfl, rfl, hm, hr⟩ := hrel
          by_cases hlt : k < s.size
          · have htk : Hid ((bs s).take (k + 1) = (bs s).take k ++ [s[k]]) := by
              show _ = _
              rw [List.take_succ_eq_append_getElem (by rw [bs_len]; exact hlt)]; rfl
            have hm16 : m < 10000000000000000 := by
              have h1 := digs_lt k ((bs s).take k) (by rw [List.length_take, bs_len]; omega) hr.out.1
              have h2 : 10 ^ k ≤ 10 ^ 16 := Nat.pow_le_pow_right (by omega) (by omega)
              rw [hr.out.2]; omega
            by_cases hd : 48 ≤ (s[k].toNat : Int) ∧ (s[k].toNat : Int) ≤ 57
            · obtain ⟨hd1, hd2⟩ := hd
              have hdig : Hid (isDig s[k]) := ⟨by omega, by omega⟩
              go_wp2
              refine ⟨⟨k + 1, m * 10 + (s[k].toNat - 48), by omega, by go_num, ?_, by omega, ?_⟩, by simp [intOf]; omega⟩
              · congr 1; omega
              · refine ⟨?_, ?_⟩
                · rw [htk.out]
                  intro c hc
                  simp only [List.mem_append, List.mem_singleton] at hc
                  rcases hc with hc | rfl
                  · exact hr.out.1 c hc
                  · exact hdig.out
                · rw [htk.out, digs_snoc, ← hr.out.2]
            · have HD : Hid (¬ (48 ≤ (s[k].toNat : Int) ∧ (s[k].toNat : Int) ≤ 57)) := hd
              have hno : Hid (numPos (bs s) false = none) := numPos_no (Or.inr (Or.inr (Or.inr (fun hall => by
                have h1 : isDig s[k] := hall _ (by rw [← List.take_append_drop (k + 1) (bs s), htk.out]; simp)
                unfold isDig at h1
                exact hd ⟨by omega, by omega⟩))))
              clear hd
              go_wp2
              all_goals first
                | (exfalso; have h1 := HD.out; omega)
                | skip
              all_goals go_ret2
              all_goals exact ⟨by rw [hnf.out, hno.out]; rfl, rfl⟩
          · have hyes : Hid (numPos (bs s) false = some m) := by
              show _ = _
              have e : (bs s).take k = bs s := List.take_of_length_le (by rw [bs_len]; omega)
              obtain ⟨h1, h2⟩ := hr.out
              rw [e] at h1 h2
              rw [h2]
              refine numPos_yes (fun hx => ?_)
              rcases hx with hx | hx | hx | hx
              · have := congrArg List.length hx; rw [bs_len, List.length_nil] at this; omega
              · rw [bs_len] at hx; omega
              · exact h48.out hx.1
              · exact hx h1
            go_wp2
            go_ret2
            exact ⟨by rw [hnf.out, hyes.out]; rfl, rfl⟩
      · have h48 : Hid ((bs s).head? = some 48) := by
            show _ = _
            rw [hR0.out, u8_eq (n := 48) r48 (by decide)]; rfl
        by_cases r1 : (1 : Int) < (s.size : Int)
        · have hno : Hid (numPos (bs s) false = none) := numPos_no (Or.inr (Or.inr (Or.inl ⟨h48.out, Or.inl (by rw [bs_len]; omega)⟩)))
          go_wp2
          go_ret2
          exact ⟨by rw [hnf.out, hno.out]; rfl, rfl⟩
        · go_wp2
          go_loop [5, 6] (fun n i => ∃ k : Nat, ∃ m : Nat, k ≤ s.size ∧ i = .int .i64 k ∧ n = .int .i64 m ∧ m < 100000000000000000 ∧ Hid ((∀ c ∈ (bs s).take k, isDig c) ∧ m = digs ((bs s).take k))) (fun _ i => s.size - (intOf i).toNat)
          case atStart => exact ⟨0, 0, Nat.zero_le _, rfl, rfl, by omega, (by intro c hc; simp at hc), by simp [digs]⟩
          case round =>
            obtain ⟨k, m, hk, rfl, rfl, hm, hr⟩ := hrel
            by_cases hlt : k < s.size
            · have htk : Hid ((bs s).take (k + 1) = (bs s).take k ++ [s[k]]) := by
                show _ = _
                rw [List.take_succ_eq_append_getElem (by rw [bs_len]; exact hlt)]; rfl
              have hm16 : m < 10000000000000000 := by
                have h1 := digs_lt k ((bs s).take k) (by rw [List.length_take, bs_len]; omega) hr.out.1
                have h2 : 10 ^ k ≤ 10 ^ 16 := Nat.pow_le_pow_right (by omega) (by omega)
                rw [hr.out.2]; omega
              by_cases hd : 48 ≤ (s[k].toNat : Int) ∧ (s[k].toNat : Int) ≤ 57
              · obtain ⟨hd1, hd2⟩ := hd
                have hdig : Hid (isDig s[k]) := ⟨by omega, by omega⟩
                go_wp2
                refine ⟨⟨k + 1, m * 10 + (s[k].toNat - 48), by omega, by go_num, ?_, by omega, ?_⟩, by simp [intOf]; omega⟩
                · congr 1; omega
                · refine ⟨?_, ?_⟩
                  · rw [htk.out]
                    intro c hc
                    simp only [List.mem_append, List.mem_singleton] at hc
                    rcases hc with hc | rfl
                    · exact hr.out.1 c hc
                    · exact hdig.out
                  · rw [htk.out, digs_snoc, ← hr.out.2]
              · have HD : Hid (¬ (48 ≤ (s[k].toNat : Int) ∧ (s[k].toNat : Int) ≤ 57)) := hd
                have hno : Hid (numPos (bs s) false = none) := numPos_no (Or.inr (Or.inr (Or.inr (fun hall => by
                  have h1 : isDig s[k] := hall _ (by rw [← List.take_append_drop (k + 1) (bs s), htk.out]; simp)
                  unfold isDig at h1
                  exact hd ⟨by omega, by omega⟩))))
                clear hd
                go_wp2
                all_goals first
                  | (exfalso; have h1 := HD.out; omega)
                  | skip
                all_goals go_ret2
                all_goals exact ⟨by rw [hnf.out, hno.out]; rfl, rfl⟩
            · have hyes : Hid (numPos (bs s) false = some m) := by
                show _ = _
                have e : (bs s).take k = bs s := List.take_of_length_le (by rw [bs_len]; omega)
                obtain ⟨h1, h2⟩ := hr.out
                rw [e] at h1 h2
                rw [h2]
                refine numPos_yes (fun hx => ?_)
                rcases hx with hx | hx | hx | hx
                · have := congrArg List.length hx; rw [bs_len, List.length_nil] at this; omega
                · rw [bs_len] at hx; omega
                · exact hx.2.elim (fun h => by rw [bs_len] at h; omega) (fun h => by cases h)
                · exact hx h1
              go_wp2
              go_ret2
              exact ⟨by rw [hnf.out, hyes.out]; rfl, rfl⟩
    · have hnf : Hid (numF (bs s) = (numPos (bs s).tail true).map negI) := numF_neg (by rw [hh.out, u8_eq (n := 45) h45 (by decide)]; rfl)
      obtain ⟨R, hext⟩ : ∃ R, s.extract 1 s.size = R := ⟨_, rfl⟩
      have hR : bs R = (bs s).tail := by
        rw [← hext, bs_extract, List.take_of_length_le (by rw [List.length_drop, bs_len]; omega), List.drop_one]
      have hRs : R.size ≤ 1048576 := by
        have := congrArg List.length hR
        rw [bs_len, List.length_tail, bs_len] at this
        omega
      rw [← hR] at hnf
      clear hR hbl
      go_enter Tryd.func46, Tryd.ntmps46
      by_cases r0 : R.size = 0
      · have hz : (R.size : Int) = 0 := by omega
        have hno : Hid (numPos (bs R) true = none) := numPos_no (Or.inl (List.eq_nil_of_length_eq_zero (by rw [bs_len]; exact r0)))
        clear r0
        go_wp2
        go_ret2
        exact ⟨by rw [hnf.out, hno.out]; rfl, rfl⟩
      have rpos : 0 < R.size := by omega
      have rne : ((R.size : Int) == 0) = false := by rw [beq_eq_false_iff_ne]; omega
      clear r0
      by_cases r17 : (17 : Int) < (R.size : Int)
      · have hno : Hid (numPos (bs R) true = none) := numPos_no (Or.inr (Or.inl (by rw [bs_len]; omega)))
        go_wp2
        go_ret2
        exact ⟨by rw [hnf.out, hno.out]; rfl, rfl⟩
      have hR0 : Hid ((bs R).head? = some R[0]) := head_at R rpos
      cases r48 : ((R[0].toNat : Int) == 48)
      · have h48 : Hid (¬ (bs R).head? = some 48) := by
            show ¬ _ = _
            rw [hR0.out, Option.some.injEq]
            exact u8_ne (n := 48) r48 (by decide)
        go_wp2
        go_loop [5, 6] (fun n i => ∃ k : Nat, ∃ m : Nat, k ≤ R.size ∧ i = .int .i64 k ∧ n = .int .i64 m ∧ m < 100000000000000000 ∧ Hid ((∀ c ∈ (bs R).take k, isDig c) ∧ m = digs ((bs R).take k))) (fun _ i => R.size - (intOf i).toNat)
        case atStart => exact ⟨0, 0, Nat.zero_le _, rfl, rfl, by omega, (by intro c hc; simp at hc), by simp [digs]⟩
        case round =>
          obtain ⟨k, m, hk, rfl, rfl, hm, hr⟩ := hrel
          by_cases hlt : k < R.size
          · have htk : Hid ((bs R).take (k + 1) = (bs R).take k ++ [R[k]]) := by
              show _ = _
              rw [List.take_succ_eq_append_getElem (by rw [bs_len]; exact hlt)]; rfl
            have hm16 : m < 10000000000000000 := by
              have h1 := digs_lt k ((bs R).take k) (by rw [List.length_take, bs_len]; omega) hr.out.1
              have h2 : 10 ^ k ≤ 10 ^ 16 := Nat.pow_le_pow_right (by omega) (by omega)
              rw [hr.out.2]; omega
            by_cases hd : 48 ≤ (R[k].toNat : Int) ∧ (R[k].toNat : Int) ≤ 57
            · obtain ⟨hd1, hd2⟩ := hd
              have hdig : Hid (isDig R[k]) := ⟨by omega, by omega⟩
              go_wp2
              refine ⟨⟨k + 1, m * 10 + (R[k].toNat - 48), by omega, by go_num, ?_, by omega, ?_⟩, by simp [intOf]; omega⟩
              · congr 1; omega
              · refine ⟨?_, ?_⟩
                · rw [htk.out]
                  intro c hc
                  simp only [List.mem_append, List.mem_singleton] at hc
                  rcases hc with hc | rfl
                  · exact hr.out.1 c hc
                  · exact hdig.out
                · rw [htk.out, digs_snoc, ← hr.out.2]
            · have HD : Hid (¬ (48 ≤ (R[k].toNat : Int) ∧ (R[k].toNat : Int) ≤ 57)) := hd
              have hno : Hid (numPos (bs R) true = none) := numPos_no (Or.inr (Or.inr (Or.inr (fun hall => by
                have h1 : isDig R[k] := hall _ (by rw [← List.take_append_drop (k + 1) (bs R), htk.out]; simp)
                unfold isDig at h1
                exact hd ⟨by omega, by omega⟩))))
              clear hd
              go_wp2
              all_goals first
                | (exfalso; have h1 := HD.out; omega)
                | skip
              all_goals go_ret2
              all_goals exact ⟨by rw [hnf.out, hno.out]; rfl, rfl⟩
          · have hyes : Hid (numPos (bs R) true = some m) := by
              show _ = _
              have e : (bs R).take k = bs R := List.take_of_length_le (by rw [bs_len]; omega)
              obtain ⟨h1, h2⟩ := hr.out
              rw [e] at h1 h2
              rw [h2]
              refine numPos_yes (fun hx => ?_)
              rcases hx with hx | hx | hx | hx
              · have := congrArg List.length hx; rw [bs_len, List.length_nil] at this; omega
              · rw [bs_len] at hx; omega
              · exact h48.out hx.1
              · exact hx h1
            go_wp2
            go_ret2
            exact ⟨by rw [hnf.out, hyes.out]; rfl, rfl⟩
      · have h48 : Hid ((bs R).head? = some 48) := by
            show _ = _
            rw [hR0.out, u8_eq (n := 48) r48 (by decide)]; rfl
        have hno : Hid (numPos (bs R) true = none) := numPos_no (Or.inr (Or.inr (Or.inl ⟨h48.out, Or.inr rfl⟩)))
        by_cases r1 : (1 : Int) < (R.size : Int)
        · go_wp2
          go_ret2
          exact ⟨by rw [hnf.out, hno.out]; rfl, rfl⟩
        · go_wp2
          go_ret2
          exact ⟨by rw [hnf.out, hno.out]; rfl, rfl⟩
end Go.Proofs.YtpkinlcinccccaaDoor
