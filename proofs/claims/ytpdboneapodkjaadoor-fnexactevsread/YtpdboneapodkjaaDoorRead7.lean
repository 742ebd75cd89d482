/- The specification's reading of one word, walked. -/
import Derived.Test.YtpdboneapodkjaaDoorRead6
namespace Go.Proofs.YtpdboneapodkjaaDoor
open Go.ChangeShapes Go.WideShapes Go.ChangeAt Go.RowKit
set_option linter.unusedVariables false

theorem l14Num_ex (s : ByteArray) (w : World) (hs : s.size ≤ 1048576) :
    Calls Tryd.prog 33 #[.string s] w fun e w' => ∃ (n : Int) (b : Bool), e = .returned (.tuple #[.int .i64 n, .bool b]) ∧ w' = w ∧ Hid (n = (numF (bs s)).getD 0 ∧ b = (numF (bs s)).isSome) :=
  (l14Num_any s w hs).mono fun _ _ ⟨he, hw⟩ => ⟨_, _, he, hw, rfl, rfl⟩

/-- What reading one word comes to. -/
def OneRes (s : ByteArray) (w : World) (e : Ending) (w' : World) : Prop :=
  ∃ (x : Ev) (ok : Bool), e = .returned (.tuple #[.agg #[.int .i64 x.sym, .int .i64 x.at', .int .i64 x.val], .bool ok]) ∧ OnePost (bs s) x ok ∧ Below w.heap.size w w'
theorem OneRes.mk {s : ByteArray} {w w' : World} {e : Ending} (x : Ev) (ok : Bool) (he : e = .returned (.tuple #[.agg #[.int .i64 x.sym, .int .i64 x.at', .int .i64 x.val], .bool ok])) (hp : OnePost (bs s) x ok) (hb : Below w.heap.size w w') : OneRes s w e w' := ⟨x, ok, he, hp, hb⟩

theorem l14Find_61 (s : ByteArray) (w : World) (hs : s.size ≤ 1048576) :
    Calls Tryd.prog 32 #[.string s, .int .u8 61] w fun e w' => ∃ k : Int, e = .returned (.int .i64 k) ∧ w' = w ∧ FindPost s 61 k := l14Find_any s 61 w hs

set_option maxHeartbeats 4000000 in
theorem l1One_any (s : ByteArray) (w : World) (hs : s.size ≤ 1048576) :
    Calls Tryd.prog 24 #[.string s] w fun e w' => OneRes s w e w' := by
  have hbl := bs_len s
  by_cases h2 : (s.size : Int) < 2
  · have hop : Hid (OnePost (bs s) ⟨0, 0, 0⟩ false) := one_short (by omega)
    clear hbl
    go_enter Tryd.func24, Tryd.ntmps24
    go_wp2
    refine bodyPost_ret (v := .tuple #[.agg #[.int .i64 0, .int .i64 0, .int .i64 0], .bool false]) (by simp [results, Tryd.results24, go_sem]) rfl (OneRes.mk ⟨0, 0, 0⟩ false rfl hop.out ?_)
    exact ((Below.refl _ _).alloc (Nat.le_refl _) _).alloc (by simp) _
  · have hpos : 0 < s.size := by omega
    have hp1 : 1 < s.size := by omega
    have hh : Hid ((bs s).head? = some s[0]) := head_at s hpos
    have hdr : Hid (bs s = s[0] :: (bs s).drop 1) := by
      have := bs_drop s hpos
      rw [List.drop_zero] at this
      exact this
    by_cases hlet : 97 ≤ (s[0].toNat : Int) ∧ (s[0].toNat : Int) ≤ 101
    · obtain ⟨hl1, hl2⟩ := hlet
      have Hlet : Hid (97 ≤ s[0].toNat ∧ s[0].toNat ≤ 101) := ⟨by omega, by omega⟩
      clear hbl
      go_enter Tryd.func24, Tryd.ntmps24
      go_wp2_with fail
      refine (l14Find_61 s _ hs).mono ?_
      rintro e w1 ⟨k, rfl, rfl, hf⟩
      rcases hf with ⟨rfl, hno⟩ | ⟨j, rfl, hj, hj61, hbef⟩
      · have Hno : Hid (∀ x ∈ bs s, x ≠ 61) := hno
        clear hno
        obtain ⟨R, hext⟩ : ∃ R, s.extract 1 s.size = R := ⟨_, rfl⟩
        have hR : Hid (bs R = (bs s).drop 1) := by
          show _ = _
          rw [← hext, bs_extract, List.take_of_length_le (by rw [List.length_drop, bs_len]; omega)]
        have hRs : R.size ≤ 1048576 := by
          have := congrArg List.length hR.out
          rw [bs_len, List.length_drop, bs_len] at this
          omega
        go_wp2_with fail
        refine (l14Num_ex R _ hRs).mono ?_
        rintro e w2 ⟨n, b, rfl, rfl, hn⟩
        have hop : Hid (OnePost (bs s) ⟨(s[0].toNat : Int) - 97, n, 0⟩ b) := by
          have h1 := one_plain (c := s[0]) (r := (bs s).drop 1) Hlet.out (by rw [← hdr.out]; exact Hno.out)
          rw [← hdr.out, ← hR.out, ← hn.out.1, ← hn.out.2] at h1
          exact h1
        go_wp2
        refine bodyPost_ret (v := .tuple #[.agg #[.int .i64 ((s[0].toNat : Int) - 97), .int .i64 n, .int .i64 0], .bool b]) (by simp [results, Tryd.results24, go_sem]) rfl (OneRes.mk ⟨(s[0].toNat : Int) - 97, n, 0⟩ b rfl hop.out ?_)
        exact ((Below.refl _ _).alloc (Nat.le_refl _) _).alloc (by simp) _
      · have Hj61 : Hid (((bs s).drop j).head? = some 61) := hj61
        have Hbef : Hid (∀ x ∈ (bs s).take j, x ≠ 61) := hbef
        clear hj61 hbef
        have hj0 : 0 < j := by
          refine Nat.pos_of_ne_zero fun e => ?_
          have h1 := Hj61.out
          rw [e, List.drop_zero, hh.out, Option.some.injEq] at h1
          have h2 := Hlet.out
          rw [h1] at h2
          revert h2; decide
        obtain ⟨R1, hext1⟩ : ∃ R, s.extract (j + 1) s.size = R := ⟨_, rfl⟩
        have hR1 : Hid (bs R1 = (bs s).drop (j + 1)) := by
          show _ = _
          rw [← hext1, bs_extract, List.take_of_length_le (by rw [List.length_drop, bs_len]; omega)]
        have hR1s : R1.size ≤ 1048576 := by
          have := congrArg List.length hR1.out
          rw [bs_len, List.length_drop, bs_len] at this
          omega
        obtain ⟨R2, hext2⟩ : ∃ R, s.extract 0 j = R := ⟨_, rfl⟩
        have hR2 : Hid (bs R2 = (bs s).take j) := by
          show _ = _
          rw [← hext2, bs_extract, List.drop_zero, Nat.sub_zero]
        have hR2s : R2.size = j := by
          have := congrArg List.length hR2.out
          rw [bs_len, List.length_take, bs_len] at this
          omega
        have hR2p : 1 ≤ R2.size := by omega
        have hR2q : R2.size ≤ 1048576 := by omega
        have HR2s : Hid (R2.size = j) := hR2s
        clear hR2s
        obtain ⟨R3, hext3⟩ : ∃ R, R2.extract 1 R2.size = R := ⟨_, rfl⟩
        have hR3 : Hid (bs R3 = ((bs s).take j).drop 1) := by
          show _ = _
          rw [← hext3, bs_extract, List.take_of_length_le (by rw [List.length_drop, bs_len]; omega), hR2.out]
        have hR3s : R3.size ≤ 1048576 := by
          have := congrArg List.length hR3.out
          rw [bs_len, List.length_drop, List.length_take, bs_len] at this
          omega
        have hcut : Hid (bs s = s[0] :: bs R3 ++ 61 :: bs R1 ∧ ∀ x ∈ s[0] :: bs R3, x ≠ 61) := by
          have e1 : (bs s).drop j = 61 :: (bs s).drop (j + 1) := by
            rw [bs_drop s hj]
            have := Hj61.out
            rw [head_at s hj, Option.some.injEq] at this
            rw [this]
          have e2 : (bs s).take j = s[0] :: ((bs s).take j).drop 1 := by
            have h1 := hdr.out
            obtain ⟨i, rfl⟩ : ∃ i, j = i + 1 := ⟨j - 1, by omega⟩
            rw [h1]; simp
          have e3 : s[0] :: bs R3 = (bs s).take j := by rw [hR3.out]; exact e2.symm
          refine ⟨?_, ?_⟩
          · rw [e3, hR1.out, ← e1, List.take_append_drop]
          · rw [e3]; exact Hbef.out
        go_wp2_with fail
        refine (l14Num_ex R1 _ hR1s).mono ?_
        rintro e w2 ⟨v, bv, rfl, rfl, hv⟩
        have hop : Hid (∀ n b, n = (numF (bs R3)).getD 0 → b = (numF (bs R3)).isSome → OnePost (bs s) ⟨(s[0].toNat : Int) - 97, n, v⟩ ((bv && (v != 0)) && b)) := by
          intro n b hn hb
          have h1 := one_val (c := s[0]) (r := bs R3) (q := bs R1) Hlet.out hcut.out.2
          rw [← hcut.out.1, ← hn, ← hb, ← hv.out.1, ← hv.out.2] at h1
          exact h1
        clear hcut hv
        cases bv
        · go_wp2_with fail
          refine (l14Num_ex R3 _ hR3s).mono ?_
          rintro e w2 ⟨n, b, rfl, rfl, hn⟩
          have hop2 := hop.out n b hn.out.1 hn.out.2
          have Hop2 : Hid _ := hop2
          clear hop2
          go_wp2
          refine bodyPost_ret (v := .tuple #[.agg #[.int .i64 ((s[0].toNat : Int) - 97), .int .i64 n, .int .i64 v], .bool false]) (by simp [results, Tryd.results24, go_sem]) rfl (OneRes.mk ⟨(s[0].toNat : Int) - 97, n, v⟩ false rfl Hop2.out ?_)
          exact ((Below.refl _ _).alloc (Nat.le_refl _) _).alloc (by simp) _
        · cases hv0 : (v != 0)
          · go_wp2_with fail
            refine (l14Num_ex R3 _ hR3s).mono ?_
            rintro e w2 ⟨n, b, rfl, rfl, hn⟩
            have hop2 := hop.out n b hn.out.1 hn.out.2
            rw [hv0] at hop2
            have Hop2 : Hid _ := hop2
            clear hop2
            go_wp2
            refine bodyPost_ret (v := .tuple #[.agg #[.int .i64 ((s[0].toNat : Int) - 97), .int .i64 n, .int .i64 v], .bool false]) (by simp [results, Tryd.results24, go_sem]) rfl (OneRes.mk ⟨(s[0].toNat : Int) - 97, n, v⟩ false rfl Hop2.out ?_)
            exact ((Below.refl _ _).alloc (Nat.le_refl _) _).alloc (by simp) _
          · go_wp2_with fail
            refine (l14Num_ex R3 _ hR3s).mono ?_
            rintro e w2 ⟨n, b, rfl, rfl, hn⟩
            have hop2 := hop.out n b hn.out.1 hn.out.2
            rw [hv0] at hop2
            have Hop2 : Hid _ := hop2
            clear hop2
            go_wp2
            refine bodyPost_ret (v := .tuple #[.agg #[.int .i64 ((s[0].toNat : Int) - 97), .int .i64 n, .int .i64 v], .bool b]) (by simp [results, Tryd.results24, go_sem]) rfl (OneRes.mk ⟨(s[0].toNat : Int) - 97, n, v⟩ b rfl Hop2.out ?_)
            exact ((Below.refl _ _).alloc (Nat.le_refl _) _).alloc (by simp) _
    · have hop : Hid (OnePost (bs s) ⟨0, 0, 0⟩ false) := one_letter hh.out (by omega)
      have HD : Hid (¬ (97 ≤ (s[0].toNat : Int) ∧ (s[0].toNat : Int) ≤ 101)) := hlet
      clear hbl hlet
      go_enter Tryd.func24, Tryd.ntmps24
      go_wp2_with fail
      all_goals first
        | (exfalso; have h1 := HD.out; omega)
        | (refine bodyPost_ret (v := .tuple #[.agg #[.int .i64 0, .int .i64 0, .int .i64 0], .bool false]) (by simp [results, Tryd.results24, go_sem]) rfl (OneRes.mk ⟨0, 0, 0⟩ false rfl hop.out ?_)
           exact ((Below.refl _ _).alloc (Nat.le_refl _) _).alloc (by simp) _)
end Go.Proofs.YtpdboneapodkjaaDoor
