/- The line of a rule, by the specification. -/
import Derived.Test.YtdmcpneppalaiaaDoorRuT1
import Derived.Deep.RegionHeld
namespace Go.Proofs.YtdmcpneppalaiaaDoor
open Go.ChangeShapes Go.WideShapes Go.ChangeAt Go.RowKit Go.Deep
set_option linter.unusedVariables false
set_option maxRecDepth 4000

theorem nm_app (s : ByteArray) (b : List UInt8) : s ++ (⟨b.toArray⟩ : ByteArray) = ⟨(s.data.toList ++ b).toArray⟩ := by
  apply ByteArray.ext
  simp [ByteArray.data_append]
theorem text_len {kd sy n : Int} {F : Fo} (h : okX kd sy n F = true) : (textX kd sy n F).length ≤ 1000 := by
  have e9 : (textX kd sy n F).length ≤ 30 * (F.size + 1) := by
    refine textX_len (d := 5) ?_
    simp only [okX, Bool.and_eq_true] at h
    exact h.1
  have e10 : F.size + 1 ≤ 12 := by simp [okX] at h; omega
  omega
theorem chain7 (w2 : World) {v3 v4 v5 v6 v7 v8 v9 : World} (g3 : Below w2.drew.heap.size w2.drew v3) (g4 : Below v3.heap.size v3 v4) (g5 : Below v4.heap.size v4 v5) (g6 : Below v5.heap.size v5 v6) (g7 : Below v6.heap.size v6 v7) (g8 : Below v7.heap.size v7 v8) (g9 : Below v8.heap.size v8 v9) : Below w2.heap.size w2 v9 := by
  have k2 : Below w2.heap.size w2 w2.drew := (Below.refl w2.heap.size w2).drew
  have k3 := k2.trans (g3.mono k2.size)
  have k4 := k3.trans (g4.mono k3.size)
  have k5 := k4.trans (g5.mono k4.size)
  have k6 := k5.trans (g6.mono k5.size)
  have k7 := k6.trans (g7.mono k6.size)
  have k8 := k7.trans (g8.mono k7.size)
  exact k8.trans (g9.mono k8.size)
set_option maxHeartbeats 4000000 in
theorem specLine_any (x : Ru) (a : Option Addr) (c : Nat) (w : World) (h : RuIn w a x) (hs : x.ks.size ≤ 1048576) :
    Calls Tryd.prog 5 #[ruV x a c] w fun e w' => e = .returned (.string ⟨(lineOf x).toArray⟩) ∧ Below w.heap.size w w' := by
  obtain ⟨w1, hw1⟩ : ∃ w1, w.alloc (.cells (ruC x a c) 33) = w1 := ⟨_, rfl⟩
  have hA1 := bx_new w (ruC x a c) 33
  have b1 := xBelow_new w (.cells (ruC x a c) 33)
  rw [hw1] at hA1 b1
  have hi1 := h.below b1
  obtain ⟨q0, q1, q2, q3, q4, q5, q6, q7, q8, q9, q10, q11⟩ := hA1.twelve
  simp only [Nat.zero_add] at q0 q1 q2 q3 q4 q5 q6 q7 q8 q9 q10 q11
  have hok := specRuleOk_any x a c w1 hi1 hs
  unfold ruV at hok ⊢
  unfold ruC at hw1 hok ⊢
  cases hf : ruOkB x
  · rw [hf] at hok
    have hx : lineOf x = [] := by simp [lineOf, hf]
    rw [hx]
    go_enter Tryd.func5, Tryd.ntmps5
    go_wp2_with fail
    refine hok.mono ?_
    rintro e w2 ⟨rfl, hb2⟩
    go_wp2
    go_ret
    exact ⟨rfl, b1.trans (hb2.mono b1.size)⟩
  · rw [hf] at hok
    have hx : lineOf x = lineR x := by simp [lineOf, hf]
    rw [hx]
    obtain ⟨R, hR⟩ : ∃ R, lineR x = R := ⟨_, rfl⟩
    rw [hR]
    have HR : Hid (lineR x = R) := hR
    clear hR
    obtain ⟨hp1, hp2, hp3⟩ := ruOk_parts hf
    have ht : textOf x.kd x.sy x.n x.ks = textX x.kd x.sy x.n x.ks := by simp [textOf, hp2]
    have hp4 : (textX x.kd x.sy x.n x.ks).length ≤ 1000 := text_len hp2
    clear hf hx hp2
    go_enter Tryd.func5, Tryd.ntmps5
    go_wp2_with fail
    refine hok.mono ?_
    rintro e w2 ⟨rfl, hb2⟩
    have b2 := b1.trans (hb2.mono b1.size)
    have hA2 := hA1.below hb2
    have hi2 := hi1.below hb2
    have hAl := hA2.lt
    clear q0 q1 q2 q3 q4 q5 q6 q7 q8 q9 q10 q11 hok hw1
    obtain ⟨q0, q1, q2, q3, q4, q5, q6, q7, q8, q9, q10, q11⟩ := hA2.twelve
    simp only [Nat.zero_add] at q0 q1 q2 q3 q4 q5 q6 q7 q8 q9 q10 q11
    have e1 := Lib.itoa_length_le x.pri (by omega) (by omega)
    have e2 := Lib.itoa_length_le x.mode (by omega) (by omega)
    have e3 := Lib.itoa_length_le x.lo (by omega) (by omega)
    have e4 := Lib.itoa_length_le x.hi (by omega) (by omega)
    have e5 := Lib.itoa_length_le x.key (by omega) (by omega)
    have e6 := Lib.itoa_length_le x.add (by omega) (by omega)
    have e7 : (raiseT x.ra).length = 1 := by unfold raiseT; split <;> rfl
    have e8 : x.nm.size ≤ 6 := hp1.2
    have e9 : (textX x.kd x.sy x.n x.ks).length ≤ 1000 := hp4
    have hd1 := fun (u : After w2) => calls_after (u := u) (l14Dec_any x.pri u.v (by omega) (by omega))
    have hd2 := fun (u : After w2) => calls_after (u := u) (l14Dec_any x.mode u.v (by omega) (by omega))
    have hd3 := fun (u : After w2) => calls_after (u := u) (l14Dec_any x.lo u.v (by omega) (by omega))
    have hd4 := fun (u : After w2) => calls_after (u := u) (l14Dec_any x.hi u.v (by omega) (by omega))
    have hd5 := fun (u : After w2) => calls_after (u := u) (l14Dec_any x.key u.v (by omega) (by omega))
    have hd6 := fun (u : After w2) => calls_after (u := u) (l8Dec_any x.add u.v (by omega) (by omega))
    have hd7 := fun (u : After w2) => calls_after (u := u) (l8Raise_any x.ra u.v)
    have hd8 := fun (u : After w2) => calls_after (u := u) (specExText_any x.kd x.sy x.n a c x.ks u.v (hi2.ks.below u.h) hs)
    rw [ht] at hd8
    obtain ⟨t1, ht1⟩ : ∃ t1, Lib.itoa x.pri = t1 := ⟨_, rfl⟩
    rw [ht1] at hd1 e1
    have HT1 : Hid (Lib.itoa x.pri = t1) := ht1
    clear ht1
    obtain ⟨t2, ht2⟩ : ∃ t2, Lib.itoa x.mode = t2 := ⟨_, rfl⟩
    rw [ht2] at hd2 e2
    have HT2 : Hid (Lib.itoa x.mode = t2) := ht2
    clear ht2
    obtain ⟨t3, ht3⟩ : ∃ t3, Lib.itoa x.lo = t3 := ⟨_, rfl⟩
    rw [ht3] at hd3 e3
    have HT3 : Hid (Lib.itoa x.lo = t3) := ht3
    clear ht3
    obtain ⟨t4, ht4⟩ : ∃ t4, Lib.itoa x.hi = t4 := ⟨_, rfl⟩
    rw [ht4] at hd4 e4
    have HT4 : Hid (Lib.itoa x.hi = t4) := ht4
    clear ht4
    obtain ⟨t5, ht5⟩ : ∃ t5, Lib.itoa x.key = t5 := ⟨_, rfl⟩
    rw [ht5] at hd5 e5
    have HT5 : Hid (Lib.itoa x.key = t5) := ht5
    clear ht5
    obtain ⟨t6, ht6⟩ : ∃ t6, Lib.itoa x.add = t6 := ⟨_, rfl⟩
    rw [ht6] at hd6 e6
    have HT6 : Hid (Lib.itoa x.add = t6) := ht6
    clear ht6
    obtain ⟨t7, ht7⟩ : ∃ t7, raiseT x.ra = t7 := ⟨_, rfl⟩
    rw [ht7] at hd7 e7
    have HT7 : Hid (raiseT x.ra = t7) := ht7
    clear ht7
    obtain ⟨t8, ht8⟩ : ∃ t8, textX x.kd x.sy x.n x.ks = t8 := ⟨_, rfl⟩
    rw [ht8] at hd8 e9
    have HT8 : Hid (textX x.kd x.sy x.n x.ks = t8) := ht8
    clear ht8
    obtain ⟨N, hN⟩ : ∃ N, x.nm = N := ⟨_, rfl⟩
    rw [hN] at q0 e8
    have HN : Hid (x.nm = N) := hN
    clear hN
    have HB : Hid (N.size ≤ 6 ∧ t1.length ≤ 21 ∧ t2.length ≤ 21 ∧ t3.length ≤ 21 ∧ t4.length ≤ 21 ∧ t5.length ≤ 21 ∧ t6.length ≤ 21 ∧ t7.length = 1 ∧ t8.length ≤ 1000) := ⟨e8, e1, e2, e3, e4, e5, e6, e7, e9⟩
    clear e1 e2 e3 e4 e5 e6 e7 e8 e9
    have a0 := fun u : After w2 => u.cell q0 hAl
    have a1 := fun u : After w2 => u.cell q1 hAl
    have a2 := fun u : After w2 => u.cell q2 hAl
    have a3 := fun u : After w2 => u.cell q3 hAl
    have a4 := fun u : After w2 => u.cell q4 hAl
    have a5 := fun u : After w2 => u.cell q5 hAl
    have a6 := fun u : After w2 => u.cell q6 hAl
    have a7 := fun u : After w2 => u.cell q7 hAl
    have a8 := fun u : After w2 => u.cell q8 hAl
    have a9 := fun u : After w2 => u.cell q9 hAl
    have a10 := fun u : After w2 => u.cell q10 hAl
    have a11 := fun u : After w2 => u.cell q11 hAl
    clear q0 q1 q2 q3 q4 q5 q6 q7 q8 q9 q10 q11 ht hp1 hp4 hp3
    go_wp2_with fail
    have hany := after_any
    refine wp_region_after (by kernel_rfl) (by kernel_rfl) ?_
    go_big_quiet_step (fail)
    go_big_quiet_step (fail)
    have f : ¬ (9223372036854775807 < N.size + 1) := by have := HB.out; omega
    go_big_quiet_step (fail)
    clear f
    go_big_quiet_step (fail)
    go_big_quiet_step (fail)
    go_big_quiet_step ((go_at_call 11; refine hd1 _))
    have f : ¬ (9223372036854775807 < N.size + 1 + t1.length) := by have := HB.out; omega
    go_big_quiet_step (fail)
    clear f
    have f : ¬ (9223372036854775807 < N.size + 1 + t1.length + 1) := by have := HB.out; omega
    go_big_quiet_step (fail)
    clear f
    go_big_quiet_step (fail)
    go_big_quiet_step (fail)
    go_big_quiet_step ((go_at_call 11; refine hd2 _))
    have f : ¬ (9223372036854775807 < N.size + 1 + t1.length + 1 + t2.length) := by have := HB.out; omega
    go_big_quiet_step (fail)
    clear f
    have f : ¬ (9223372036854775807 < N.size + 1 + t1.length + 1 + t2.length + 1) := by have := HB.out; omega
    go_big_quiet_step (fail)
    clear f
    go_big_quiet_step (fail)
    go_big_quiet_step (fail)
    go_big_quiet_step ((go_at_call 11; refine hd3 _))
    have f : ¬ (9223372036854775807 < N.size + 1 + t1.length + 1 + t2.length + 1 + t3.length) := by have := HB.out; omega
    go_big_quiet_step (fail)
    clear f
    have f : ¬ (9223372036854775807 < N.size + 1 + t1.length + 1 + t2.length + 1 + t3.length + 1) := by have := HB.out; omega
    go_big_quiet_step (fail)
    clear f
    go_big_quiet_step (fail)
    go_big_quiet_step (fail)
    go_big_quiet_step ((go_at_call 11; refine hd4 _))
    have f : ¬ (9223372036854775807 < N.size + 1 + t1.length + 1 + t2.length + 1 + t3.length + 1 + t4.length) := by have := HB.out; omega
    go_big_quiet_step (fail)
    clear f
    have f : ¬ (9223372036854775807 < N.size + 1 + t1.length + 1 + t2.length + 1 + t3.length + 1 + t4.length + 1) := by have := HB.out; omega
    go_big_quiet_step (fail)
    clear f
    go_big_quiet_step (fail)
    go_big_quiet_step (fail)
    go_big_quiet_step ((go_at_call 11; refine hd5 _))
    have f : ¬ (9223372036854775807 < N.size + 1 + t1.length + 1 + t2.length + 1 + t3.length + 1 + t4.length + 1 + t5.length) := by have := HB.out; omega
    go_big_quiet_step (fail)
    clear f
    have f : ¬ (9223372036854775807 < N.size + 1 + t1.length + 1 + t2.length + 1 + t3.length + 1 + t4.length + 1 + t5.length + 1) := by have := HB.out; omega
    go_big_quiet_step (fail)
    clear f
    go_big_quiet_step (fail)
    go_big_quiet_step (fail)
    go_big_quiet_step ((go_at_call 12; refine hd6 _))
    have f : ¬ (9223372036854775807 < N.size + 1 + t1.length + 1 + t2.length + 1 + t3.length + 1 + t4.length + 1 + t5.length + 1 + t6.length) := by have := HB.out; omega
    go_big_quiet_step (fail)
    clear f
    have f : ¬ (9223372036854775807 < N.size + 1 + t1.length + 1 + t2.length + 1 + t3.length + 1 + t4.length + 1 + t5.length + 1 + t6.length + 1) := by have := HB.out; omega
    go_big_quiet_step (fail)
    clear f
    go_big_quiet_step (fail)
    go_big_quiet_step (fail)
    go_big_quiet_step ((go_at_call 13; refine hd7 _))
    have f : ¬ (9223372036854775807 < N.size + 1 + t1.length + 1 + t2.length + 1 + t3.length + 1 + t4.length + 1 + t5.length + 1 + t6.length + 1 + t7.length) := by have := HB.out; omega
    go_big_quiet_step (fail)
    clear f
    have f : ¬ (9223372036854775807 < N.size + 1 + t1.length + 1 + t2.length + 1 + t3.length + 1 + t4.length + 1 + t5.length + 1 + t6.length + 1 + t7.length + 1) := by have := HB.out; omega
    go_big_quiet_step (fail)
    clear f
    go_big_quiet_step (fail)
    go_big_quiet_step (fail)
    go_big_quiet_step ((go_at_call 14; refine hd8 _))
    have f : ¬ (9223372036854775807 < N.size + 1 + t1.length + 1 + t2.length + 1 + t3.length + 1 + t4.length + 1 + t5.length + 1 + t6.length + 1 + t7.length + 1 + t8.length) := by have := HB.out; omega
    go_big_quiet_step (fail)
    clear f
    go_big_quiet_step (fail)
    refine wpQuiet_nil ?_
    intro w3 hu
    have hb3 := after_of hu
    have b3 := b2.trans (hb3.mono b2.size)
    clear hu
    go_wp2
    go_ret
    exact ⟨ret_str (by rw [← HR.out, lineR_eq, HN.out, HT1.out, HT2.out, HT3.out, HT4.out, HT5.out, HT6.out, HT7.out, HT8.out, nm_app N [32]]; simp only [ba_app]), b3⟩
end Go.Proofs.YtdmcpneppalaiaaDoor
