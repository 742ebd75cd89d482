/- Rules compared, by the specification and by the program. -/
import Derived.Test.YthlddehmebgfoaaRu4
import Derived.Test.YthlddehmebgfoaaExE4
namespace Go.Proofs.Ythlddehmebgfoaa
open Go.ChangeShapes Go.WideShapes Go.ChangeAt Go.RowKit Go.Deep
set_option linter.unusedVariables false
set_option maxRecDepth 4000

set_option maxHeartbeats 4000000 in
theorem specSame1_any (x y : Ru) (a a' : Option Addr) (c c' : Nat) (w : World) (h : RuIn w a x) (h' : RuIn w a' y) :
    Calls Try.prog 38 #[ruV x a c, ruV y a' c'] w fun e w' => e = .returned (.bool (ruEqB x y)) ∧ Below w.heap.size w w' := by
  obtain ⟨G, hG⟩ : ∃ G, ruEqB x y = G := ⟨_, rfl⟩
  rw [hG]
  have HG : Hid (ruEqB x y = G) := hG
  clear hG
  obtain ⟨w0, hw0⟩ : ∃ w0, w.alloc (.cells (ruC x a c) 84) = w0 := ⟨_, rfl⟩
  have hA0 := bx_new w (ruC x a c) 84
  have b0 := xBelow_new w (.cells (ruC x a c) 84)
  rw [hw0] at hA0 b0
  obtain ⟨w1, hw1⟩ : ∃ w1, w0.alloc (.cells (ruC y a' c') 84) = w1 := ⟨_, rfl⟩
  have hB0 := bx_new w0 (ruC y a' c') 84
  have b01 := xBelow_new w0 (.cells (ruC y a' c') 84)
  rw [hw1] at hB0 b01
  have hA1 := hA0.below b01
  have b1 := b0.trans (b01.mono b0.size)
  obtain ⟨A, hA⟩ : ∃ A, w.heap.size = A := ⟨_, rfl⟩
  obtain ⟨B, hB⟩ : ∃ B, w0.heap.size = B := ⟨_, rfl⟩
  rw [hA] at hA1
  rw [hB] at hB0
  have hi := h.below b1
  have hj := h'.below b1
  have hk := fun (v : World) (hv : Below w1.heap.size w1 v) => specExSame_any x.ks.size x.ks (Nat.le_refl _) y.ks x.kd x.sy x.n y.kd y.sy y.n a a' c c' v (hi.ks.below hv) (hj.ks.below hv)
  clear b0 b01 hA0
  obtain ⟨q0, q1, q2, q3, q4, q5, q6, q7, q8, q9, q10, q11⟩ := hA1.twelve
  obtain ⟨r0, r1, r2, r3, r4, r5, r6, r7, r8, r9, r10, r11⟩ := hB0.twelve
  simp only [Nat.zero_add] at q0 q1 q2 q3 q4 q5 q6 q7 q8 q9 q10 q11 r0 r1 r2 r3 r4 r5 r6 r7 r8 r9 r10 r11
  unfold ruV
  unfold ruC at hw0 hw1 ⊢
  by_cases h0 : x.nm = y.nm
  case neg =>
    have n0 : (x.nm.toList == y.nm.toList) = false := nm_no h0
    have hf : ruEqB x y = false := by simp [ruEqB, h0]
    clear h0
    go_enter Try.func38, Try.ntmps38
    go_wp2
    go_ret
    exact ⟨ret_bool (by rw [← HG.out, hf]), b1⟩
  have n0 : (x.nm.toList == y.nm.toList) = true := nm_yes h0
  have H0 : Hid (x.nm = y.nm) := h0
  clear h0
  by_cases h0 : x.pri = y.pri
  case neg =>
    have n1 : (x.pri == y.pri) = false := by simpa using h0
    have hf : ruEqB x y = false := by simp [ruEqB, h0]
    clear h0
    go_enter Try.func38, Try.ntmps38
    go_wp2
    go_ret
    exact ⟨ret_bool (by rw [← HG.out, hf]), b1⟩
  have n1 : (x.pri == y.pri) = true := by simpa using h0
  have H1 : Hid (x.pri = y.pri) := h0
  clear h0
  by_cases h0 : x.mode = y.mode
  case neg =>
    have n2 : (x.mode == y.mode) = false := by simpa using h0
    have hf : ruEqB x y = false := by simp [ruEqB, h0]
    clear h0
    go_enter Try.func38, Try.ntmps38
    go_wp2
    go_ret
    exact ⟨ret_bool (by rw [← HG.out, hf]), b1⟩
  have n2 : (x.mode == y.mode) = true := by simpa using h0
  have H2 : Hid (x.mode = y.mode) := h0
  clear h0
  cases h0 : eqX x.kd x.sy x.n x.ks y.kd y.sy y.n y.ks
  case false =>
    rw [h0] at hk
    have hf : ruEqB x y = false := by simp [ruEqB, h0]
    clear h0
    go_enter Try.func38, Try.ntmps38
    go_wp2_with fail
    refine (hk _ (Below.refl _ _)).mono ?_
    rintro e w2 ⟨rfl, hb2⟩
    have b2 := b1.trans (hb2.mono b1.size)
    have hA2 := hA1.below hb2
    have hB2 := hB0.below hb2
    clear q0 q1 q2 q3 q4 q5 q6 q7 q8 q9 q10 q11 r0 r1 r2 r3 r4 r5 r6 r7 r8 r9 r10 r11
    obtain ⟨q0, q1, q2, q3, q4, q5, q6, q7, q8, q9, q10, q11⟩ := hA2.twelve
    obtain ⟨r0, r1, r2, r3, r4, r5, r6, r7, r8, r9, r10, r11⟩ := hB2.twelve
    simp only [Nat.zero_add] at q0 q1 q2 q3 q4 q5 q6 q7 q8 q9 q10 q11 r0 r1 r2 r3 r4 r5 r6 r7 r8 r9 r10 r11
    go_wp2
    go_ret
    exact ⟨ret_bool (by rw [← HG.out, hf]), b2⟩
  rw [h0] at hk
  have H3 : Hid (eqX x.kd x.sy x.n x.ks y.kd y.sy y.n y.ks = true) := h0
  clear h0
  by_cases h0 : x.lo = y.lo
  case neg =>
    have n4 : (x.lo == y.lo) = false := by simpa using h0
    have hf : ruEqB x y = false := by simp [ruEqB, h0]
    clear h0
    go_enter Try.func38, Try.ntmps38
    go_wp2_with fail
    refine (hk _ (Below.refl _ _)).mono ?_
    rintro e w2 ⟨rfl, hb2⟩
    have b2 := b1.trans (hb2.mono b1.size)
    have hA2 := hA1.below hb2
    have hB2 := hB0.below hb2
    clear q0 q1 q2 q3 q4 q5 q6 q7 q8 q9 q10 q11 r0 r1 r2 r3 r4 r5 r6 r7 r8 r9 r10 r11
    obtain ⟨q0, q1, q2, q3, q4, q5, q6, q7, q8, q9, q10, q11⟩ := hA2.twelve
    obtain ⟨r0, r1, r2, r3, r4, r5, r6, r7, r8, r9, r10, r11⟩ := hB2.twelve
    simp only [Nat.zero_add] at q0 q1 q2 q3 q4 q5 q6 q7 q8 q9 q10 q11 r0 r1 r2 r3 r4 r5 r6 r7 r8 r9 r10 r11
    go_wp2
    go_ret
    exact ⟨ret_bool (by rw [← HG.out, hf]), b2⟩
  have n4 : (x.lo == y.lo) = true := by simpa using h0
  have H4 : Hid (x.lo = y.lo) := h0
  clear h0
  by_cases h0 : x.hi = y.hi
  case neg =>
    have n5 : (x.hi == y.hi) = false := by simpa using h0
    have hf : ruEqB x y = false := by simp [ruEqB, h0]
    clear h0
    go_enter Try.func38, Try.ntmps38
    go_wp2_with fail
    refine (hk _ (Below.refl _ _)).mono ?_
    rintro e w2 ⟨rfl, hb2⟩
    have b2 := b1.trans (hb2.mono b1.size)
    have hA2 := hA1.below hb2
    have hB2 := hB0.below hb2
    clear q0 q1 q2 q3 q4 q5 q6 q7 q8 q9 q10 q11 r0 r1 r2 r3 r4 r5 r6 r7 r8 r9 r10 r11
    obtain ⟨q0, q1, q2, q3, q4, q5, q6, q7, q8, q9, q10, q11⟩ := hA2.twelve
    obtain ⟨r0, r1, r2, r3, r4, r5, r6, r7, r8, r9, r10, r11⟩ := hB2.twelve
    simp only [Nat.zero_add] at q0 q1 q2 q3 q4 q5 q6 q7 q8 q9 q10 q11 r0 r1 r2 r3 r4 r5 r6 r7 r8 r9 r10 r11
    go_wp2
    go_ret
    exact ⟨ret_bool (by rw [← HG.out, hf]), b2⟩
  have n5 : (x.hi == y.hi) = true := by simpa using h0
  have H5 : Hid (x.hi = y.hi) := h0
  clear h0
  by_cases h0 : x.key = y.key
  case neg =>
    have n6 : (x.key == y.key) = false := by simpa using h0
    have hf : ruEqB x y = false := by simp [ruEqB, h0]
    clear h0
    go_enter Try.func38, Try.ntmps38
    go_wp2_with fail
    refine (hk _ (Below.refl _ _)).mono ?_
    rintro e w2 ⟨rfl, hb2⟩
    have b2 := b1.trans (hb2.mono b1.size)
    have hA2 := hA1.below hb2
    have hB2 := hB0.below hb2
    clear q0 q1 q2 q3 q4 q5 q6 q7 q8 q9 q10 q11 r0 r1 r2 r3 r4 r5 r6 r7 r8 r9 r10 r11
    obtain ⟨q0, q1, q2, q3, q4, q5, q6, q7, q8, q9, q10, q11⟩ := hA2.twelve
    obtain ⟨r0, r1, r2, r3, r4, r5, r6, r7, r8, r9, r10, r11⟩ := hB2.twelve
    simp only [Nat.zero_add] at q0 q1 q2 q3 q4 q5 q6 q7 q8 q9 q10 q11 r0 r1 r2 r3 r4 r5 r6 r7 r8 r9 r10 r11
    go_wp2
    go_ret
    exact ⟨ret_bool (by rw [← HG.out, hf]), b2⟩
  have n6 : (x.key == y.key) = true := by simpa using h0
  have H6 : Hid (x.key = y.key) := h0
  clear h0
  by_cases h0 : x.add = y.add
  case neg =>
    have n7 : (x.add == y.add) = false := by simpa using h0
    have hf : ruEqB x y = false := by simp [ruEqB, h0]
    clear h0
    go_enter Try.func38, Try.ntmps38
    go_wp2_with fail
    refine (hk _ (Below.refl _ _)).mono ?_
    rintro e w2 ⟨rfl, hb2⟩
    have b2 := b1.trans (hb2.mono b1.size)
    have hA2 := hA1.below hb2
    have hB2 := hB0.below hb2
    clear q0 q1 q2 q3 q4 q5 q6 q7 q8 q9 q10 q11 r0 r1 r2 r3 r4 r5 r6 r7 r8 r9 r10 r11
    obtain ⟨q0, q1, q2, q3, q4, q5, q6, q7, q8, q9, q10, q11⟩ := hA2.twelve
    obtain ⟨r0, r1, r2, r3, r4, r5, r6, r7, r8, r9, r10, r11⟩ := hB2.twelve
    simp only [Nat.zero_add] at q0 q1 q2 q3 q4 q5 q6 q7 q8 q9 q10 q11 r0 r1 r2 r3 r4 r5 r6 r7 r8 r9 r10 r11
    go_wp2
    go_ret
    exact ⟨ret_bool (by rw [← HG.out, hf]), b2⟩
  have n7 : (x.add == y.add) = true := by simpa using h0
  have H7 : Hid (x.add = y.add) := h0
  clear h0
  by_cases h0 : x.ra = y.ra
  case neg =>
    have n8 : (x.ra == y.ra) = false := by simpa using h0
    have hf : ruEqB x y = false := by simp [ruEqB, h0]
    clear h0
    go_enter Try.func38, Try.ntmps38
    go_wp2_with fail
    refine (hk _ (Below.refl _ _)).mono ?_
    rintro e w2 ⟨rfl, hb2⟩
    have b2 := b1.trans (hb2.mono b1.size)
    have hA2 := hA1.below hb2
    have hB2 := hB0.below hb2
    clear q0 q1 q2 q3 q4 q5 q6 q7 q8 q9 q10 q11 r0 r1 r2 r3 r4 r5 r6 r7 r8 r9 r10 r11
    obtain ⟨q0, q1, q2, q3, q4, q5, q6, q7, q8, q9, q10, q11⟩ := hA2.twelve
    obtain ⟨r0, r1, r2, r3, r4, r5, r6, r7, r8, r9, r10, r11⟩ := hB2.twelve
    simp only [Nat.zero_add] at q0 q1 q2 q3 q4 q5 q6 q7 q8 q9 q10 q11 r0 r1 r2 r3 r4 r5 r6 r7 r8 r9 r10 r11
    go_wp2
    go_ret
    exact ⟨ret_bool (by rw [← HG.out, hf]), b2⟩
  have n8 : (x.ra == y.ra) = true := by simpa using h0
  have H8 : Hid (x.ra = y.ra) := h0
  clear h0
  have hf : ruEqB x y = true := by simp [ruEqB, H0.out, H1.out, H2.out, H3.out, H4.out, H5.out, H6.out, H7.out, H8.out]
  go_enter Try.func38, Try.ntmps38
  go_wp2_with fail
  refine (hk _ (Below.refl _ _)).mono ?_
  rintro e w2 ⟨rfl, hb2⟩
  have b2 := b1.trans (hb2.mono b1.size)
  have hA2 := hA1.below hb2
  have hB2 := hB0.below hb2
  clear q0 q1 q2 q3 q4 q5 q6 q7 q8 q9 q10 q11 r0 r1 r2 r3 r4 r5 r6 r7 r8 r9 r10 r11
  obtain ⟨q0, q1, q2, q3, q4, q5, q6, q7, q8, q9, q10, q11⟩ := hA2.twelve
  obtain ⟨r0, r1, r2, r3, r4, r5, r6, r7, r8, r9, r10, r11⟩ := hB2.twelve
  simp only [Nat.zero_add] at q0 q1 q2 q3 q4 q5 q6 q7 q8 q9 q10 q11 r0 r1 r2 r3 r4 r5 r6 r7 r8 r9 r10 r11
  go_wp2
  go_ret
  exact ⟨ret_bool (by rw [← HG.out, hf]), b2⟩

set_option maxHeartbeats 4000000 in
theorem implSame1_any (x y : Ru) (b B0 : Nat) (S : List Nat) (a' : Option Addr) (c' : Nat) (w : World) (h : RowOwn w B0 b S x.ks) (h' : RuIn w a' y) (hs : x.ks.size ≤ 1048576) :
    Calls Try.prog 46 #[ruV x (some ⟨b, 0, none⟩) x.ks.len, ruV y a' c'] w fun e w' => e = .returned (.bool (ruEqB x y)) ∧ Below w.heap.size w w' := by
  obtain ⟨a, ha⟩ : ∃ a, some (⟨b, 0, none⟩ : Addr) = a := ⟨_, rfl⟩
  rw [ha]
  obtain ⟨G, hG⟩ : ∃ G, ruEqB x y = G := ⟨_, rfl⟩
  rw [hG]
  have HG : Hid (ruEqB x y = G) := hG
  clear hG
  obtain ⟨w0, hw0⟩ : ∃ w0, w.alloc (.cells (ruC x a x.ks.len) 84) = w0 := ⟨_, rfl⟩
  have hA0 := bx_new w (ruC x a x.ks.len) 84
  have b0 := xBelow_new w (.cells (ruC x a x.ks.len) 84)
  rw [hw0] at hA0 b0
  obtain ⟨w1, hw1⟩ : ∃ w1, w0.alloc (.cells (ruC y a' c') 84) = w1 := ⟨_, rfl⟩
  have hB0 := bx_new w0 (ruC y a' c') 84
  have b01 := xBelow_new w0 (.cells (ruC y a' c') 84)
  rw [hw1] at hB0 b01
  have hA1 := hA0.below b01
  have b1 := b0.trans (b01.mono b0.size)
  obtain ⟨A, hA⟩ : ∃ A, w.heap.size = A := ⟨_, rfl⟩
  obtain ⟨B, hB⟩ : ∃ B, w0.heap.size = B := ⟨_, rfl⟩
  rw [hA] at hA1
  rw [hB] at hB0
  have hi := h.below b1
  have hj := h'.below b1
  have hk := fun (v : World) (hv : Below w1.heap.size w1 v) => implExSame_any x.kd x.sy x.n y.kd y.sy y.n b B0 S x.ks a' c' y.ks v (hi.below hv) (hj.ks.below hv) hs
  rw [ha] at hk
  clear ha
  clear b0 b01 hA0
  obtain ⟨q0, q1, q2, q3, q4, q5, q6, q7, q8, q9, q10, q11⟩ := hA1.twelve
  obtain ⟨r0, r1, r2, r3, r4, r5, r6, r7, r8, r9, r10, r11⟩ := hB0.twelve
  simp only [Nat.zero_add] at q0 q1 q2 q3 q4 q5 q6 q7 q8 q9 q10 q11 r0 r1 r2 r3 r4 r5 r6 r7 r8 r9 r10 r11
  unfold ruV
  unfold ruC at hw0 hw1 ⊢
  by_cases h0 : x.nm = y.nm
  case neg =>
    have n0 : (x.nm.toList == y.nm.toList) = false := nm_no h0
    have hf : ruEqB x y = false := by simp [ruEqB, h0]
    clear h0
    go_enter Try.func46, Try.ntmps46
    go_wp2
    go_ret
    exact ⟨ret_bool (by rw [← HG.out, hf]), b1⟩
  have n0 : (x.nm.toList == y.nm.toList) = true := nm_yes h0
  have H0 : Hid (x.nm = y.nm) := h0
  clear h0
  by_cases h0 : x.pri = y.pri
  case neg =>
    have n1 : (x.pri != y.pri) = true := by simpa using h0
    have hf : ruEqB x y = false := by simp [ruEqB, h0]
    clear h0
    go_enter Try.func46, Try.ntmps46
    go_wp2
    go_ret
    exact ⟨ret_bool (by rw [← HG.out, hf]), b1⟩
  have n1 : (x.pri != y.pri) = false := by simpa using h0
  have H1 : Hid (x.pri = y.pri) := h0
  clear h0
  by_cases h0 : x.mode = y.mode
  case neg =>
    have n2 : (x.mode != y.mode) = true := by simpa using h0
    have hf : ruEqB x y = false := by simp [ruEqB, h0]
    clear h0
    go_enter Try.func46, Try.ntmps46
    go_wp2
    go_ret
    exact ⟨ret_bool (by rw [← HG.out, hf]), b1⟩
  have n2 : (x.mode != y.mode) = false := by simpa using h0
  have H2 : Hid (x.mode = y.mode) := h0
  clear h0
  by_cases h0 : x.lo = y.lo
  case neg =>
    have n3 : (x.lo != y.lo) = true := by simpa using h0
    have hf : ruEqB x y = false := by simp [ruEqB, h0]
    clear h0
    go_enter Try.func46, Try.ntmps46
    go_wp2
    go_ret
    exact ⟨ret_bool (by rw [← HG.out, hf]), b1⟩
  have n3 : (x.lo != y.lo) = false := by simpa using h0
  have H3 : Hid (x.lo = y.lo) := h0
  clear h0
  by_cases h0 : x.hi = y.hi
  case neg =>
    have n4 : (x.hi != y.hi) = true := by simpa using h0
    have hf : ruEqB x y = false := by simp [ruEqB, h0]
    clear h0
    go_enter Try.func46, Try.ntmps46
    go_wp2
    go_ret
    exact ⟨ret_bool (by rw [← HG.out, hf]), b1⟩
  have n4 : (x.hi != y.hi) = false := by simpa using h0
  have H4 : Hid (x.hi = y.hi) := h0
  clear h0
  by_cases h0 : x.key = y.key
  case neg =>
    have n5 : (x.key == y.key) = false := by simpa using h0
    have hf : ruEqB x y = false := by simp [ruEqB, h0]
    clear h0
    go_enter Try.func46, Try.ntmps46
    go_wp2
    go_ret
    exact ⟨ret_bool (by rw [← HG.out, hf]), b1⟩
  have n5 : (x.key == y.key) = true := by simpa using h0
  have H5 : Hid (x.key = y.key) := h0
  clear h0
  by_cases h0 : x.add = y.add
  case neg =>
    have n6 : (x.add == y.add) = false := by simpa using h0
    have hf : ruEqB x y = false := by simp [ruEqB, h0]
    clear h0
    go_enter Try.func46, Try.ntmps46
    go_wp2
    go_ret
    exact ⟨ret_bool (by rw [← HG.out, hf]), b1⟩
  have n6 : (x.add == y.add) = true := by simpa using h0
  have H6 : Hid (x.add = y.add) := h0
  clear h0
  by_cases h0 : x.ra = y.ra
  case neg =>
    have n7 : (x.ra == y.ra) = false := by simpa using h0
    have hf : ruEqB x y = false := by simp [ruEqB, h0]
    clear h0
    go_enter Try.func46, Try.ntmps46
    go_wp2
    go_ret
    exact ⟨ret_bool (by rw [← HG.out, hf]), b1⟩
  have n7 : (x.ra == y.ra) = true := by simpa using h0
  have H7 : Hid (x.ra = y.ra) := h0
  clear h0
  cases h0 : eqX x.kd x.sy x.n x.ks y.kd y.sy y.n y.ks
  case false =>
    rw [h0] at hk
    have hf : ruEqB x y = false := by simp [ruEqB, h0]
    clear h0
    go_enter Try.func46, Try.ntmps46
    go_wp2_with fail
    refine (hk _ (Below.refl _ _)).mono ?_
    rintro e w2 ⟨rfl, hb2⟩
    have b2 := b1.trans (hb2.mono b1.size)
    have hA2 := hA1.below hb2
    have hB2 := hB0.below hb2
    clear q0 q1 q2 q3 q4 q5 q6 q7 q8 q9 q10 q11 r0 r1 r2 r3 r4 r5 r6 r7 r8 r9 r10 r11
    obtain ⟨q0, q1, q2, q3, q4, q5, q6, q7, q8, q9, q10, q11⟩ := hA2.twelve
    obtain ⟨r0, r1, r2, r3, r4, r5, r6, r7, r8, r9, r10, r11⟩ := hB2.twelve
    simp only [Nat.zero_add] at q0 q1 q2 q3 q4 q5 q6 q7 q8 q9 q10 q11 r0 r1 r2 r3 r4 r5 r6 r7 r8 r9 r10 r11
    go_wp2
    go_ret
    exact ⟨ret_bool (by rw [← HG.out, hf]), b2⟩
  rw [h0] at hk
  have H8 : Hid (eqX x.kd x.sy x.n x.ks y.kd y.sy y.n y.ks = true) := h0
  clear h0
  have hf : ruEqB x y = true := by simp [ruEqB, H0.out, H1.out, H2.out, H3.out, H4.out, H5.out, H6.out, H7.out, H8.out]
  go_enter Try.func46, Try.ntmps46
  go_wp2_with fail
  refine (hk _ (Below.refl _ _)).mono ?_
  rintro e w2 ⟨rfl, hb2⟩
  have b2 := b1.trans (hb2.mono b1.size)
  have hA2 := hA1.below hb2
  have hB2 := hB0.below hb2
  clear q0 q1 q2 q3 q4 q5 q6 q7 q8 q9 q10 q11 r0 r1 r2 r3 r4 r5 r6 r7 r8 r9 r10 r11
  obtain ⟨q0, q1, q2, q3, q4, q5, q6, q7, q8, q9, q10, q11⟩ := hA2.twelve
  obtain ⟨r0, r1, r2, r3, r4, r5, r6, r7, r8, r9, r10, r11⟩ := hB2.twelve
  simp only [Nat.zero_add] at q0 q1 q2 q3 q4 q5 q6 q7 q8 q9 q10 q11 r0 r1 r2 r3 r4 r5 r6 r7 r8 r9 r10 r11
  go_wp2
  go_ret
  exact ⟨ret_bool (by rw [← HG.out, hf]), b2⟩
end Go.Proofs.Ythlddehmebgfoaa
