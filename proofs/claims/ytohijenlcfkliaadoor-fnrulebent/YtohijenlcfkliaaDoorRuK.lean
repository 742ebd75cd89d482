/- Is a rule ok, by the specification and by the program. -/
import Derived.Test.YtohijenlcfkliaaDoorRuN
import Derived.Test.YtohijenlcfkliaaDoorExM2
import Derived.Test.YtohijenlcfkliaaDoorEx6
import Derived.Test.YtohijenlcfkliaaDoorExImpl
namespace Go.Proofs.YtohijenlcfkliaaDoor
open Go.ChangeShapes Go.WideShapes Go.ChangeAt Go.RowKit Go.Deep
set_option linter.unusedVariables false
set_option maxRecDepth 4000

def ruOkB (x : Ru) : Bool := nameB x.nm && okX x.kd x.sy x.n x.ks && decide (0 ≤ x.pri ∧ x.pri ≤ 9 ∧ 0 ≤ x.mode ∧ x.mode ≤ 4 ∧ 0 ≤ x.lo ∧ x.lo ≤ x.hi ∧ x.hi ≤ 100 ∧ 0 ≤ x.key ∧ x.key < 4 ∧ -9 ≤ x.add ∧ x.add ≤ 9 ∧ -1 ≤ x.ra ∧ x.ra < 5)
theorem ruOk_no {x : Ru} (h : ¬ (0 ≤ x.pri ∧ x.pri ≤ 9 ∧ 0 ≤ x.mode ∧ x.mode ≤ 4 ∧ 0 ≤ x.lo ∧ x.lo ≤ x.hi ∧ x.hi ≤ 100 ∧ 0 ≤ x.key ∧ x.key < 4 ∧ -9 ≤ x.add ∧ x.add ≤ 9 ∧ -1 ≤ x.ra ∧ x.ra < 5)) : ruOkB x = false := by
  unfold ruOkB
  rw [decide_eq_false h, Bool.and_false]
theorem ruOk_word {x : Ru} (h : nameB x.nm = false) : ruOkB x = false := by simp [ruOkB, h]
theorem ruOk_ex {x : Ru} (h : okX x.kd x.sy x.n x.ks = false) : ruOkB x = false := by simp [ruOkB, h]
theorem ruOk_yes {x : Ru} (h1 : nameB x.nm = true) (h2 : okX x.kd x.sy x.n x.ks = true) (h : 0 ≤ x.pri ∧ x.pri ≤ 9 ∧ 0 ≤ x.mode ∧ x.mode ≤ 4 ∧ 0 ≤ x.lo ∧ x.lo ≤ x.hi ∧ x.hi ≤ 100 ∧ 0 ≤ x.key ∧ x.key < 4 ∧ -9 ≤ x.add ∧ x.add ≤ 9 ∧ -1 ≤ x.ra ∧ x.ra < 5) : ruOkB x = true := by
  unfold ruOkB
  rw [h1, h2, decide_eq_true h]
  rfl

set_option maxHeartbeats 4000000 in
theorem specRuleOk_any (x : Ru) (a : Option Addr) (c : Nat) (w : World) (h : RuIn w a x) (hs : x.ks.size ≤ 1048576) :
    Calls Tryd.prog 16 #[ruV x a c] w fun e w' => e = .returned (.bool (ruOkB x)) ∧ Below w.heap.size w w' := by
  obtain ⟨G, hG⟩ : ∃ G, ruOkB x = G := ⟨_, rfl⟩
  rw [hG]
  have HG : Hid (ruOkB x = G) := hG
  clear hG
  have hnm := h.nm
  obtain ⟨w1, hw1⟩ : ∃ w1, w.alloc (.cells (ruC x a c) 36) = w1 := ⟨_, rfl⟩
  have hA1 := bx_new w (ruC x a c) 36
  have b1 := xBelow_new w (.cells (ruC x a c) 36)
  rw [hw1] at hA1 b1
  have hi1 := h.below b1
  obtain ⟨q0, q1, q2, q3, q4, q5, q6, q7, q8, q9, q10, q11⟩ := hA1.twelve
  simp only [Nat.zero_add] at q0 q1 q2 q3 q4 q5 q6 q7 q8 q9 q10 q11
  unfold ruV
  unfold ruC at hw1 ⊢
  go_enter Tryd.func16, Tryd.ntmps16
  go_wp2_with fail
  refine (specWord_any x.nm _ hnm).mono ?_
  rintro e w2 ⟨rfl, hb2⟩
  have b2 := b1.trans (hb2.mono b1.size)
  have hA2 := hA1.below hb2
  have hi2 := hi1.below hb2
  clear q0 q1 q2 q3 q4 q5 q6 q7 q8 q9 q10 q11
  obtain ⟨q0, q1, q2, q3, q4, q5, q6, q7, q8, q9, q10, q11⟩ := hA2.twelve
  simp only [Nat.zero_add] at q0 q1 q2 q3 q4 q5 q6 q7 q8 q9 q10 q11
  cases g1 : nameB x.nm
  case false =>
    have hf : ruOkB x = false := ruOk_word g1
    clear g1
    go_wp2
    go_ret
    exact ⟨ret_bool (by rw [← HG.out, hf]), b2⟩
  have G1 : Hid (nameB x.nm = true) := g1
  clear g1
  by_cases h0 : 0 ≤ x.pri
  case neg =>
    have hf : ruOkB x = false := ruOk_no (by omega)
    go_wp2
    go_ret
    exact ⟨ret_bool (by rw [← HG.out, hf]), b2⟩
  have p0 := h0
  clear h0
  by_cases h0 : x.pri ≤ 9
  case neg =>
    have hf : ruOkB x = false := ruOk_no (by omega)
    go_wp2
    go_ret
    exact ⟨ret_bool (by rw [← HG.out, hf]), b2⟩
  have p1 := h0
  clear h0
  go_wp2_with fail
  refine (mode_any x.mode _).mono ?_
  rintro e w3 ⟨rfl, hb3⟩
  have b3 := b2.trans (hb3.mono b2.size)
  have hA3 := hA2.below hb3
  have hi3 := hi2.below hb3
  clear q0 q1 q2 q3 q4 q5 q6 q7 q8 q9 q10 q11
  obtain ⟨q0, q1, q2, q3, q4, q5, q6, q7, q8, q9, q10, q11⟩ := hA3.twelve
  simp only [Nat.zero_add] at q0 q1 q2 q3 q4 q5 q6 q7 q8 q9 q10 q11
  cases g2 : decide (0 ≤ x.mode ∧ x.mode ≤ 4)
  case false =>
    have hf : ruOkB x = false := ruOk_no (by simp at g2; omega)
    clear g2
    go_wp2
    go_ret
    exact ⟨ret_bool (by rw [← HG.out, hf]), b3⟩
  have G2 : Hid (0 ≤ x.mode ∧ x.mode ≤ 4) := (of_decide_eq_true g2 : _ ∧ _)
  clear g2
  go_wp2_with fail
  refine (specExOk_any x.kd x.sy x.n a c x.ks _ hi3.ks hs).mono ?_
  rintro e w4 ⟨rfl, hb4⟩
  have b4 := b3.trans (hb4.mono b3.size)
  have hA4 := hA3.below hb4
  have hi4 := hi3.below hb4
  clear q0 q1 q2 q3 q4 q5 q6 q7 q8 q9 q10 q11
  obtain ⟨q0, q1, q2, q3, q4, q5, q6, q7, q8, q9, q10, q11⟩ := hA4.twelve
  simp only [Nat.zero_add] at q0 q1 q2 q3 q4 q5 q6 q7 q8 q9 q10 q11
  cases g3 : okX x.kd x.sy x.n x.ks
  case false =>
    have hf : ruOkB x = false := ruOk_ex g3
    clear g3
    go_wp2
    go_ret
    exact ⟨ret_bool (by rw [← HG.out, hf]), b4⟩
  have G3 : Hid (okX x.kd x.sy x.n x.ks = true) := g3
  clear g3
  by_cases h0 : 0 ≤ x.lo
  case neg =>
    have hf : ruOkB x = false := ruOk_no (by omega)
    go_wp2
    go_ret
    exact ⟨ret_bool (by rw [← HG.out, hf]), b4⟩
  have p2 := h0
  clear h0
  by_cases h0 : x.lo ≤ x.hi
  case neg =>
    have hf : ruOkB x = false := ruOk_no (by omega)
    go_wp2
    go_ret
    exact ⟨ret_bool (by rw [← HG.out, hf]), b4⟩
  have p3 := h0
  clear h0
  by_cases h0 : x.hi ≤ 100
  case neg =>
    have hf : ruOkB x = false := ruOk_no (by omega)
    go_wp2
    go_ret
    exact ⟨ret_bool (by rw [← HG.out, hf]), b4⟩
  have p4 := h0
  clear h0
  by_cases h0 : 0 ≤ x.key
  case neg =>
    have hf : ruOkB x = false := ruOk_no (by omega)
    go_wp2
    go_ret
    exact ⟨ret_bool (by rw [← HG.out, hf]), b4⟩
  have p5 := h0
  clear h0
  by_cases h0 : x.key < 4
  case neg =>
    have hf : ruOkB x = false := ruOk_no (by omega)
    go_wp2
    go_ret
    exact ⟨ret_bool (by rw [← HG.out, hf]), b4⟩
  have p6 := h0
  clear h0
  by_cases h0 : -9 ≤ x.add
  case neg =>
    have hf : ruOkB x = false := ruOk_no (by omega)
    go_wp2
    go_ret
    exact ⟨ret_bool (by rw [← HG.out, hf]), b4⟩
  have p7 := h0
  clear h0
  by_cases h0 : x.add ≤ 9
  case neg =>
    have hf : ruOkB x = false := ruOk_no (by omega)
    go_wp2
    go_ret
    exact ⟨ret_bool (by rw [← HG.out, hf]), b4⟩
  have p8 := h0
  clear h0
  by_cases h0 : -1 ≤ x.ra
  case neg =>
    have hf : ruOkB x = false := ruOk_no (by omega)
    go_wp2
    go_ret
    exact ⟨ret_bool (by rw [← HG.out, hf]), b4⟩
  have p9 := h0
  clear h0
  by_cases h0 : x.ra < 5
  case neg =>
    have hf : ruOkB x = false := ruOk_no (by omega)
    go_wp2
    go_ret
    exact ⟨ret_bool (by rw [← HG.out, hf]; simp; omega), b4⟩
  have p10 := h0
  clear h0
  have hf : ruOkB x = true := ruOk_yes G1.out G3.out (by have := G2.out; omega)
  go_wp2
  go_ret
  exact ⟨ret_bool (by rw [← HG.out, hf]), b4⟩

set_option maxHeartbeats 4000000 in
theorem implRuleOk_any (x : Ru) (a : Option Addr) (c : Nat) (w : World) (t : TypeId) (v : Value) (hE : ErrAt w t v) (h : RuIn w a x) :
    Calls Tryd.prog 15 #[ruV x a c] w fun e w' => e = .returned (.bool (ruOkB x)) ∧ Below w.heap.size w w' := by
  obtain ⟨G, hG⟩ : ∃ G, ruOkB x = G := ⟨_, rfl⟩
  rw [hG]
  have HG : Hid (ruOkB x = G) := hG
  clear hG
  have hnm := h.nm
  obtain ⟨w1, hw1⟩ : ∃ w1, w.alloc (.cells (ruC x a c) 36) = w1 := ⟨_, rfl⟩
  have hA1 := bx_new w (ruC x a c) 36
  have b1 := xBelow_new w (.cells (ruC x a c) 36)
  rw [hw1] at hA1 b1
  have hi1 := h.below b1
  have hE1 := hE.below b1
  obtain ⟨q0, q1, q2, q3, q4, q5, q6, q7, q8, q9, q10, q11⟩ := hA1.twelve
  simp only [Nat.zero_add] at q0 q1 q2 q3 q4 q5 q6 q7 q8 q9 q10 q11
  unfold ruV
  unfold ruC at hw1 ⊢
  go_enter Tryd.func15, Tryd.ntmps15
  go_wp2_with fail
  refine (nameOk_any x.nm _ hnm).mono ?_
  rintro e w2 ⟨rfl, hb2⟩
  have b2 := b1.trans (hb2.mono b1.size)
  have hA2 := hA1.below hb2
  have hi2 := hi1.below hb2
  clear q0 q1 q2 q3 q4 q5 q6 q7 q8 q9 q10 q11
  obtain ⟨q0, q1, q2, q3, q4, q5, q6, q7, q8, q9, q10, q11⟩ := hA2.twelve
  simp only [Nat.zero_add] at q0 q1 q2 q3 q4 q5 q6 q7 q8 q9 q10 q11
  have hE2 := hE1.below hb2
  cases g1 : nameB x.nm
  case false =>
    have hf : ruOkB x = false := ruOk_word g1
    clear g1
    go_wp2
    go_ret
    exact ⟨ret_bool (by rw [← HG.out, hf]), b2⟩
  have G1 : Hid (nameB x.nm = true) := g1
  clear g1
  go_wp2_with fail
  refine (within_any x.pri 0 9 _).mono ?_
  rintro e wz ⟨rfl, hx⟩
  replace hx := hx.symm
  subst hx
  cases g2 : (decide (0 ≤ x.pri) && decide (x.pri ≤ 9))
  case false =>
    have hf : ruOkB x = false := ruOk_no (by simp at g2; omega)
    clear g2
    go_wp2
    go_ret
    exact ⟨ret_bool (by rw [← HG.out, hf]), b2⟩
  have G2 : Hid (0 ≤ x.pri ∧ x.pri ≤ 9) := (by simpa using g2 : _ ∧ _)
  clear g2
  go_wp2_with fail
  refine (within_any x.mode 0 4 _).mono ?_
  rintro e wz ⟨rfl, hx⟩
  replace hx := hx.symm
  subst hx
  cases g3 : (decide (0 ≤ x.mode) && decide (x.mode ≤ 4))
  case false =>
    have hf : ruOkB x = false := ruOk_no (by simp at g3; omega)
    clear g3
    go_wp2
    go_ret
    exact ⟨ret_bool (by rw [← HG.out, hf]), b2⟩
  have G3 : Hid (0 ≤ x.mode ∧ x.mode ≤ 4) := (by simpa using g3 : _ ∧ _)
  clear g3
  go_wp2_with fail
  refine (implExOk_any x.kd x.sy x.n a c x.ks _ t v hE2 hi2.ks).mono ?_
  rintro e w3 ⟨rfl, hb3⟩
  have b3 := b2.trans (hb3.mono b2.size)
  have hA3 := hA2.below hb3
  have hi3 := hi2.below hb3
  clear q0 q1 q2 q3 q4 q5 q6 q7 q8 q9 q10 q11
  obtain ⟨q0, q1, q2, q3, q4, q5, q6, q7, q8, q9, q10, q11⟩ := hA3.twelve
  simp only [Nat.zero_add] at q0 q1 q2 q3 q4 q5 q6 q7 q8 q9 q10 q11
  cases g4 : okX x.kd x.sy x.n x.ks
  case false =>
    have hf : ruOkB x = false := ruOk_ex g4
    clear g4
    go_wp2
    go_ret
    exact ⟨ret_bool (by rw [← HG.out, hf]), b3⟩
  have G4 : Hid (okX x.kd x.sy x.n x.ks = true) := g4
  clear g4
  go_wp2_with fail
  refine (within_any x.lo 0 x.hi _).mono ?_
  rintro e wz ⟨rfl, hx⟩
  replace hx := hx.symm
  subst hx
  cases g5 : (decide (0 ≤ x.lo) && decide (x.lo ≤ x.hi))
  case false =>
    have hf : ruOkB x = false := ruOk_no (by simp at g5; omega)
    clear g5
    go_wp2
    go_ret
    exact ⟨ret_bool (by rw [← HG.out, hf]), b3⟩
  have G5 : Hid (0 ≤ x.lo ∧ x.lo ≤ x.hi) := (by simpa using g5 : _ ∧ _)
  clear g5
  go_wp2_with fail
  refine (within_any x.hi 0 100 _).mono ?_
  rintro e wz ⟨rfl, hx⟩
  replace hx := hx.symm
  subst hx
  cases g6 : (decide (0 ≤ x.hi) && decide (x.hi ≤ 100))
  case false =>
    have hf : ruOkB x = false := ruOk_no (by simp at g6; omega)
    clear g6
    go_wp2
    go_ret
    exact ⟨ret_bool (by rw [← HG.out, hf]), b3⟩
  have G6 : Hid (0 ≤ x.hi ∧ x.hi ≤ 100) := (by simpa using g6 : _ ∧ _)
  clear g6
  go_wp2_with fail
  refine (within_any x.key 0 3 _).mono ?_
  rintro e wz ⟨rfl, hx⟩
  replace hx := hx.symm
  subst hx
  cases g7 : (decide (0 ≤ x.key) && decide (x.key ≤ 3))
  case false =>
    have hf : ruOkB x = false := ruOk_no (by simp at g7; omega)
    clear g7
    go_wp2
    go_ret
    exact ⟨ret_bool (by rw [← HG.out, hf]), b3⟩
  have G7 : Hid (0 ≤ x.key ∧ x.key ≤ 3) := (by simpa using g7 : _ ∧ _)
  clear g7
  go_wp2_with fail
  refine (within_any x.add (-9) 9 _).mono ?_
  rintro e wz ⟨rfl, hx⟩
  replace hx := hx.symm
  subst hx
  cases g8 : (decide (-9 ≤ x.add) && decide (x.add ≤ 9))
  case false =>
    have hf : ruOkB x = false := ruOk_no (by simp at g8; omega)
    clear g8
    go_wp2
    go_ret
    exact ⟨ret_bool (by rw [← HG.out, hf]), b3⟩
  have G8 : Hid (-9 ≤ x.add ∧ x.add ≤ 9) := (by simpa using g8 : _ ∧ _)
  clear g8
  go_wp2_with fail
  refine (within_any x.ra (-1) 4 _).mono ?_
  rintro e wz ⟨rfl, hx⟩
  replace hx := hx.symm
  subst hx
  cases g9 : (decide (-1 ≤ x.ra) && decide (x.ra ≤ 4))
  case false =>
    have hf : ruOkB x = false := ruOk_no (by simp at g9; omega)
    clear g9
    go_wp2
    go_ret
    exact ⟨ret_bool (by rw [← HG.out, hf]), b3⟩
  have G9 : Hid (-1 ≤ x.ra ∧ x.ra ≤ 4) := (by simpa using g9 : _ ∧ _)
  clear g9
  have hf : ruOkB x = true := ruOk_yes G1.out G4.out (by have := G2.out; have := G3.out; have := G5.out; have := G6.out; have := G7.out; have := G8.out; have := G9.out; omega)
  go_wp2
  go_ret
  exact ⟨ret_bool (by rw [← HG.out, hf]), b3⟩
end Go.Proofs.YtohijenlcfkliaaDoor
