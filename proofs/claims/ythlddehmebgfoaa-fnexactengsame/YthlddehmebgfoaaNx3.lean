/- Engines are compared by the laws. -/
import Derived.Test.YthlddehmebgfoaaNx2
import Derived.Test.YthlddehmebgfoaaGx3
import Derived.Test.YthlddehmebgfoaaRu4
namespace Go.Proofs.Ythlddehmebgfoaa
open Go.ChangeShapes Go.WideShapes Go.ChangeAt Go.RowKit Go.Deep
set_option linter.unusedVariables false
set_option maxRecDepth 4000

def nxEqB (x y : Nx) : Bool := rusEqB x.ru y.ru && gxsEqB x.gr y.gr && evsEqB x.ev y.ev && intsEqB x.ks y.ks && fxsEqB x.fi y.fi
theorem nxEqB_self (x : Nx) : nxEqB x x = true := by simp [nxEqB, rusEqB_self, gxsEqB_self, evsEqB_self, intsEqB_self, fxsEqB_self]

set_option maxHeartbeats 2000000 in
theorem eqEng_any (x y : Nx) (p q : XA) (w : World) (h : NxIn w p x) (h' : NxIn w q y) :
    Calls Try.prog 8 #[nxV x p, nxV y q] w fun e w' => e = .returned (.bool (nxEqB x y)) ∧ Below w.heap.size w w' := by
  obtain ⟨G, hG⟩ : ∃ G, nxEqB x y = G := ⟨_, rfl⟩
  rw [hG]
  have HG : Hid (nxEqB x y = G) := hG
  clear hG
  obtain ⟨w0, hw0⟩ : ∃ w0, w.alloc (.cells (nxC x p) 36) = w0 := ⟨_, rfl⟩
  have hA0 := bx_new w (nxC x p) 36
  have b0 := oBelow_new w (.cells (nxC x p) 36)
  rw [hw0] at hA0 b0
  obtain ⟨w1, hw1⟩ : ∃ w1, w0.alloc (.cells (nxC y q) 36) = w1 := ⟨_, rfl⟩
  have hB1 := bx_new w0 (nxC y q) 36
  have b01 := oBelow_new w0 (.cells (nxC y q) 36)
  rw [hw1] at hB1 b01
  have hA1 := hA0.below b01
  have b1 := b0.trans (b01.mono b0.size)
  obtain ⟨A, hA⟩ : ∃ A, w.heap.size = A := ⟨_, rfl⟩
  obtain ⟨B, hB⟩ : ∃ B, w0.heap.size = B := ⟨_, rfl⟩
  rw [hA] at hA1
  rw [hB] at hB1
  have hi1 := h.below b1
  have hj1 := h'.below b1
  clear b0 b01 hA0
  obtain ⟨q0, q1, q2, q3, q4⟩ := hA1.fiveN
  obtain ⟨r0, r1, r2, r3, r4⟩ := hB1.fiveN
  unfold nxV
  unfold nxC at hw0 hw1 ⊢
  go_enter Try.func8, Try.ntmps8
  go_wp2_with fail
  refine (eqRuleS_any _ _ _ _ x.ru y.ru _ hi1.ru hj1.ru).mono ?_
  rintro e w2 ⟨rfl, hb2⟩
  have b2 := b1.trans (hb2.mono b1.size)
  have hA2 := hA1.below hb2
  have hB2 := hB1.below hb2
  have hi2 := hi1.below hb2
  have hj2 := hj1.below hb2
  clear q0 q1 q2 q3 q4 r0 r1 r2 r3 r4
  obtain ⟨q0, q1, q2, q3, q4⟩ := hA2.fiveN
  obtain ⟨r0, r1, r2, r3, r4⟩ := hB2.fiveN
  cases g0 : rusEqB x.ru y.ru
  case false =>
    have hf : nxEqB x y = false := by simp [nxEqB, g0]
    clear g0
    go_wp2
    go_ret
    exact ⟨ret_bool (by rw [← HG.out, hf]), b2⟩
  go_wp2_with fail
  refine (eqGraphS_any _ _ _ _ x.gr y.gr _ hi2.gr hj2.gr).mono ?_
  rintro e w3 ⟨rfl, hb3⟩
  have b3 := b2.trans (hb3.mono b2.size)
  have hA3 := hA2.below hb3
  have hB3 := hB2.below hb3
  have hi3 := hi2.below hb3
  have hj3 := hj2.below hb3
  clear q0 q1 q2 q3 q4 r0 r1 r2 r3 r4
  obtain ⟨q0, q1, q2, q3, q4⟩ := hA3.fiveN
  obtain ⟨r0, r1, r2, r3, r4⟩ := hB3.fiveN
  cases g1 : gxsEqB x.gr y.gr
  case false =>
    have hf : nxEqB x y = false := by simp [nxEqB, g1]
    clear g0 g1
    go_wp2
    go_ret
    exact ⟨ret_bool (by rw [← HG.out, hf]), b3⟩
  go_wp2_with fail
  refine (eqEvS_any _ _ _ _ x.ev y.ev _ hi3.ev hj3.ev).mono ?_
  rintro e w4 ⟨rfl, hb4⟩
  have b4 := b3.trans (hb4.mono b3.size)
  have hA4 := hA3.below hb4
  have hB4 := hB3.below hb4
  have hi4 := hi3.below hb4
  have hj4 := hj3.below hb4
  clear q0 q1 q2 q3 q4 r0 r1 r2 r3 r4
  obtain ⟨q0, q1, q2, q3, q4⟩ := hA4.fiveN
  obtain ⟨r0, r1, r2, r3, r4⟩ := hB4.fiveN
  cases g2 : evsEqB x.ev y.ev
  case false =>
    have hf : nxEqB x y = false := by simp [nxEqB, g2]
    clear g0 g1 g2
    go_wp2
    go_ret
    exact ⟨ret_bool (by rw [← HG.out, hf]), b4⟩
  go_wp2_with fail
  refine (eqIntS_any _ _ _ _ x.ks y.ks _ hi4.ks hj4.ks).mono ?_
  rintro e w5 ⟨rfl, hb5⟩
  have b5 := b4.trans (hb5.mono b4.size)
  have hA5 := hA4.below hb5
  have hB5 := hB4.below hb5
  have hi5 := hi4.below hb5
  have hj5 := hj4.below hb5
  clear q0 q1 q2 q3 q4 r0 r1 r2 r3 r4
  obtain ⟨q0, q1, q2, q3, q4⟩ := hA5.fiveN
  obtain ⟨r0, r1, r2, r3, r4⟩ := hB5.fiveN
  cases g3 : intsEqB x.ks y.ks
  case false =>
    have hf : nxEqB x y = false := by simp [nxEqB, g3]
    clear g0 g1 g2 g3
    go_wp2
    go_ret
    exact ⟨ret_bool (by rw [← HG.out, hf]), b5⟩
  go_wp2_with fail
  refine (eqFireS_any _ _ _ _ x.fi y.fi _ hi5.fi hj5.fi).mono ?_
  rintro e w6 ⟨rfl, hb6⟩
  have b6 := b5.trans (hb6.mono b5.size)
  have hA6 := hA5.below hb6
  have hB6 := hB5.below hb6
  have hi6 := hi5.below hb6
  have hj6 := hj5.below hb6
  clear q0 q1 q2 q3 q4 r0 r1 r2 r3 r4
  obtain ⟨q0, q1, q2, q3, q4⟩ := hA6.fiveN
  obtain ⟨r0, r1, r2, r3, r4⟩ := hB6.fiveN
  cases g4 : fxsEqB x.fi y.fi
  case false =>
    have hf : nxEqB x y = false := by simp [nxEqB, g4]
    clear g0 g1 g2 g3 g4
    go_wp2
    go_ret
    exact ⟨ret_bool (by rw [← HG.out, hf]), b6⟩
  have hf : nxEqB x y = true := by simp [nxEqB, g0, g1, g2, g3, g4]
  clear g0 g1 g2 g3 g4
  go_wp2
  go_ret
  exact ⟨ret_bool (by rw [← HG.out, hf]), b6⟩
end Go.Proofs.Ythlddehmebgfoaa
