/- Rules compared by the laws. -/
import Derived.Test.YtdmcpneppalaiaaDoorRu3
namespace Go.Proofs.YtdmcpneppalaiaaDoor
open Go.ChangeShapes Go.WideShapes Go.ChangeAt Go.RowKit Go.Deep
set_option linter.unusedVariables false
set_option maxRecDepth 4000

theorem nm_yes {s u : ByteArray} (h : s = u) : (s.toList == u.toList) = true := by subst h; simp
theorem nm_no {s u : ByteArray} (h : s ≠ u) : (s.toList == u.toList) = false := by
  rw [beq_eq_false_iff_ne, ByteArray.toList_eq, ByteArray.toList_eq]
  intro e
  exact h (ByteArray.ext (Array.toList_inj.1 e))
def ruEqB (x y : Ru) : Bool := decide (x.nm = y.nm ∧ x.pri = y.pri ∧ x.mode = y.mode ∧ x.lo = y.lo ∧ x.hi = y.hi ∧ x.key = y.key ∧ x.add = y.add ∧ x.ra = y.ra) && eqX x.kd x.sy x.n x.ks y.kd y.sy y.n y.ks
theorem ruEqB_self (x : Ru) : ruEqB x x = true := by simp [ruEqB, eqX_self]
def rusEqB : List Ru → List Ru → Bool
  | [], [] => true
  | x :: r, y :: s => ruEqB x y && rusEqB r s
  | _, _ => false
theorem rusEqB_self : ∀ (a : List Ru), rusEqB a a = true
  | [] => rfl
  | x :: r => by simp [rusEqB, ruEqB_self, rusEqB_self r]
theorem rusEqB_len : ∀ {a b : List Ru}, a.length ≠ b.length → rusEqB a b = false
  | [], [], h => by simp at h
  | [], _ :: _, _ => rfl
  | _ :: _, [], _ => rfl
  | x :: r, y :: s, h => by simp [rusEqB, rusEqB_len (a := r) (b := s) (by simpa using h)]
theorem rusEqB_step {a b : List Ru} {k : Nat} (h : k < a.length) (h' : k < b.length) : rusEqB (a.drop k) (b.drop k) = (ruEqB a[k] b[k] && rusEqB (a.drop (k + 1)) (b.drop (k + 1))) := by
  rw [List.drop_eq_getElem_cons h, List.drop_eq_getElem_cons h']; rfl
theorem rusEqB_end {a b : List Ru} {k : Nat} (h : ¬ k < a.length) (h' : a.length = b.length) : rusEqB (a.drop k) (b.drop k) = true := by
  rw [List.drop_eq_nil_of_le (by omega), List.drop_eq_nil_of_le (by omega)]; rfl

set_option maxHeartbeats 2000000 in
theorem eqRule_any (x y : Ru) (a a' : Option Addr) (c c' : Nat) (w : World) (h : RuIn w a x) (h' : RuIn w a' y) :
    Calls Tryd.prog 8 #[ruV x a c, ruV y a' c'] w fun e w' => e = .returned (.bool (ruEqB x y)) ∧ Below w.heap.size w w' := by
  obtain ⟨G, hG⟩ : ∃ G, ruEqB x y = G := ⟨_, rfl⟩
  rw [hG]
  have HG : Hid (ruEqB x y = G) := hG
  clear hG
  obtain ⟨w0, hw0⟩ : ∃ w0, w.alloc (.cells (ruC x a c) 33) = w0 := ⟨_, rfl⟩
  have hA0 := bx_new w (ruC x a c) 33
  have b0 := xBelow_new w (.cells (ruC x a c) 33)
  rw [hw0] at hA0 b0
  obtain ⟨w1, hw1⟩ : ∃ w1, w0.alloc (.cells (ruC y a' c') 33) = w1 := ⟨_, rfl⟩
  have hB0 := bx_new w0 (ruC y a' c') 33
  have b01 := xBelow_new w0 (.cells (ruC y a' c') 33)
  rw [hw1] at hB0 b01
  have hA1 := hA0.below b01
  have b1 := b0.trans (b01.mono b0.size)
  obtain ⟨A, hA⟩ : ∃ A, w.heap.size = A := ⟨_, rfl⟩
  obtain ⟨B, hB⟩ : ∃ B, w0.heap.size = B := ⟨_, rfl⟩
  rw [hA] at hA1
  rw [hB] at hB0
  have hi := h.below b1
  have hj := h'.below b1
  clear b0 b01 hA0
  obtain ⟨q0, q1, q2, q3, q4, q5, q6, q7, q8, q9, q10, q11⟩ := hA1.twelve
  obtain ⟨r0, r1, r2, r3, r4, r5, r6, r7, r8, r9, r10, r11⟩ := hB0.twelve
  simp only [Nat.zero_add] at q0 q1 q2 q3 q4 q5 q6 q7 q8 q9 q10 q11 r0 r1 r2 r3 r4 r5 r6 r7 r8 r9 r10 r11
  unfold ruV
  unfold ruC at hw0 hw1 ⊢
  by_cases h0 : x.nm = y.nm
  case neg =>
    have n0 : (x.nm.toList == y.nm.toList) = false := nm_no h0
    have hf : ruEqB x y = false := by simp [ruEqB, h0]
    clear h0
    go_enter Tryd.func8, Tryd.ntmps8
    go_wp2
    go_ret
    exact ⟨ret_bool (by rw [← HG.out, hf]), b1⟩
  have n0 : (x.nm.toList == y.nm.toList) = true := nm_yes h0
  have H0 : Hid (x.nm = y.nm) := h0
  clear h0
  by_cases h0 : x.pri = y.pri
  case neg =>
    have n1 : (x.pri != y.pri) = true := by simpa using h0
    have hf : ruEqB x y = false := by simp [ruEqB, h0]
    clear h0
    go_enter Tryd.func8, Tryd.ntmps8
    go_wp2
    go_ret
    exact ⟨ret_bool (by rw [← HG.out, hf]), b1⟩
  have n1 : (x.pri != y.pri) = false := by simpa using h0
  have H1 : Hid (x.pri = y.pri) := h0
  clear h0
  by_cases h0 : x.mode = y.mode
  case neg =>
    have n2 : (x.mode != y.mode) = true := by simpa using h0
    have hf : ruEqB x y = false := by simp [ruEqB, h0]
    clear h0
    go_enter Tryd.func8, Tryd.ntmps8
    go_wp2
    go_ret
    exact ⟨ret_bool (by rw [← HG.out, hf]), b1⟩
  have n2 : (x.mode != y.mode) = false := by simpa using h0
  have H2 : Hid (x.mode = y.mode) := h0
  clear h0
  go_enter Tryd.func8, Tryd.ntmps8
  go_wp2_with fail
  refine (eqEx_any x.kd x.sy x.n _ _ x.ks y.kd y.sy y.n _ _ y.ks _ hi.ks hj.ks).mono ?_
  rintro e w2 ⟨rfl, hb2⟩
  have b2 := b1.trans (hb2.mono b1.size)
  have hA2 := hA1.below hb2
  have hB2 := hB0.below hb2
  clear q0 q1 q2 q3 q4 q5 q6 q7 q8 q9 q10 q11 r0 r1 r2 r3 r4 r5 r6 r7 r8 r9 r10 r11
  obtain ⟨q0, q1, q2, q3, q4, q5, q6, q7, q8, q9, q10, q11⟩ := hA2.twelve
  obtain ⟨r0, r1, r2, r3, r4, r5, r6, r7, r8, r9, r10, r11⟩ := hB2.twelve
  simp only [Nat.zero_add] at q0 q1 q2 q3 q4 q5 q6 q7 q8 q9 q10 q11 r0 r1 r2 r3 r4 r5 r6 r7 r8 r9 r10 r11
  cases g1 : eqX x.kd x.sy x.n x.ks y.kd y.sy y.n y.ks
  case false =>
    have hf : ruEqB x y = false := by simp [ruEqB, g1]
    clear g1
    go_wp2
    go_ret
    exact ⟨ret_bool (by rw [← HG.out, hf]), b2⟩
  have G1 : Hid (eqX x.kd x.sy x.n x.ks y.kd y.sy y.n y.ks = true) := g1
  clear g1
  by_cases h0 : x.lo = y.lo
  case neg =>
    have n3 : (x.lo != y.lo) = true := by simpa using h0
    have hf : ruEqB x y = false := by simp [ruEqB, h0]
    clear h0
    go_wp2
    go_ret
    exact ⟨ret_bool (by rw [← HG.out, hf]), b2⟩
  have n3 : (x.lo != y.lo) = false := by simpa using h0
  have H3 : Hid (x.lo = y.lo) := h0
  clear h0
  by_cases h0 : x.hi = y.hi
  case neg =>
    have n4 : (x.hi != y.hi) = true := by simpa using h0
    have hf : ruEqB x y = false := by simp [ruEqB, h0]
    clear h0
    go_wp2
    go_ret
    exact ⟨ret_bool (by rw [← HG.out, hf]), b2⟩
  have n4 : (x.hi != y.hi) = false := by simpa using h0
  have H4 : Hid (x.hi = y.hi) := h0
  clear h0
  by_cases h0 : x.key = y.key
  case neg =>
    have n5 : (x.key != y.key) = true := by simpa using h0
    have hf : ruEqB x y = false := by simp [ruEqB, h0]
    clear h0
    go_wp2
    go_ret
    exact ⟨ret_bool (by rw [← HG.out, hf]), b2⟩
  have n5 : (x.key != y.key) = false := by simpa using h0
  have H5 : Hid (x.key = y.key) := h0
  clear h0
  by_cases h0 : x.add = y.add
  case neg =>
    have n6 : (x.add != y.add) = true := by simpa using h0
    have hf : ruEqB x y = false := by simp [ruEqB, h0]
    clear h0
    go_wp2
    go_ret
    exact ⟨ret_bool (by rw [← HG.out, hf]), b2⟩
  have n6 : (x.add != y.add) = false := by simpa using h0
  have H6 : Hid (x.add = y.add) := h0
  clear h0
  by_cases h0 : x.ra = y.ra
  case neg =>
    have n7 : (x.ra != y.ra) = true := by simpa using h0
    have hf : ruEqB x y = false := by simp [ruEqB, h0]
    clear h0
    go_wp2
    go_ret
    exact ⟨ret_bool (by rw [← HG.out, hf]), b2⟩
  have n7 : (x.ra != y.ra) = false := by simpa using h0
  have H7 : Hid (x.ra = y.ra) := h0
  clear h0
  have hf : ruEqB x y = true := by simp [ruEqB, H0.out, H1.out, H2.out, H3.out, H4.out, H5.out, H6.out, H7.out, G1.out]
  go_wp2
  go_ret
  exact ⟨ret_bool (by rw [← HG.out, hf]), b2⟩

end Go.Proofs.YtdmcpneppalaiaaDoor
