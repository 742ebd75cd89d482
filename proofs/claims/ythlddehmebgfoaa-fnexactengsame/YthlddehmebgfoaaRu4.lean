/- Rules compared by the laws. -/
import Derived.Test.YthlddehmebgfoaaRu3
namespace Go.Proofs.Ythlddehmebgfoaa
open Go.ChangeShapes Go.WideShapes Go.ChangeAt Go.RowKit Go.Deep
set_option linter.unusedVariables false
set_option maxRecDepth 4000

theorem nm_yes {s u : ByteArray} (h : s = u) : (s.toList == u.toList) = true := by subst h; simp
theorem nm_no {s u : ByteArray} (h : s ≠ u) : (s.toList == u.toList) = false := by
  rw [beq_eq_false_iff_ne, ByteArray.toList_eq, ByteArray.toList_eq]
  intro e
  exact h (ByteArray.ext (Array.toList_inj.1 e))
def ruEqB (x y : Ru) : Bool := decide (x.nm = y.nm ∧ x.pri = y.pri ∧ x.mode = y.mode ∧ x.lo = y.lo ∧ x.hi = y.hi ∧ x.key = y.key ∧ x.add = y.add ∧ x.ra = y.ra) && eqX x.kd x.sy x.n x.ks y.kd y.sy y.n y.ks
theorem ruEqB_self (x : Ru) : ruEqB x x = true := by simp [ruEqB, eqX_self]
def rusEqB : List Ru → List Ru → Bool
  | [], [] => true
  | x :: r, y :: s => ruEqB x y && rusEqB r s
  | _, _ => false
theorem rusEqB_self : ∀ (a : List Ru), rusEqB a a = true
  | [] => rfl
  | x :: r => by simp [rusEqB, ruEqB_self, rusEqB_self r]
theorem rusEqB_len : ∀ {a b : List Ru}, a.length ≠ b.length → rusEqB a b = false
  | [], [], h => by simp at h
  | [], _ :: _, _ => rfl
  | _ :: _, [], _ => rfl
  | x :: r, y :: s, h => by simp [rusEqB, rusEqB_len (a := r) (b := s) (by simpa using h)]
theorem rusEqB_step {a b : List Ru} {k : Nat} (h : k < a.length) (h' : k < b.length) : rusEqB (a.drop k) (b.drop k) = (ruEqB a[k] b[k] && rusEqB (a.drop (k + 1)) (b.drop (k + 1))) := by
  rw [List.drop_eq_getElem_cons h, List.drop_eq_getElem_cons h']; rfl
theorem rusEqB_end {a b : List Ru} {k : Nat} (h : ¬ k < a.length) (h' : a.length = b.length) : rusEqB (a.drop k) (b.drop k) = true := by
  rw [List.drop_eq_nil_of_le (by omega), List.drop_eq_nil_of_le (by omega)]; rfl

set_option maxHeartbeats 2000000 in
theorem eqRule_any (x y : Ru) (a a' : Option Addr) (c c' : Nat) (w : World) (h : RuIn w a x) (h' : RuIn w a' y) :
    Calls Try.prog 51 #[ruV x a c, ruV y a' c'] w fun e w' => e = .returned (.bool (ruEqB x y)) ∧ Below w.heap.size w w' := by
  obtain ⟨G, hG⟩ : ∃ G, ruEqB x y = G := ⟨_, rfl⟩
  rw [hG]
  have HG : Hid (ruEqB x y = G) := hG
  clear hG
  obtain ⟨w0, hw0⟩ : ∃ w0, w.alloc (.cells (ruC x a c) 84) = w0 := ⟨_, rfl⟩
  have hA0 := bx_new w (ruC x a c) 84
  have b0 := xBelow_new w (.cells (ruC x a c) 84)
  rw [hw0] at hA0 b0
  obtain ⟨w1, hw1⟩ : ∃ w1, w0.alloc (.cells (ruC y a' c') 84) = w1 := ⟨_, rfl⟩
  have hB0 := bx_new w0 (ruC y a' c') 84
  have b01 := xBelow_new w0 (.cells (ruC y a' c') 84)
  rw [hw1] at hB0 b01
  have hA1 := hA0.below b01
  have b1 := b0.trans (b01.mono b0.size)
  obtain ⟨A, hA⟩ : ∃ A, w.heap.size = A := ⟨_, rfl⟩
  obtain ⟨B, hB⟩ : ∃ B, w0.heap.size = B := ⟨_, rfl⟩
  rw [hA] at hA1
  rw [hB] at hB0
  have hi := h.below b1
  have hj := h'.below b1
  clear b0 b01 hA0
  obtain ⟨q0, q1, q2, q3, q4, q5, q6, q7, q8, q9, q10, q11⟩ := hA1.twelve
  obtain ⟨r0, r1, r2, r3, r4, r5, r6, r7, r8, r9, r10, r11⟩ := hB0.twelve
  simp only [Nat.zero_add] at q0 q1 q2 q3 q4 q5 q6 q7 q8 q9 q10 q11 r0 r1 r2 r3 r4 r5 r6 r7 r8 r9 r10 r11
  unfold ruV
  unfold ruC at hw0 hw1 ⊢
  by_cases h0 : x.nm = y.nm
  case neg =>
    have n0 : (x.nm.toList == y.nm.toList) = false := nm_no h0
    have hf : ruEqB x y = false := by simp [ruEqB, h0]
    clear h0
    go_enter Try.func51, Try.ntmps51
    go_wp2
    go_ret
    exact ⟨ret_bool (by rw [← HG.out, hf]), b1⟩
  have n0 : (x.nm.toList == y.nm.toList) = true := nm_yes h0
  have H0 : Hid (x.nm = y.nm) := h0
  clear h0
  by_cases h0 : x.pri = y.pri
  case neg =>
    have n1 : (x.pri != y.pri) = true := by simpa using h0
    have hf : ruEqB x y = false := by simp [ruEqB, h0]
    clear h0
    go_enter Try.func51, Try.ntmps51
    go_wp2
    go_ret
    exact ⟨ret_bool (by rw [← HG.out, hf]), b1⟩
  have n1 : (x.pri != y.pri) = false := by simpa using h0
  have H1 : Hid (x.pri = y.pri) := h0
  clear h0
  by_cases h0 : x.mode = y.mode
  case neg =>
    have n2 : (x.mode != y.mode) = true := by simpa using h0
    have hf : ruEqB x y = false := by simp [ruEqB, h0]
    clear h0
    go_enter Try.func51, Try.ntmps51
    go_wp2
    go_ret
    exact ⟨ret_bool (by rw [← HG.out, hf]), b1⟩
  have n2 : (x.mode != y.mode) = false := by simpa using h0
  have H2 : Hid (x.mode = y.mode) := h0
  clear h0
  go_enter Try.func51, Try.ntmps51
  go_wp2_with fail
  refine (eqEx_any x.kd x.sy x.n _ _ x.ks y.kd y.sy y.n _ _ y.ks _ hi.ks hj.ks).mono ?_
  rintro e w2 ⟨rfl, hb2⟩
  have b2 := b1.trans (hb2.mono b1.size)
  have hA2 := hA1.below hb2
  have hB2 := hB0.below hb2
  clear q0 q1 q2 q3 q4 q5 q6 q7 q8 q9 q10 q11 r0 r1 r2 r3 r4 r5 r6 r7 r8 r9 r10 r11
  obtain ⟨q0, q1, q2, q3, q4, q5, q6, q7, q8, q9, q10, q11⟩ := hA2.twelve
  obtain ⟨r0, r1, r2, r3, r4, r5, r6, r7, r8, r9, r10, r11⟩ := hB2.twelve
  simp only [Nat.zero_add] at q0 q1 q2 q3 q4 q5 q6 q7 q8 q9 q10 q11 r0 r1 r2 r3 r4 r5 r6 r7 r8 r9 r10 r11
  cases g1 : eqX x.kd x.sy x.n x.ks y.kd y.sy y.n y.ks
  case false =>
    have hf : ruEqB x y = false := by simp [ruEqB, g1]
    clear g1
    go_wp2
    go_ret
    exact ⟨ret_bool (by rw [← HG.out, hf]), b2⟩
  have G1 : Hid (eqX x.kd x.sy x.n x.ks y.kd y.sy y.n y.ks = true) := g1
  clear g1
  by_cases h0 : x.lo = y.lo
  case neg =>
    have n3 : (x.lo != y.lo) = true := by simpa using h0
    have hf : ruEqB x y = false := by simp [ruEqB, h0]
    clear h0
    go_wp2
    go_ret
    exact ⟨ret_bool (by rw [← HG.out, hf]), b2⟩
  have n3 : (x.lo != y.lo) = false := by simpa using h0
  have H3 : Hid (x.lo = y.lo) := h0
  clear h0
  by_cases h0 : x.hi = y.hi
  case neg =>
    have n4 : (x.hi != y.hi) = true := by simpa using h0
    have hf : ruEqB x y = false := by simp [ruEqB, h0]
    clear h0
    go_wp2
    go_ret
    exact ⟨ret_bool (by rw [← HG.out, hf]), b2⟩
  have n4 : (x.hi != y.hi) = false := by simpa using h0
  have H4 : Hid (x.hi = y.hi) := h0
  clear h0
  by_cases h0 : x.key = y.key
  case neg =>
    have n5 : (x.key != y.key) = true := by simpa using h0
    have hf : ruEqB x y = false := by simp [ruEqB, h0]
    clear h0
    go_wp2
    go_ret
    exact ⟨ret_bool (by rw [← HG.out, hf]), b2⟩
  have n5 : (x.key != y.key) = false := by simpa using h0
  have H5 : Hid (x.key = y.key) := h0
  clear h0
  by_cases h0 : x.add = y.add
  case neg =>
    have n6 : (x.add != y.add) = true := by simpa using h0
    have hf : ruEqB x y = false := by simp [ruEqB, h0]
    clear h0
    go_wp2
    go_ret
    exact ⟨ret_bool (by rw [← HG.out, hf]), b2⟩
  have n6 : (x.add != y.add) = false := by simpa using h0
  have H6 : Hid (x.add = y.add) := h0
  clear h0
  by_cases h0 : x.ra = y.ra
  case neg =>
    have n7 : (x.ra != y.ra) = true := by simpa using h0
    have hf : ruEqB x y = false := by simp [ruEqB, h0]
    clear h0
    go_wp2
    go_ret
    exact ⟨ret_bool (by rw [← HG.out, hf]), b2⟩
  have n7 : (x.ra != y.ra) = false := by simpa using h0
  have H7 : Hid (x.ra = y.ra) := h0
  clear h0
  have hf : ruEqB x y = true := by simp [ruEqB, H0.out, H1.out, H2.out, H3.out, H4.out, H5.out, H6.out, H7.out, G1.out]
  go_wp2
  go_ret
  exact ⟨ret_bool (by rw [← HG.out, hf]), b2⟩

set_option maxHeartbeats 2000000 in
theorem eqRuleS_any (a a' : Option Addr) (cap cap' : Nat) (l l' : List Ru) (w : World) (h : Rus w a l) (h' : Rus w a' l') :
    Calls Try.prog 30 #[.slice a l.length cap, .slice a' l'.length cap'] w fun e w' => e = .returned (.bool (rusEqB l l')) ∧ Below w.heap.size w w' := by
  have hn := h.len
  have hn' := h'.len
  unfold maxLen at hn hn'
  by_cases hne : l.length = l'.length
  · have hf : Hid (rusEqB l l' = rusEqB (l.drop 0) (l'.drop 0)) := rfl
    have hnb : ((l.length : Int) != (l'.length : Int)) = false := by simp [hne]
    have Hne : Hid (l.length = l'.length) := hne
    have hle : l.length ≤ l'.length := by omega
    clear hne
    go_enter Try.func30, Try.ntmps30
    go_wp2
    go_loopw [5] (fun i wr => ∃ k : Nat, k ≤ l.length ∧ i = .int .i64 k ∧ Hid (rusEqB l l' = rusEqB (l.drop k) (l'.drop k)) ∧ Below w.heap.size w wr) (fun i _ => l.length - (intOf i).toNat)
    case atStart => exact ⟨0, Nat.zero_le _, rfl, hf, Below.refl _ _⟩
    case round =>
      obtain ⟨k, hk, rfl, hr, hb⟩ := hrel
      by_cases hlt : k < l.length
      · obtain ⟨b, off, p, pc, rfl, hbl, hc, hids⟩ := (h.below hb).at hlt
        obtain ⟨b', off', p', pc', rfl, hbl', hd, hids'⟩ := (h'.below hb).at (k := k) (by omega)
        have hst : Hid (rusEqB (l.drop k) (l'.drop k) = _) := rusEqB_step hlt (show k < l'.length by omega)
        have hlt' : k < l'.length := by omega
        generalize l[k] = o at hc hids hst
        generalize l'[k] = o' at hd hids' hst
        obtain ⟨q0, q1, q2, q3, q4, q5, q6, q7, q8, q9, q10, q11⟩ := hc
        obtain ⟨r0, r1, r2, r3, r4, r5, r6, r7, r8, r9, r10, r11⟩ := hd
        have hcall := fun (u : After wr) => calls_after (u := u) (eqRule_any o o' p p' pc pc' u.v (hids.below u.h) (hids'.below u.h))
        unfold ruV ruC at hcall
        have a0 := fun u : After wr => u.cell q0 hbl
        have a1 := fun u : After wr => u.cell q1 hbl
        have a2 := fun u : After wr => u.cell q2 hbl
        have a3 := fun u : After wr => u.cell q3 hbl
        have a4 := fun u : After wr => u.cell q4 hbl
        have a5 := fun u : After wr => u.cell q5 hbl
        have a6 := fun u : After wr => u.cell q6 hbl
        have a7 := fun u : After wr => u.cell q7 hbl
        have a8 := fun u : After wr => u.cell q8 hbl
        have a9 := fun u : After wr => u.cell q9 hbl
        have a10 := fun u : After wr => u.cell q10 hbl
        have a11 := fun u : After wr => u.cell q11 hbl
        have g0 := fun u : After wr => u.cell r0 hbl'
        have g1 := fun u : After wr => u.cell r1 hbl'
        have g2 := fun u : After wr => u.cell r2 hbl'
        have g3 := fun u : After wr => u.cell r3 hbl'
        have g4 := fun u : After wr => u.cell r4 hbl'
        have g5 := fun u : After wr => u.cell r5 hbl'
        have g6 := fun u : After wr => u.cell r6 hbl'
        have g7 := fun u : After wr => u.cell r7 hbl'
        have g8 := fun u : After wr => u.cell r8 hbl'
        have g9 := fun u : After wr => u.cell r9 hbl'
        have g10 := fun u : After wr => u.cell r10 hbl'
        have g11 := fun u : After wr => u.cell r11 hbl'
        cases hev : ruEqB o o'
        · rw [hev] at hcall
          go_wp2
          have hany := after_any
          refine wp_region_after (by kernel_rfl) (by kernel_rfl) ?_
          repeat (go_big_quiet_step ((go_at_call 51; refine hcall _)))
          refine wpQuiet_nil ?_
          intro w1 hu
          have hbe : Below w.heap.size w w1 := hb.trans ((after_of hu).mono hb.size)
          clear hu
          go_wp2
          go_ret
          exact ⟨ret_bool (by rw [hr.out, hst.out, hev]; rfl), hbe⟩
        · rw [hev] at hcall
          go_wp2
          have hany := after_any
          refine wp_region_after (by kernel_rfl) (by kernel_rfl) ?_
          repeat (go_big_quiet_step ((go_at_call 51; refine hcall _)))
          refine wpQuiet_nil ?_
          intro w1 hu
          have hbe : Below w.heap.size w w1 := hb.trans ((after_of hu).mono hb.size)
          clear hu
          go_wp2
          exact ⟨⟨k + 1, by omega, by go_num, by show _ = _; rw [hr.out, hst.out, hev]; rfl, hbe⟩, by simp [intOf]; omega⟩
      · go_wp2
        go_ret
        exact ⟨ret_bool (by rw [hr.out, rusEqB_end hlt Hne.out]), hb⟩
  · rw [rusEqB_len hne]
    have hnb : ((l.length : Int) != (l'.length : Int)) = true := by simp; omega
    go_enter Try.func30, Try.ntmps30
    go_wp2
    go_ret
    exact ⟨rfl, Below.refl _ _⟩
end Go.Proofs.Ythlddehmebgfoaa
