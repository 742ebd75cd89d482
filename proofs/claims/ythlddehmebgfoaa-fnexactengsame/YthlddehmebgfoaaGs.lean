/- Graphs compared by the program and by the specification. -/
import Derived.Test.YthlddehmebgfoaaNd5
import Derived.Test.YthlddehmebgfoaaSpan2
namespace Go.Proofs.Ythlddehmebgfoaa
open Go.ChangeShapes Go.WideShapes Go.ChangeAt Go.RowKit Go.Deep
set_option linter.unusedVariables false
set_option maxRecDepth 4000

set_option maxHeartbeats 1000000 in
theorem equalInts_any (a a' : Option Addr) (cap cap' : Nat) (l l' : List Int) (w : World) (h : Ints w a l) (h' : Ints w a' l') :
    Calls Try.prog 27 #[.slice a l.length cap, .slice a' l'.length cap'] w fun e w' => e = .returned (.bool (intsEqB l l')) ∧ Below w.heap.size w w' := by
  have hn := h.len
  have hn' := h'.len
  unfold maxLen at hn hn'
  by_cases hne : l.length = l'.length
  · have hf : Hid (intsEqB l l' = intsEqB (l.drop 0) (l'.drop 0)) := rfl
    have hnb : ((l.length : Int) != (l'.length : Int)) = false := by simp [hne]
    have Hne : Hid (l.length = l'.length) := hne
    have hle : l.length ≤ l'.length := by omega
    clear hne
    go_enter Try.func27, Try.ntmps27
    go_wp2
    go_loopw [5, 13] (fun j i wr => ∃ k : Nat, k ≤ l.length ∧ i = .int .i64 k ∧ Hid (intsEqB l l' = intsEqB (l.drop k) (l'.drop k)) ∧ Below w.heap.size w wr) (fun _ i _ => l.length - (intOf i).toNat)
    case atStart => exact ⟨0, Nat.zero_le _, rfl, hf, Below.refl _ _⟩
    case round =>
      obtain ⟨k, hk, rfl, hr, hb⟩ := hrel
      by_cases hlt : k < l.length
      · obtain ⟨b, off, rfl, hbl, hc⟩ := (h.below hb).cells (by omega)
        have c0 := hc k hlt
        obtain ⟨b', off', rfl, hbl', hc'⟩ := (h'.below hb).cells (by omega)
        have d0 := hc' k (by omega)
        clear hc hc'
        have hst : Hid (intsEqB (l.drop k) (l'.drop k) = _) := intsEqB_step hlt (show k < l'.length by omega)
        have hlt' : k < l'.length := by omega
        generalize l[k] = ek at c0 hst
        generalize l'[k] = ek' at d0 hst
        by_cases hev : ek = ek'
        · have hq : (ek != ek') = false := by simp [hev]
          have hd : Hid (decide (ek = ek') = true) := by show _ = _; simp [hev]
          clear hev
          go_wp2
          go_quiet (fail)
          have hbe : Below w.heap.size w (wr.drewN nq) := hb.trans ⟨rfl, rfl, rfl, Nat.le_refl _, fun _ _ => rfl⟩
          go_wp2
          exact ⟨⟨k + 1, by omega, by go_num, by show _ = _; rw [hr.out, hst.out, hd.out]; rfl, hbe⟩, by simp [intOf]; omega⟩
        · have hq : (ek != ek') = true := by simpa using hev
          have hd : Hid (decide (ek = ek') = false) := by show _ = _; simp [hev]
          clear hev
          go_wp2
          go_quiet (fail)
          have hbe : Below w.heap.size w (wr.drewN nq) := hb.trans ⟨rfl, rfl, rfl, Nat.le_refl _, fun _ _ => rfl⟩
          go_wp2
          go_ret
          exact ⟨ret_bool (by rw [hr.out, hst.out, hd.out]; rfl), hbe⟩
      · go_wp2
        go_ret
        exact ⟨ret_bool (by rw [hr.out, intsEqB_end hlt Hne.out]), hb⟩
  · rw [intsEqB_len hne]
    have hnb : ((l.length : Int) != (l'.length : Int)) = true := by simp; omega
    go_enter Try.func27, Try.ntmps27
    go_wp2
    go_ret
    exact ⟨rfl, Below.refl _ _⟩

set_option maxHeartbeats 4000000 in
theorem implNodeSame_any (x y : Nd) (p q : NA) (w : World) (h : NdIn w p x) (h' : NdIn w q y) :
    Calls Try.prog 48 #[ndV x p, ndV y q] w fun e w' => e = .returned (.bool (ndEqB x y)) ∧ Below w.heap.size w w' := by
  obtain ⟨G, hG⟩ : ∃ G, ndEqB x y = G := ⟨_, rfl⟩
  rw [hG]
  have HG : Hid (ndEqB x y = G) := hG
  clear hG
  obtain ⟨w0, hw0⟩ : ∃ w0, w.alloc (.cells (ndC x p) 95) = w0 := ⟨_, rfl⟩
  have hA0 := bx_new w (ndC x p) 95
  have b0 := oBelow_new w (.cells (ndC x p) 95)
  rw [hw0] at hA0 b0
  obtain ⟨w1, hw1⟩ : ∃ w1, w0.alloc (.cells (ndC y q) 95) = w1 := ⟨_, rfl⟩
  have hB0 := bx_new w0 (ndC y q) 95
  have b01 := oBelow_new w0 (.cells (ndC y q) 95)
  rw [hw1] at hB0 b01
  have hA1 := hA0.below b01
  have b1 := b0.trans (b01.mono b0.size)
  obtain ⟨A, hA⟩ : ∃ A, w.heap.size = A := ⟨_, rfl⟩
  obtain ⟨B, hB⟩ : ∃ B, w0.heap.size = B := ⟨_, rfl⟩
  rw [hA] at hA1
  rw [hB] at hB0
  have hi := h.below b1
  have hj := h'.below b1
  clear b0 b01 hA0
  obtain ⟨q0, q1, q2, q3, q4, q5, q6, q7, q8, q9⟩ := hA1.ten
  obtain ⟨r0, r1, r2, r3, r4, r5, r6, r7, r8, r9⟩ := hB0.ten
  simp only [Nat.zero_add] at q0 q1 q2 q3 q4 q5 q6 q7 q8 q9 r0 r1 r2 r3 r4 r5 r6 r7 r8 r9
  unfold ndV
  unfold ndC at hw0 hw1 ⊢
  by_cases h0 : x.kd = y.kd
  case neg =>
    have n0 : (x.kd != y.kd) = true := by simpa using h0
    have hf : ndEqB x y = false := by simp [ndEqB, h0]
    clear h0
    go_enter Try.func48, Try.ntmps48
    go_wp2
    go_ret
    exact ⟨ret_bool (by rw [← HG.out, hf]), b1⟩
  have n0 : (x.kd != y.kd) = false := by simpa using h0
  have H0 : Hid (x.kd = y.kd) := h0
  clear h0
  by_cases h1 : x.sy = y.sy
  case neg =>
    have n1 : (x.sy != y.sy) = true := by simpa using h1
    have hf : ndEqB x y = false := by simp [ndEqB, h1]
    clear h1
    go_enter Try.func48, Try.ntmps48
    go_wp2
    go_ret
    exact ⟨ret_bool (by rw [← HG.out, hf]), b1⟩
  have n1 : (x.sy != y.sy) = false := by simpa using h1
  have H1 : Hid (x.sy = y.sy) := h1
  clear h1
  by_cases h2 : x.nn = y.nn
  case neg =>
    have n2 : (x.nn != y.nn) = true := by simpa using h2
    have hf : ndEqB x y = false := by simp [ndEqB, h2]
    clear h2
    go_enter Try.func48, Try.ntmps48
    go_wp2
    go_ret
    exact ⟨ret_bool (by rw [← HG.out, hf]), b1⟩
  have n2 : (x.nn != y.nn) = false := by simpa using h2
  have H2 : Hid (x.nn = y.nn) := h2
  clear h2
  by_cases h3 : x.mn = y.mn
  case neg =>
    have n3 : (x.mn != y.mn) = true := by simpa using h3
    have hf : ndEqB x y = false := by simp [ndEqB, h3]
    clear h3
    go_enter Try.func48, Try.ntmps48
    go_wp2
    go_ret
    exact ⟨ret_bool (by rw [← HG.out, hf]), b1⟩
  have n3 : (x.mn != y.mn) = false := by simpa using h3
  have H3 : Hid (x.mn = y.mn) := h3
  clear h3
  go_enter Try.func48, Try.ntmps48
  go_wp2_with fail
  refine (equalInts_any _ _ _ _ x.ks y.ks _ hi.ks hj.ks).mono ?_
  rintro e w2 ⟨rfl, hb2⟩
  have b2 := b1.trans (hb2.mono b1.size)
  have hA2 := hA1.below hb2
  have hB2 := hB0.below hb2
  have hi2 := hi.below hb2
  have hj2 := hj.below hb2
  clear q0 q1 q2 q3 q4 q5 q6 q7 q8 q9 r0 r1 r2 r3 r4 r5 r6 r7 r8 r9
  obtain ⟨q0, q1, q2, q3, q4, q5, q6, q7, q8, q9⟩ := hA2.ten
  obtain ⟨r0, r1, r2, r3, r4, r5, r6, r7, r8, r9⟩ := hB2.ten
  simp only [Nat.zero_add] at q0 q1 q2 q3 q4 q5 q6 q7 q8 q9 r0 r1 r2 r3 r4 r5 r6 r7 r8 r9
  cases g1 : intsEqB x.ks y.ks
  case false =>
    have hf : ndEqB x y = false := by simp [ndEqB, g1]
    clear g1
    go_wp2
    go_ret
    exact ⟨ret_bool (by rw [← HG.out, hf]), b2⟩
  have G1 : Hid (intsEqB x.ks y.ks = true) := g1
  clear g1
  go_wp2_with fail
  refine (implPairSame_any _ _ _ _ _ _ _ _ x.pl x.pr y.pl y.pr _ hi2.pl hi2.pr hj2.pl hj2.pr).mono ?_
  rintro e w3 ⟨rfl, hb3⟩
  have b3 := b2.trans (hb3.mono b2.size)
  have hA3 := hA2.below hb3
  have hB3 := hB2.below hb3
  have hi3 := hi2.below hb3
  have hj3 := hj2.below hb3
  clear q0 q1 q2 q3 q4 q5 q6 q7 q8 q9 r0 r1 r2 r3 r4 r5 r6 r7 r8 r9
  obtain ⟨q0, q1, q2, q3, q4, q5, q6, q7, q8, q9⟩ := hA3.ten
  obtain ⟨r0, r1, r2, r3, r4, r5, r6, r7, r8, r9⟩ := hB3.ten
  simp only [Nat.zero_add] at q0 q1 q2 q3 q4 q5 q6 q7 q8 q9 r0 r1 r2 r3 r4 r5 r6 r7 r8 r9
  cases g2 : pairEqB x.pl x.pr y.pl y.pr
  case false =>
    have hf : ndEqB x y = false := by simp [ndEqB, g2]
    clear g2
    go_wp2
    go_ret
    exact ⟨ret_bool (by rw [← HG.out, hf]), b3⟩
  have G2 : Hid (pairEqB x.pl x.pr y.pl y.pr = true) := g2
  clear g2
  go_wp2_with fail
  refine (implSpanSame_any _ _ _ _ _ _ _ _ x.sl x.sm y.sl y.sm _ hi3.sl hi3.sm hj3.sl hj3.sm).mono ?_
  rintro e w4 ⟨rfl, hb4⟩
  have b4 := b3.trans (hb4.mono b3.size)
  have hA4 := hA3.below hb4
  have hB4 := hB3.below hb4
  have hi4 := hi3.below hb4
  have hj4 := hj3.below hb4
  clear q0 q1 q2 q3 q4 q5 q6 q7 q8 q9 r0 r1 r2 r3 r4 r5 r6 r7 r8 r9
  obtain ⟨q0, q1, q2, q3, q4, q5, q6, q7, q8, q9⟩ := hA4.ten
  obtain ⟨r0, r1, r2, r3, r4, r5, r6, r7, r8, r9⟩ := hB4.ten
  simp only [Nat.zero_add] at q0 q1 q2 q3 q4 q5 q6 q7 q8 q9 r0 r1 r2 r3 r4 r5 r6 r7 r8 r9
  cases g3 : spanEqB x.sl x.sm y.sl y.sm
  case false =>
    have hf : ndEqB x y = false := by simp [ndEqB, g3]
    clear g3
    go_wp2
    go_ret
    exact ⟨ret_bool (by rw [← HG.out, hf]), b4⟩
  have G3 : Hid (spanEqB x.sl x.sm y.sl y.sm = true) := g3
  clear g3
  go_wp2_with fail
  refine (implOccsSame_any _ _ _ _ x.du y.du _ hi4.du hj4.du).mono ?_
  rintro e w5 ⟨rfl, hb5⟩
  have b5 := b4.trans (hb5.mono b4.size)
  have hf : ndEqB x y = occsEqB x.du y.du := by simp [ndEqB, H0.out, H1.out, H2.out, H3.out, G1.out, G2.out, G3.out]
  go_wp2
  go_ret
  exact ⟨ret_bool (by rw [← HG.out, hf]), b5⟩

set_option maxHeartbeats 4000000 in
theorem specNodeSame_any (x y : Nd) (p q : NA) (w : World) (h : NdIn w p x) (h' : NdIn w q y) (hx : x.Wf) (hy : y.Wf) :
    Calls Try.prog 40 #[ndV x p, ndV y q] w fun e w' => e = .returned (.bool (ndEqB x y)) ∧ Below w.heap.size w w' := by
  obtain ⟨G, hG⟩ : ∃ G, ndEqB x y = G := ⟨_, rfl⟩
  rw [hG]
  have HG : Hid (ndEqB x y = G) := hG
  clear hG
  obtain ⟨w0, hw0⟩ : ∃ w0, w.alloc (.cells (ndC x p) 95) = w0 := ⟨_, rfl⟩
  have hA0 := bx_new w (ndC x p) 95
  have b0 := oBelow_new w (.cells (ndC x p) 95)
  rw [hw0] at hA0 b0
  obtain ⟨w1, hw1⟩ : ∃ w1, w0.alloc (.cells (ndC y q) 95) = w1 := ⟨_, rfl⟩
  have hB0 := bx_new w0 (ndC y q) 95
  have b01 := oBelow_new w0 (.cells (ndC y q) 95)
  rw [hw1] at hB0 b01
  have hA1 := hA0.below b01
  have b1 := b0.trans (b01.mono b0.size)
  obtain ⟨A, hA⟩ : ∃ A, w.heap.size = A := ⟨_, rfl⟩
  obtain ⟨B, hB⟩ : ∃ B, w0.heap.size = B := ⟨_, rfl⟩
  rw [hA] at hA1
  rw [hB] at hB0
  have hi := h.below b1
  have hj := h'.below b1
  clear b0 b01 hA0
  obtain ⟨q0, q1, q2, q3, q4, q5, q6, q7, q8, q9⟩ := hA1.ten
  obtain ⟨r0, r1, r2, r3, r4, r5, r6, r7, r8, r9⟩ := hB0.ten
  simp only [Nat.zero_add] at q0 q1 q2 q3 q4 q5 q6 q7 q8 q9 r0 r1 r2 r3 r4 r5 r6 r7 r8 r9
  unfold ndV
  unfold ndC at hw0 hw1 ⊢
  by_cases h0 : x.kd = y.kd
  case neg =>
    have n0 : (x.kd != y.kd) = true := by simpa using h0
    have hf : ndEqB x y = false := by simp [ndEqB, h0]
    clear h0
    go_enter Try.func40, Try.ntmps40
    go_wp2
    go_ret
    exact ⟨ret_bool (by rw [← HG.out, hf]), b1⟩
  have n0 : (x.kd != y.kd) = false := by simpa using h0
  have H0 : Hid (x.kd = y.kd) := h0
  clear h0
  by_cases h1 : x.sy = y.sy
  case neg =>
    have n1 : (x.sy != y.sy) = true := by simpa using h1
    have hf : ndEqB x y = false := by simp [ndEqB, h1]
    clear h1
    go_enter Try.func40, Try.ntmps40
    go_wp2
    go_ret
    exact ⟨ret_bool (by rw [← HG.out, hf]), b1⟩
  have n1 : (x.sy != y.sy) = false := by simpa using h1
  have H1 : Hid (x.sy = y.sy) := h1
  clear h1
  by_cases h2 : x.nn = y.nn
  case neg =>
    have n2 : (x.nn != y.nn) = true := by simpa using h2
    have hf : ndEqB x y = false := by simp [ndEqB, h2]
    clear h2
    go_enter Try.func40, Try.ntmps40
    go_wp2
    go_ret
    exact ⟨ret_bool (by rw [← HG.out, hf]), b1⟩
  have n2 : (x.nn != y.nn) = false := by simpa using h2
  have H2 : Hid (x.nn = y.nn) := h2
  clear h2
  by_cases h3 : x.mn = y.mn
  case neg =>
    have n3 : (x.mn != y.mn) = true := by simpa using h3
    have hf : ndEqB x y = false := by simp [ndEqB, h3]
    clear h3
    go_enter Try.func40, Try.ntmps40
    go_wp2
    go_ret
    exact ⟨ret_bool (by rw [← HG.out, hf]), b1⟩
  have n3 : (x.mn != y.mn) = false := by simpa using h3
  have H3 : Hid (x.mn = y.mn) := h3
  clear h3
  have hln := h.ks.len
  have hln' := h'.ks.len
  unfold maxLen at hln hln'
  by_cases h4 : x.ks.length = y.ks.length
  case neg =>
    have n4 : ((x.ks.length : Int) != (y.ks.length : Int)) = true := by simp; omega
    have hf : ndEqB x y = false := by simp [ndEqB, intsEqB_len h4]
    clear h4
    go_enter Try.func40, Try.ntmps40
    go_wp2
    go_ret
    exact ⟨ret_bool (by rw [← HG.out, hf]), b1⟩
  have n4 : ((x.ks.length : Int) != (y.ks.length : Int)) = false := by simp [h4]
  have H4 : Hid (x.ks.length = y.ks.length) := h4
  have hle : x.ks.length ≤ y.ks.length := by omega
  clear h4
  go_enter Try.func40, Try.ntmps40
  go_wp2_with fail
  refine (specPairSame_any _ _ _ _ _ _ _ _ x.pl x.pr y.pl y.pr _ hi.pl hi.pr hj.pl hj.pr hx.pl hx.pr hy.pl hy.pr).mono ?_
  rintro e w2 ⟨rfl, hb2⟩
  have b2 := b1.trans (hb2.mono b1.size)
  have hA2 := hA1.below hb2
  have hB2 := hB0.below hb2
  have hi2 := hi.below hb2
  have hj2 := hj.below hb2
  clear q0 q1 q2 q3 q4 q5 q6 q7 q8 q9 r0 r1 r2 r3 r4 r5 r6 r7 r8 r9
  obtain ⟨q0, q1, q2, q3, q4, q5, q6, q7, q8, q9⟩ := hA2.ten
  obtain ⟨r0, r1, r2, r3, r4, r5, r6, r7, r8, r9⟩ := hB2.ten
  simp only [Nat.zero_add] at q0 q1 q2 q3 q4 q5 q6 q7 q8 q9 r0 r1 r2 r3 r4 r5 r6 r7 r8 r9
  cases g1 : pairEqB x.pl x.pr y.pl y.pr
  case false =>
    have hf : ndEqB x y = false := by simp [ndEqB, g1]
    clear g1
    go_wp2
    go_ret
    exact ⟨ret_bool (by rw [← HG.out, hf]), b2⟩
  have G1 : Hid (pairEqB x.pl x.pr y.pl y.pr = true) := g1
  clear g1
  go_wp2_with fail
  refine (specSpanSame_any _ _ _ _ _ _ _ _ x.sl x.sm y.sl y.sm _ hi2.sl hi2.sm hj2.sl hj2.sm hx.sl hx.sm hy.sl hy.sm).mono ?_
  rintro e w3 ⟨rfl, hb3⟩
  have b3 := b2.trans (hb3.mono b2.size)
  have hA3 := hA2.below hb3
  have hB3 := hB2.below hb3
  have hi3 := hi2.below hb3
  have hj3 := hj2.below hb3
  clear q0 q1 q2 q3 q4 q5 q6 q7 q8 q9 r0 r1 r2 r3 r4 r5 r6 r7 r8 r9
  obtain ⟨q0, q1, q2, q3, q4, q5, q6, q7, q8, q9⟩ := hA3.ten
  obtain ⟨r0, r1, r2, r3, r4, r5, r6, r7, r8, r9⟩ := hB3.ten
  simp only [Nat.zero_add] at q0 q1 q2 q3 q4 q5 q6 q7 q8 q9 r0 r1 r2 r3 r4 r5 r6 r7 r8 r9
  cases g2 : spanEqB x.sl x.sm y.sl y.sm
  case false =>
    have hf : ndEqB x y = false := by simp [ndEqB, g2]
    clear g2
    go_wp2
    go_ret
    exact ⟨ret_bool (by rw [← HG.out, hf]), b3⟩
  have G2 : Hid (spanEqB x.sl x.sm y.sl y.sm = true) := g2
  clear g2
  go_wp2_with fail
  refine (specOccsSame_any _ _ _ _ x.du y.du _ hi3.du hj3.du hx.du hy.du).mono ?_
  rintro e w4 ⟨rfl, hb4⟩
  have b4 := b3.trans (hb4.mono b3.size)
  have hA4 := hA3.below hb4
  have hB4 := hB3.below hb4
  have hi4 := hi3.below hb4
  have hj4 := hj3.below hb4
  clear q0 q1 q2 q3 q4 q5 q6 q7 q8 q9 r0 r1 r2 r3 r4 r5 r6 r7 r8 r9
  obtain ⟨q0, q1, q2, q3, q4, q5, q6, q7, q8, q9⟩ := hA4.ten
  obtain ⟨r0, r1, r2, r3, r4, r5, r6, r7, r8, r9⟩ := hB4.ten
  simp only [Nat.zero_add] at q0 q1 q2 q3 q4 q5 q6 q7 q8 q9 r0 r1 r2 r3 r4 r5 r6 r7 r8 r9
  cases g3 : occsEqB x.du y.du
  case false =>
    have hf : ndEqB x y = false := by simp [ndEqB, g3]
    clear g3
    go_wp2
    go_ret
    exact ⟨ret_bool (by rw [← HG.out, hf]), b4⟩
  have G3 : Hid (occsEqB x.du y.du = true) := g3
  clear g3
  have hf : Hid (ndEqB x y = intsEqB x.ks y.ks) := by show _ = _; simp [ndEqB, H0.out, H1.out, H2.out, H3.out, G1.out, G2.out, G3.out]
  go_wp2
  clear q0 q1 q2 q3 q4 q5 q6 q7 q8 q9 r0 r1 r2 r3 r4 r5 r6 r7 r8 r9 hw0 hw1
  go_loopw [5] (fun i wr => ∃ k : Nat, k ≤ x.ks.length ∧ i = .int .i64 k ∧ Hid (intsEqB x.ks y.ks = intsEqB (x.ks.drop k) (y.ks.drop k)) ∧ Below w4.heap.size w4 wr) (fun i _ => x.ks.length - (intOf i).toNat)
  case atStart => exact ⟨0, Nat.zero_le _, rfl, rfl, Below.refl _ _⟩
  case round =>
    obtain ⟨k, hk, rfl, hr, hb⟩ := hrel
    have be := b4.trans (hb.mono b4.size)
    obtain ⟨q0, q1, q2, q3, q4, q5, q6, q7, q8, q9⟩ := (hA4.below hb).ten
    obtain ⟨r0, r1, r2, r3, r4, r5, r6, r7, r8, r9⟩ := (hB4.below hb).ten
    simp only [Nat.zero_add] at q3 r3
    clear q0 q1 q2 q4 q5 q6 q7 q8 q9 r0 r1 r2 r4 r5 r6 r7 r8 r9
    by_cases hlt : k < x.ks.length
    · obtain ⟨b, off, ha, hbl, hc⟩ := ((hi4.ks).below hb).cells (by omega)
      have c0 := hc k hlt
      obtain ⟨b', off', ha', hbl', hc'⟩ := ((hj4.ks).below hb).cells (by omega)
      have d0 := hc' k (by omega)
      rw [ha] at q3
      rw [ha'] at r3
      clear hc hc'
      have hst : Hid (intsEqB (x.ks.drop k) (y.ks.drop k) = _) := intsEqB_step hlt (show k < y.ks.length by omega)
      have hlt' : k < y.ks.length := by omega
      generalize x.ks[k] = ek at c0 hst
      generalize y.ks[k] = ek' at d0 hst
      by_cases hev : ek = ek'
      · have hq : (ek != ek') = false := by simp [hev]
        have hd : Hid (decide (ek = ek') = true) := by show _ = _; simp [hev]
        clear hev
        go_wp2
        go_quiet (fail)
        have hbe : Below w4.heap.size w4 (wr.drewN nq) := hb.trans ⟨rfl, rfl, rfl, Nat.le_refl _, fun _ _ => rfl⟩
        go_wp2
        exact ⟨⟨k + 1, by omega, by go_num, by show _ = _; rw [hr.out, hst.out, hd.out]; rfl, hbe⟩, by simp [intOf]; omega⟩
      · have hq : (ek != ek') = true := by simpa using hev
        have hd : Hid (decide (ek = ek') = false) := by show _ = _; simp [hev]
        clear hev
        go_wp2
        go_quiet (fail)
        have hbe : Below w4.heap.size w4 (wr.drewN nq) := hb.trans ⟨rfl, rfl, rfl, Nat.le_refl _, fun _ _ => rfl⟩
        go_wp2
        go_ret
        exact ⟨ret_bool (by rw [← HG.out, hf.out, hr.out, hst.out, hd.out]; rfl), b4.trans (hbe.mono b4.size)⟩
    · go_wp2
      go_ret
      exact ⟨ret_bool (by rw [← HG.out, hf.out, hr.out, intsEqB_end hlt H4.out]), be⟩
end Go.Proofs.Ythlddehmebgfoaa
