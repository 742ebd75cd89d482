/- The laws' comparison of parts and of graphs. -/
import Derived.Test.YthlddehmebgfoaaNd4
namespace Go.Proofs.Ythlddehmebgfoaa
open Go.ChangeShapes Go.WideShapes Go.ChangeAt Go.RowKit Go.Deep
set_option linter.unusedVariables false
set_option maxRecDepth 4000

set_option maxHeartbeats 2000000 in
theorem eqNode_any (x y : Nd) (p q : NA) (w : World) (h : NdIn w p x) (h' : NdIn w q y) :
    Calls Try.prog 85 #[ndV x p, ndV y q] w fun e w' => e = .returned (.bool (ndEqB x y)) ∧ Below w.heap.size w w' := by
  obtain ⟨G, hG⟩ : ∃ G, ndEqB x y = G := ⟨_, rfl⟩
  rw [hG]
  have HG : Hid (ndEqB x y = G) := hG
  clear hG
  obtain ⟨w0, hw0⟩ : ∃ w0, w.alloc (.cells (ndC x p) 95) = w0 := ⟨_, rfl⟩
  have hA0 := bx_new w (ndC x p) 95
  have b0 := oBelow_new w (.cells (ndC x p) 95)
  rw [hw0] at hA0 b0
  obtain ⟨w1, hw1⟩ : ∃ w1, w0.alloc (.cells (ndC y q) 95) = w1 := ⟨_, rfl⟩
  have hB0 := bx_new w0 (ndC y q) 95
  have b01 := oBelow_new w0 (.cells (ndC y q) 95)
  rw [hw1] at hB0 b01
  have hA1 := hA0.below b01
  have b1 := b0.trans (b01.mono b0.size)
  obtain ⟨A, hA⟩ : ∃ A, w.heap.size = A := ⟨_, rfl⟩
  obtain ⟨B, hB⟩ : ∃ B, w0.heap.size = B := ⟨_, rfl⟩
  rw [hA] at hA1
  rw [hB] at hB0
  have hi := h.below b1
  have hj := h'.below b1
  clear b0 b01 hA0
  obtain ⟨q0, q1, q2, q3, q4, q5, q6, q7, q8, q9⟩ := hA1.ten
  obtain ⟨r0, r1, r2, r3, r4, r5, r6, r7, r8, r9⟩ := hB0.ten
  simp only [Nat.zero_add] at q0 q1 q2 q3 q4 q5 q6 q7 q8 q9 r0 r1 r2 r3 r4 r5 r6 r7 r8 r9
  unfold ndV
  unfold ndC at hw0 hw1 ⊢
  by_cases h0 : x.kd = y.kd
  case neg =>
    have n0 : (x.kd != y.kd) = true := by simpa using h0
    have hf : ndEqB x y = false := by simp [ndEqB, h0]
    clear h0
    go_enter Try.func85, Try.ntmps85
    go_wp2
    go_ret
    exact ⟨ret_bool (by rw [← HG.out, hf]), b1⟩
  have n0 : (x.kd != y.kd) = false := by simpa using h0
  have H0 : Hid (x.kd = y.kd) := h0
  clear h0
  by_cases h1 : x.sy = y.sy
  case neg =>
    have n1 : (x.sy != y.sy) = true := by simpa using h1
    have hf : ndEqB x y = false := by simp [ndEqB, h1]
    clear h1
    go_enter Try.func85, Try.ntmps85
    go_wp2
    go_ret
    exact ⟨ret_bool (by rw [← HG.out, hf]), b1⟩
  have n1 : (x.sy != y.sy) = false := by simpa using h1
  have H1 : Hid (x.sy = y.sy) := h1
  clear h1
  by_cases h2 : x.nn = y.nn
  case neg =>
    have n2 : (x.nn != y.nn) = true := by simpa using h2
    have hf : ndEqB x y = false := by simp [ndEqB, h2]
    clear h2
    go_enter Try.func85, Try.ntmps85
    go_wp2
    go_ret
    exact ⟨ret_bool (by rw [← HG.out, hf]), b1⟩
  have n2 : (x.nn != y.nn) = false := by simpa using h2
  have H2 : Hid (x.nn = y.nn) := h2
  clear h2
  go_enter Try.func85, Try.ntmps85
  go_wp2_with fail
  refine (eqIntS_any _ _ _ _ x.ks y.ks _ hi.ks hj.ks).mono ?_
  rintro e w2 ⟨rfl, hb2⟩
  have b2 := b1.trans (hb2.mono b1.size)
  have hA2 := hA1.below hb2
  have hB2 := hB0.below hb2
  have hi2 := hi.below hb2
  have hj2 := hj.below hb2
  clear q0 q1 q2 q3 q4 q5 q6 q7 q8 q9 r0 r1 r2 r3 r4 r5 r6 r7 r8 r9
  obtain ⟨q0, q1, q2, q3, q4, q5, q6, q7, q8, q9⟩ := hA2.ten
  obtain ⟨r0, r1, r2, r3, r4, r5, r6, r7, r8, r9⟩ := hB2.ten
  simp only [Nat.zero_add] at q0 q1 q2 q3 q4 q5 q6 q7 q8 q9 r0 r1 r2 r3 r4 r5 r6 r7 r8 r9
  cases g1 : intsEqB x.ks y.ks
  case false =>
    have hf : ndEqB x y = false := by simp [ndEqB, g1]
    clear g1
    go_wp2
    go_ret
    exact ⟨ret_bool (by rw [← HG.out, hf]), b2⟩
  go_wp2_with fail
  refine (eqPair_any _ _ _ _ _ _ _ _ x.pl x.pr y.pl y.pr _ hi2.pl hi2.pr hj2.pl hj2.pr).mono ?_
  rintro e w3 ⟨rfl, hb3⟩
  have b3 := b2.trans (hb3.mono b2.size)
  have hA3 := hA2.below hb3
  have hB3 := hB2.below hb3
  have hi3 := hi2.below hb3
  have hj3 := hj2.below hb3
  clear q0 q1 q2 q3 q4 q5 q6 q7 q8 q9 r0 r1 r2 r3 r4 r5 r6 r7 r8 r9
  obtain ⟨q0, q1, q2, q3, q4, q5, q6, q7, q8, q9⟩ := hA3.ten
  obtain ⟨r0, r1, r2, r3, r4, r5, r6, r7, r8, r9⟩ := hB3.ten
  simp only [Nat.zero_add] at q0 q1 q2 q3 q4 q5 q6 q7 q8 q9 r0 r1 r2 r3 r4 r5 r6 r7 r8 r9
  cases g2 : pairEqB x.pl x.pr y.pl y.pr
  case false =>
    have hf : ndEqB x y = false := by simp [ndEqB, g2]
    clear g2
    go_wp2
    go_ret
    exact ⟨ret_bool (by rw [← HG.out, hf]), b3⟩
  go_wp2_with fail
  refine (eqSpan_any _ _ _ _ _ _ _ _ x.sl x.sm y.sl y.sm _ hi3.sl hi3.sm hj3.sl hj3.sm).mono ?_
  rintro e w4 ⟨rfl, hb4⟩
  have b4 := b3.trans (hb4.mono b3.size)
  have hA4 := hA3.below hb4
  have hB4 := hB3.below hb4
  have hi4 := hi3.below hb4
  have hj4 := hj3.below hb4
  clear q0 q1 q2 q3 q4 q5 q6 q7 q8 q9 r0 r1 r2 r3 r4 r5 r6 r7 r8 r9
  obtain ⟨q0, q1, q2, q3, q4, q5, q6, q7, q8, q9⟩ := hA4.ten
  obtain ⟨r0, r1, r2, r3, r4, r5, r6, r7, r8, r9⟩ := hB4.ten
  simp only [Nat.zero_add] at q0 q1 q2 q3 q4 q5 q6 q7 q8 q9 r0 r1 r2 r3 r4 r5 r6 r7 r8 r9
  cases g3 : spanEqB x.sl x.sm y.sl y.sm
  case false =>
    have hf : ndEqB x y = false := by simp [ndEqB, g3]
    clear g3
    go_wp2
    go_ret
    exact ⟨ret_bool (by rw [← HG.out, hf]), b4⟩
  go_wp2_with fail
  refine (eqOccS_any _ _ _ _ x.du y.du _ hi4.du hj4.du).mono ?_
  rintro e w5 ⟨rfl, hb5⟩
  have b5 := b4.trans (hb5.mono b4.size)
  have hA5 := hA4.below hb5
  have hB5 := hB4.below hb5
  clear q0 q1 q2 q3 q4 q5 q6 q7 q8 q9 r0 r1 r2 r3 r4 r5 r6 r7 r8 r9
  obtain ⟨q0, q1, q2, q3, q4, q5, q6, q7, q8, q9⟩ := hA5.ten
  obtain ⟨r0, r1, r2, r3, r4, r5, r6, r7, r8, r9⟩ := hB5.ten
  simp only [Nat.zero_add] at q0 q1 q2 q3 q4 q5 q6 q7 q8 q9 r0 r1 r2 r3 r4 r5 r6 r7 r8 r9
  cases g4 : occsEqB x.du y.du
  case false =>
    have hf : ndEqB x y = false := by simp [ndEqB, g4]
    clear g4
    go_wp2
    go_ret
    exact ⟨ret_bool (by rw [← HG.out, hf]), b5⟩
  by_cases h5 : x.mn = y.mn
  case neg =>
    have n5 : (x.mn != y.mn) = true := by simpa using h5
    have hf : ndEqB x y = false := by simp [ndEqB, h5]
    clear h5 g1 g2 g3 g4
    go_wp2
    go_ret
    exact ⟨ret_bool (by rw [← HG.out, hf]), b5⟩
  have n5 : (x.mn != y.mn) = false := by simpa using h5
  have hf : ndEqB x y = true := by simp [ndEqB, H0.out, H1.out, H2.out, h5, g1, g2, g3, g4]
  clear h5 g1 g2 g3 g4
  go_wp2
  go_ret
  exact ⟨ret_bool (by rw [← HG.out, hf]), b5⟩

set_option maxHeartbeats 1000000 in
theorem eqNodeS_any (a a' : Option Addr) (cap cap' : Nat) (l l' : List Nd) (w : World) (h : Nds w a l) (h' : Nds w a' l') :
    Calls Try.prog 74 #[.slice a l.length cap, .slice a' l'.length cap'] w fun e w' => e = .returned (.bool (ndsEqB l l')) ∧ Below w.heap.size w w' := by
  have hn := h.len
  have hn' := h'.len
  unfold maxLen at hn hn'
  by_cases hne : l.length = l'.length
  · have hf : Hid (ndsEqB l l' = ndsEqB (l.drop 0) (l'.drop 0)) := rfl
    have hnb : ((l.length : Int) != (l'.length : Int)) = false := by simp [hne]
    have Hne : Hid (l.length = l'.length) := hne
    have hle : l.length ≤ l'.length := by omega
    clear hne
    go_enter Try.func74, Try.ntmps74
    go_wp2
    go_loopw [5] (fun i wr => ∃ k : Nat, k ≤ l.length ∧ i = .int .i64 k ∧ Hid (ndsEqB l l' = ndsEqB (l.drop k) (l'.drop k)) ∧ Below w.heap.size w wr) (fun i _ => l.length - (intOf i).toNat)
    case atStart => exact ⟨0, Nat.zero_le _, rfl, hf, Below.refl _ _⟩
    case round =>
      obtain ⟨k, hk, rfl, hr, hb⟩ := hrel
      by_cases hlt : k < l.length
      · obtain ⟨b, off, p, rfl, hbl, hc, hids⟩ := (h.below hb).at hlt
        obtain ⟨b', off', p', rfl, hbl', hd, hids'⟩ := (h'.below hb).at (k := k) (by omega)
        have hst : Hid (ndsEqB (l.drop k) (l'.drop k) = _) := ndsEqB_step hlt (show k < l'.length by omega)
        have hlt' : k < l'.length := by omega
        generalize l[k] = o at hc hids hst
        generalize l'[k] = o' at hd hids' hst
        obtain ⟨c0, c1, c2, c3, c4, c5, c6, c7, c8, c9⟩ := hc
        obtain ⟨d0, d1, d2, d3, d4, d5, d6, d7, d8, d9⟩ := hd
        have hcall := fun (u : After wr) => calls_after (u := u) (eqNode_any o o' p p' u.v (hids.below u.h) (hids'.below u.h))
        unfold ndV ndC at hcall
        have a0 := fun u : After wr => u.cell c0 hbl
        have a1 := fun u : After wr => u.cell c1 hbl
        have a2 := fun u : After wr => u.cell c2 hbl
        have a3 := fun u : After wr => u.cell c3 hbl
        have a4 := fun u : After wr => u.cell c4 hbl
        have a5 := fun u : After wr => u.cell c5 hbl
        have a6 := fun u : After wr => u.cell c6 hbl
        have a7 := fun u : After wr => u.cell c7 hbl
        have a8 := fun u : After wr => u.cell c8 hbl
        have a9 := fun u : After wr => u.cell c9 hbl
        have g0 := fun u : After wr => u.cell d0 hbl'
        have g1 := fun u : After wr => u.cell d1 hbl'
        have g2 := fun u : After wr => u.cell d2 hbl'
        have g3 := fun u : After wr => u.cell d3 hbl'
        have g4 := fun u : After wr => u.cell d4 hbl'
        have g5 := fun u : After wr => u.cell d5 hbl'
        have g6 := fun u : After wr => u.cell d6 hbl'
        have g7 := fun u : After wr => u.cell d7 hbl'
        have g8 := fun u : After wr => u.cell d8 hbl'
        have g9 := fun u : After wr => u.cell d9 hbl'
        cases hev : ndEqB o o'
        · rw [hev] at hcall
          go_wp2
          have hany := after_any
          refine wp_region_after (by kernel_rfl) (by kernel_rfl) ?_
          repeat (go_big_quiet_step ((go_at_call 85; refine hcall _)))
          refine wpQuiet_nil ?_
          intro w1 hu
          have hbe : Below w.heap.size w w1 := hb.trans ((after_of hu).mono hb.size)
          clear hu
          go_wp2
          go_ret
          exact ⟨ret_bool (by rw [hr.out, hst.out, hev]; rfl), hbe⟩
        · rw [hev] at hcall
          go_wp2
          have hany := after_any
          refine wp_region_after (by kernel_rfl) (by kernel_rfl) ?_
          repeat (go_big_quiet_step ((go_at_call 85; refine hcall _)))
          refine wpQuiet_nil ?_
          intro w1 hu
          have hbe : Below w.heap.size w w1 := hb.trans ((after_of hu).mono hb.size)
          clear hu
          go_wp2
          exact ⟨⟨k + 1, by omega, by go_num, by show _ = _; rw [hr.out, hst.out, hev]; rfl, hbe⟩, by simp [intOf]; omega⟩
      · go_wp2
        go_ret
        exact ⟨ret_bool (by rw [hr.out, ndsEqB_end hlt Hne.out]), hb⟩
  · rw [ndsEqB_len hne]
    have hnb : ((l.length : Int) != (l'.length : Int)) = true := by simp; omega
    go_enter Try.func74, Try.ntmps74
    go_wp2
    go_ret
    exact ⟨rfl, Below.refl _ _⟩

set_option maxHeartbeats 2000000 in
theorem eqGraph_any (m : Int) (a : Option Addr) (cap : Nat) (l : List Nd) (se nw : Int) (fu : Bool) (m' : Int) (a' : Option Addr) (cap' : Nat) (l' : List Nd) (se' nw' : Int) (fu' : Bool) (w : World) (h : Nds w a l) (h' : Nds w a' l') :
    Calls Try.prog 52 #[.agg (gC m a l.length cap se nw fu), .agg (gC m' a' l'.length cap' se' nw' fu')] w fun e w' => e = .returned (.bool (grEqB m l se nw fu m' l' se' nw' fu')) ∧ Below w.heap.size w w' := by
  obtain ⟨G, hG⟩ : ∃ G, grEqB m l se nw fu m' l' se' nw' fu' = G := ⟨_, rfl⟩
  rw [hG]
  have HG : Hid (grEqB m l se nw fu m' l' se' nw' fu' = G) := hG
  clear hG
  obtain ⟨w0, hw0⟩ : ∃ w0, w.alloc (.cells (gC m a l.length cap se nw fu) 50) = w0 := ⟨_, rfl⟩
  have hA0 := bx_new w (gC m a l.length cap se nw fu) 50
  have b0 := oBelow_new w (.cells (gC m a l.length cap se nw fu) 50)
  rw [hw0] at hA0 b0
  obtain ⟨w1, hw1⟩ : ∃ w1, w0.alloc (.cells (gC m' a' l'.length cap' se' nw' fu') 50) = w1 := ⟨_, rfl⟩
  have hB0 := bx_new w0 (gC m' a' l'.length cap' se' nw' fu') 50
  have b01 := oBelow_new w0 (.cells (gC m' a' l'.length cap' se' nw' fu') 50)
  rw [hw1] at hB0 b01
  have hA1 := hA0.below b01
  have b1 := b0.trans (b01.mono b0.size)
  obtain ⟨A, hA⟩ : ∃ A, w.heap.size = A := ⟨_, rfl⟩
  obtain ⟨B, hB⟩ : ∃ B, w0.heap.size = B := ⟨_, rfl⟩
  rw [hA] at hA1
  rw [hB] at hB0
  clear b0 b01 hA0
  obtain ⟨q0, q1, q2, q3, q4⟩ := hA1.five
  obtain ⟨r0, r1, r2, r3, r4⟩ := hB0.five
  unfold gC at hw0 hw1 ⊢
  by_cases h0 : m = m'
  case neg =>
    have n0 : (m != m') = true := by simpa using h0
    have hf : grEqB m l se nw fu m' l' se' nw' fu' = false := by simp [grEqB, h0]
    clear h0
    go_enter Try.func52, Try.ntmps52
    go_wp2
    go_ret
    exact ⟨ret_bool (by rw [← HG.out, hf]), b1⟩
  have n0 : (m != m') = false := by simpa using h0
  have H0 : Hid (m = m') := h0
  clear h0
  go_enter Try.func52, Try.ntmps52
  go_wp2_with fail
  refine (eqNodeS_any _ _ _ _ l l' _ (h.below b1) (h'.below b1)).mono ?_
  rintro e w2 ⟨rfl, hb2⟩
  have b2 := b1.trans (hb2.mono b1.size)
  have hA2 := hA1.below hb2
  have hB2 := hB0.below hb2
  clear q0 q1 q2 q3 q4 r0 r1 r2 r3 r4
  obtain ⟨q0, q1, q2, q3, q4⟩ := hA2.five
  obtain ⟨r0, r1, r2, r3, r4⟩ := hB2.five
  cases g1 : ndsEqB l l'
  case false =>
    have hf : grEqB m l se nw fu m' l' se' nw' fu' = false := by simp [grEqB, g1]
    clear g1
    go_wp2
    go_ret
    exact ⟨ret_bool (by rw [← HG.out, hf]), b2⟩
  have G1 : Hid (ndsEqB l l' = true) := g1
  clear g1
  by_cases h1 : se = se'
  case neg =>
    have n1 : (se != se') = true := by simpa using h1
    have hf : grEqB m l se nw fu m' l' se' nw' fu' = false := by simp [grEqB, h1]
    clear h1
    go_wp2
    go_ret
    exact ⟨ret_bool (by rw [← HG.out, hf]), b2⟩
  have n1 : (se != se') = false := by simpa using h1
  have H1 : Hid (se = se') := h1
  clear h1
  by_cases h2 : nw = nw'
  case neg =>
    have n2 : (nw != nw') = true := by simpa using h2
    have hf : grEqB m l se nw fu m' l' se' nw' fu' = false := by simp [grEqB, h2]
    clear h2
    go_wp2
    go_ret
    exact ⟨ret_bool (by rw [← HG.out, hf]), b2⟩
  have n2 : (nw != nw') = false := by simpa using h2
  have H2 : Hid (nw = nw') := h2
  clear h2
  have hf : Hid (grEqB m l se nw fu m' l' se' nw' fu' = decide (fu = fu')) := by show _ = _; simp [grEqB, H0.out, H1.out, H2.out, G1.out]
  cases fu <;> cases fu'
  all_goals go_wp2
  all_goals go_ret
  all_goals exact ⟨ret_bool (by rw [← HG.out, hf.out]; rfl), b2⟩
end Go.Proofs.Ythlddehmebgfoaa
