/- Parts of a graph: are they ok, by the specification; graphs, by the program. -/
import Derived.Test.YtlfejpakmgbpnaaDoorGOk2
namespace Go.Proofs.YtlfejpakmgbpnaaDoor
open Go.ChangeShapes Go.WideShapes Go.ChangeAt Go.RowKit Go.Deep
set_option linter.unusedVariables false
set_option maxRecDepth 4000

def specB (x : Nd) (y : Int) : Bool := decide (kidsG x.kd = x.ks.length) && (decide (0 ≤ x.sy) && decide (x.sy ≤ 4)) && (decide (0 ≤ x.mn) && decide (x.mn ≤ 40)) && pairOkB x.pl x.pr && spanOkB x.sl x.sm && occsOkB x.du &&
  fitG x.kd x.nn && !(decide (x.kd ≠ 7) && decide (0 < x.du.length)) && !(x.ks.any (badK y))
theorem specB_eq (x : Nd) (y now : Int) : (specB x y && !(x.du.any (lateO now))) = (partB x y && holdB x now) := by
  by_cases h : kidsG x.kd = (x.ks.length : Int)
  · have hk := kidsG_in h
    have e : (decide (1 ≤ x.kd) && decide (x.kd ≤ 7)) = true := by simp; omega
    unfold specB partB holdB
    rw [e]
    generalize (decide (0 ≤ x.sy) && decide (x.sy ≤ 4)) = c1
    generalize (decide (0 ≤ x.mn) && decide (x.mn ≤ 40)) = c2
    generalize fitG x.kd x.nn = c3
    generalize (decide (x.kd ≠ 7) && decide (0 < x.du.length)) = c4
    generalize x.ks.any (badK y) = c5
    generalize x.du.any (lateO now) = c6
    generalize pairOkB x.pl x.pr = c7
    generalize spanOkB x.sl x.sm = c8
    generalize occsOkB x.du = c9
    rw [decide_eq_true h]
    cases c1 <;> cases c2 <;> cases c3 <;> cases c4 <;> cases c5 <;> cases c6 <;> cases c7 <;> cases c8 <;> cases c9 <;> rfl
  · simp [specB, partB, h]

set_option maxHeartbeats 8000000 in
theorem specNode_any (x : Nd) (p : NA) (y : Int) (w : World) (h : NdIn w p x) (hy0 : 0 ≤ y) (hy1 : y ≤ 1000) :
    Calls Tryd.prog 11 #[ndV x p, .int .i64 y] w fun e w' => e = .returned (.bool (specB x y)) ∧ Below w.heap.size w w' := by
  obtain ⟨G, hG⟩ : ∃ G, specB x y = G := ⟨_, rfl⟩
  rw [hG]
  have HG : Hid (specB x y = G) := hG
  clear hG
  obtain ⟨w1, hw1⟩ : ∃ w1, w.alloc (.cells (ndC x p) 43) = w1 := ⟨_, rfl⟩
  have hA1 := bx_new w (ndC x p) 43
  have b1 := oBelow_new w (.cells (ndC x p) 43)
  rw [hw1] at hA1 b1
  obtain ⟨A, hA⟩ : ∃ A, w.heap.size = A := ⟨_, rfl⟩
  rw [hA] at hA1
  have hi := h.below b1
  obtain ⟨q0, q1, q2, q3, q4, q5, q6, q7, q8, q9⟩ := hA1.ten
  simp only [Nat.zero_add] at q0 q1 q2 q3 q4 q5 q6 q7 q8 q9
  have hAl := hA1.lt
  unfold ndV
  unfold ndC at hw1 ⊢
  have hln := h.ks.len
  have hld := h.du.len
  unfold maxLen at hln hld
  have a0 := fun u : After w1 => u.cell q0 hAl
  have a1 := fun u : After w1 => u.cell q1 hAl
  have a3 := fun u : After w1 => u.cell q3 hAl
  have a4 := fun u : After w1 => u.cell q4 hAl
  have a5 := fun u : After w1 => u.cell q5 hAl
  have a6 := fun u : After w1 => u.cell q6 hAl
  have a7 := fun u : After w1 => u.cell q7 hAl
  have a8 := fun u : After w1 => u.cell q8 hAl
  have a9 := fun u : After w1 => u.cell q9 hAl
  have hk := fun (u : After w1) => calls_after (u := u) (specKidsG_any x.kd u.v)
  have hp := fun (u : After w1) => calls_after (u := u) (specPairOk_any p.a1 p.a2 p.c1 p.c2 x.pl x.pr u.v (hi.pl.below u.h) (hi.pr.below u.h))
  have hs := fun (u : After w1) => calls_after (u := u) (specSpanOk_any p.a3 p.a4 p.c3 p.c4 x.sl x.sm u.v (hi.sl.below u.h) (hi.sm.below u.h))
  have ho := fun (u : After w1) => calls_after (u := u) (specOccsOk_any p.a5 p.c5 x.du u.v (hi.du.below u.h))
  by_cases h0 : kidsG x.kd = (x.ks.length : Int)
  case neg =>
    have n0 : (kidsG x.kd != (x.ks.length : Int)) = true := by simpa using h0
    have hf : specB x y = false := by simp [specB, h0]
    clear h0
    go_enter Tryd.func11, Tryd.ntmps11
    go_wp2_with fail
    have hany := after_any
    refine wp_region_after (by kernel_rfl) (by kernel_rfl) ?_
    repeat (go_big_quiet_step ((first | (go_at_call 19; refine hk _) | (go_at_call 20; refine hp _) | (go_at_call 21; refine hs _) | (go_at_call 22; refine ho _))))
    refine wpQuiet_nil ?_
    intro w2 hu
    have hb2 := after_of hu
    have b2 := b1.trans (hb2.mono b1.size)
    clear hu
    go_wp2
    go_ret
    exact ⟨ret_bool (by rw [← HG.out, hf]), b2⟩
  have n0 : (kidsG x.kd != (x.ks.length : Int)) = false := by simp [h0]
  have H0 : Hid (kidsG x.kd = (x.ks.length : Int)) := h0
  clear h0
  by_cases h1 : x.sy < 0
  case pos =>
    have n1 : decide (x.sy < 0) = true := by simpa using h1
    have hf : specB x y = false := by
      have : (decide (0 ≤ x.sy)) = false := by simp; omega
      simp only [specB, this, Bool.and_false, Bool.false_and]
    clear h1
    go_enter Tryd.func11, Tryd.ntmps11
    go_wp2_with fail
    have hany := after_any
    refine wp_region_after (by kernel_rfl) (by kernel_rfl) ?_
    repeat (go_big_quiet_step ((first | (go_at_call 19; refine hk _) | (go_at_call 20; refine hp _) | (go_at_call 21; refine hs _) | (go_at_call 22; refine ho _))))
    refine wpQuiet_nil ?_
    intro w2 hu
    have hb2 := after_of hu
    have b2 := b1.trans (hb2.mono b1.size)
    clear hu
    go_wp2
    go_ret
    exact ⟨ret_bool (by rw [← HG.out, hf]), b2⟩
  have n1 : decide (x.sy < 0) = false := by simpa using h1
  have H1 : Hid (¬ (x.sy < 0)) := h1
  clear h1
  by_cases h2 : 5 ≤ x.sy
  case pos =>
    have n2 : decide (5 ≤ x.sy) = true := by simpa using h2
    have hf : specB x y = false := by
      have : (decide (x.sy ≤ 4)) = false := by simp; omega
      simp only [specB, this, Bool.and_false, Bool.false_and]
    clear h2
    go_enter Tryd.func11, Tryd.ntmps11
    go_wp2_with fail
    have hany := after_any
    refine wp_region_after (by kernel_rfl) (by kernel_rfl) ?_
    repeat (go_big_quiet_step ((first | (go_at_call 19; refine hk _) | (go_at_call 20; refine hp _) | (go_at_call 21; refine hs _) | (go_at_call 22; refine ho _))))
    refine wpQuiet_nil ?_
    intro w2 hu
    have hb2 := after_of hu
    have b2 := b1.trans (hb2.mono b1.size)
    clear hu
    go_wp2
    go_ret
    exact ⟨ret_bool (by rw [← HG.out, hf]), b2⟩
  have n2 : decide (5 ≤ x.sy) = false := by simpa using h2
  have H2 : Hid (¬ (5 ≤ x.sy)) := h2
  clear h2
  by_cases h3 : x.mn < 0
  case pos =>
    have n3 : decide (x.mn < 0) = true := by simpa using h3
    have hf : specB x y = false := by
      have : (decide (0 ≤ x.mn)) = false := by simp; omega
      simp only [specB, this, Bool.and_false, Bool.false_and]
    clear h3
    go_enter Tryd.func11, Tryd.ntmps11
    go_wp2_with fail
    have hany := after_any
    refine wp_region_after (by kernel_rfl) (by kernel_rfl) ?_
    repeat (go_big_quiet_step ((first | (go_at_call 19; refine hk _) | (go_at_call 20; refine hp _) | (go_at_call 21; refine hs _) | (go_at_call 22; refine ho _))))
    refine wpQuiet_nil ?_
    intro w2 hu
    have hb2 := after_of hu
    have b2 := b1.trans (hb2.mono b1.size)
    clear hu
    go_wp2
    go_ret
    exact ⟨ret_bool (by rw [← HG.out, hf]), b2⟩
  have n3 : decide (x.mn < 0) = false := by simpa using h3
  have H3 : Hid (¬ (x.mn < 0)) := h3
  clear h3
  by_cases h4 : 40 < x.mn
  case pos =>
    have n4 : decide (40 < x.mn) = true := by simpa using h4
    have hf : specB x y = false := by
      have : (decide (x.mn ≤ 40)) = false := by simp; omega
      simp only [specB, this, Bool.and_false, Bool.false_and]
    clear h4
    go_enter Tryd.func11, Tryd.ntmps11
    go_wp2_with fail
    have hany := after_any
    refine wp_region_after (by kernel_rfl) (by kernel_rfl) ?_
    repeat (go_big_quiet_step ((first | (go_at_call 19; refine hk _) | (go_at_call 20; refine hp _) | (go_at_call 21; refine hs _) | (go_at_call 22; refine ho _))))
    refine wpQuiet_nil ?_
    intro w2 hu
    have hb2 := after_of hu
    have b2 := b1.trans (hb2.mono b1.size)
    clear hu
    go_wp2
    go_ret
    exact ⟨ret_bool (by rw [← HG.out, hf]), b2⟩
  have n4 : decide (40 < x.mn) = false := by simpa using h4
  have H4 : Hid (¬ (40 < x.mn)) := h4
  clear h4
  cases g5 : pairOkB x.pl x.pr
  case false =>
    rw [g5] at hp
    have hf : specB x y = false := by simp [specB, g5]
    clear g5
    go_enter Tryd.func11, Tryd.ntmps11
    go_wp2_with fail
    have hany := after_any
    refine wp_region_after (by kernel_rfl) (by kernel_rfl) ?_
    repeat (go_big_quiet_step ((first | (go_at_call 19; refine hk _) | (go_at_call 20; refine hp _) | (go_at_call 21; refine hs _) | (go_at_call 22; refine ho _))))
    refine wpQuiet_nil ?_
    intro w2 hu
    have hb2 := after_of hu
    have b2 := b1.trans (hb2.mono b1.size)
    clear hu
    go_wp2
    go_ret
    exact ⟨ret_bool (by rw [← HG.out, hf]), b2⟩
  rw [g5] at hp
  have G5 : Hid (pairOkB x.pl x.pr = true) := g5
  clear g5
  cases g6 : spanOkB x.sl x.sm
  case false =>
    rw [g6] at hs
    have hf : specB x y = false := by simp [specB, g6]
    clear g6
    go_enter Tryd.func11, Tryd.ntmps11
    go_wp2_with fail
    have hany := after_any
    refine wp_region_after (by kernel_rfl) (by kernel_rfl) ?_
    repeat (go_big_quiet_step ((first | (go_at_call 19; refine hk _) | (go_at_call 20; refine hp _) | (go_at_call 21; refine hs _) | (go_at_call 22; refine ho _))))
    refine wpQuiet_nil ?_
    intro w2 hu
    have hb2 := after_of hu
    have b2 := b1.trans (hb2.mono b1.size)
    clear hu
    go_wp2
    go_ret
    exact ⟨ret_bool (by rw [← HG.out, hf]), b2⟩
  rw [g6] at hs
  have G6 : Hid (spanOkB x.sl x.sm = true) := g6
  clear g6
  cases g7 : occsOkB x.du
  case false =>
    rw [g7] at ho
    have hf : specB x y = false := by simp [specB, g7]
    clear g7
    go_enter Tryd.func11, Tryd.ntmps11
    go_wp2_with fail
    have hany := after_any
    refine wp_region_after (by kernel_rfl) (by kernel_rfl) ?_
    repeat (go_big_quiet_step ((first | (go_at_call 19; refine hk _) | (go_at_call 20; refine hp _) | (go_at_call 21; refine hs _) | (go_at_call 22; refine ho _))))
    refine wpQuiet_nil ?_
    intro w2 hu
    have hb2 := after_of hu
    have b2 := b1.trans (hb2.mono b1.size)
    clear hu
    go_wp2
    go_ret
    exact ⟨ret_bool (by rw [← HG.out, hf]), b2⟩
  rw [g7] at ho
  have G7 : Hid (occsOkB x.du = true) := g7
  clear g7
  have hf : Hid (specB x y = (fitG x.kd x.nn && !(decide (x.kd ≠ 7) && decide (0 < x.du.length)) && !(x.ks.any (badK y)))) := by
    show _ = _
    have e1 : (decide (0 ≤ x.sy) && decide (x.sy ≤ 4)) = true := by have := H1.out; have := H2.out; simp; omega
    have e2 : (decide (0 ≤ x.mn) && decide (x.mn ≤ 40)) = true := by have := H3.out; have := H4.out; simp; omega
    simp only [specB, H0.out, e1, e2, G5.out, G6.out, G7.out]
    simp
  by_cases h7 : x.kd = 7
  case pos =>
    have n7 : (x.kd == 7) = true := by simpa using h7
    have n7' : (x.kd != 7) = false := by simpa using h7
    by_cases h8 : x.nn < 1
    case pos =>
      have hx : (fitG x.kd x.nn && !(decide (x.kd ≠ 7) && decide (0 < x.du.length))) = false := by
        have : decide (1 ≤ x.nn) = false := by simp; omega
        simp [fitG, h7]; omega
      clear h7
      go_enter Tryd.func11, Tryd.ntmps11
      go_wp2_with fail
      have hany := after_any
      refine wp_region_after (by kernel_rfl) (by kernel_rfl) ?_
      repeat (go_big_quiet_step ((first | (go_at_call 19; refine hk _) | (go_at_call 20; refine hp _) | (go_at_call 21; refine hs _) | (go_at_call 22; refine ho _))))
      refine wpQuiet_nil ?_
      intro w2 hu
      have hb2 := after_of hu
      have b2 := b1.trans (hb2.mono b1.size)
      clear hu
      have hA2 := hA1.below hb2
      clear q0 q1 q2 q3 q4 q5 q6 q7 q8 q9
      obtain ⟨q0, q1, q2, q3, q4, q5, q6, q7, q8, q9⟩ := hA2.ten
      simp only [Nat.zero_add] at q0 q1 q2 q3 q4 q5 q6 q7 q8 q9
      go_wp2
      go_ret
      exact ⟨ret_bool (by rw [← HG.out, hf.out, hx]; rfl), b2⟩
    by_cases h9 : 20 < x.nn
    case pos =>
      have hx : (fitG x.kd x.nn && !(decide (x.kd ≠ 7) && decide (0 < x.du.length))) = false := by simp [fitG, h7]; omega
      clear h7
      go_enter Tryd.func11, Tryd.ntmps11
      go_wp2_with fail
      have hany := after_any
      refine wp_region_after (by kernel_rfl) (by kernel_rfl) ?_
      repeat (go_big_quiet_step ((first | (go_at_call 19; refine hk _) | (go_at_call 20; refine hp _) | (go_at_call 21; refine hs _) | (go_at_call 22; refine ho _))))
      refine wpQuiet_nil ?_
      intro w2 hu
      have hb2 := after_of hu
      have b2 := b1.trans (hb2.mono b1.size)
      clear hu
      have hA2 := hA1.below hb2
      clear q0 q1 q2 q3 q4 q5 q6 q7 q8 q9
      obtain ⟨q0, q1, q2, q3, q4, q5, q6, q7, q8, q9⟩ := hA2.ten
      simp only [Nat.zero_add] at q0 q1 q2 q3 q4 q5 q6 q7 q8 q9
      go_wp2
      go_ret
      exact ⟨ret_bool (by rw [← HG.out, hf.out, hx]; rfl), b2⟩
    have hx : (fitG x.kd x.nn && !(decide (x.kd ≠ 7) && decide (0 < x.du.length))) = true := by simp [fitG, h7]; omega
    clear h7
    go_enter Tryd.func11, Tryd.ntmps11
    go_wp2_with fail
    have hany := after_any
    refine wp_region_after (by kernel_rfl) (by kernel_rfl) ?_
    repeat (go_big_quiet_step ((first | (go_at_call 19; refine hk _) | (go_at_call 20; refine hp _) | (go_at_call 21; refine hs _) | (go_at_call 22; refine ho _))))
    refine wpQuiet_nil ?_
    intro w2 hu
    have hb2 := after_of hu
    have b2 := b1.trans (hb2.mono b1.size)
    clear hu
    have hA2 := hA1.below hb2
    have hi2 := hi.below hb2
    clear q0 q1 q2 q3 q4 q5 q6 q7 q8 q9 a0 a1 a3 a4 a5 a6 a7 a8 a9 hk hp hs ho hw1
    obtain ⟨q0, q1, q2, q3, q4, q5, q6, q7, q8, q9⟩ := hA2.ten
    simp only [Nat.zero_add] at q0 q1 q2 q3 q4 q5 q6 q7 q8 q9
    go_wp2
    clear q0 q1 q2 q3 q4 q5 q6 q7 q8 q9
    go_loopw [5] (fun i wr => ∃ k : Nat, k ≤ x.ks.length ∧ i = .int .i64 k ∧ Hid (x.ks.any (badK y) = (x.ks.drop k).any (badK y)) ∧ wr = w2) (fun i _ => x.ks.length - (intOf i).toNat)
    case atStart => exact ⟨0, Nat.zero_le _, rfl, by show _ = _; simp, rfl⟩
    case round =>
      obtain ⟨k, hk, rfl, hr, hwr⟩ := hrel
      subst hwr
      have q3 := hA2.ten.2.2.2.1
      simp only [Nat.zero_add] at q3
      by_cases hlt : k < x.ks.length
      · obtain ⟨b, off, ha, hbl, hc⟩ := hi2.ks.cells (by omega)
        have c0 := hc k hlt
        rw [ha] at q3
        clear hc
        have hst : Hid ((x.ks.drop k).any (badK y) = _) := any_step hlt
        generalize x.ks[k] = ek at c0 hst
        by_cases e0 : ek < 0
        · have hbd : Hid (badK y ek = true) := by show _ = _; simp [badK]; omega
          go_wp2
          go_ret
          exact ⟨ret_bool (by rw [← HG.out, hf.out, hx, hr.out, hst.out, hbd.out]; rfl), by first | exact b2 | (rw [← hA]; exact b2)⟩
        · by_cases e1 : y ≤ ek
          · have hbd : Hid (badK y ek = true) := by show _ = _; simp [badK]; omega
            go_wp2
            go_ret
            exact ⟨ret_bool (by rw [← HG.out, hf.out, hx, hr.out, hst.out, hbd.out]; rfl), by first | exact b2 | (rw [← hA]; exact b2)⟩
          · have hbd : Hid (badK y ek = false) := by show _ = _; simp [badK]; omega
            go_wp2
            exact ⟨⟨k + 1, by omega, by go_num, by show _ = _; rw [hr.out, hst.out, hbd.out]; rfl, by first | rfl | trivial⟩, by simp [intOf]; omega⟩
      · go_wp2
        go_ret
        exact ⟨ret_bool (by rw [← HG.out, hf.out, hx, hr.out, any_end hlt]; rfl), by first | exact b2 | (rw [← hA]; exact b2)⟩
  case neg =>
    have n7 : (x.kd == 7) = false := by simpa using h7
    have n7' : (x.kd != 7) = true := by simpa using h7
    by_cases h8 : x.nn = 0
    case neg =>
      have n8 : (x.nn != 0) = true := by simpa using h8
      have hx : (fitG x.kd x.nn && !(decide (x.kd ≠ 7) && decide (0 < x.du.length))) = false := by simp [fitG, h7]; omega
      clear h7 h8
      go_enter Tryd.func11, Tryd.ntmps11
      go_wp2_with fail
      have hany := after_any
      refine wp_region_after (by kernel_rfl) (by kernel_rfl) ?_
      repeat (go_big_quiet_step ((first | (go_at_call 19; refine hk _) | (go_at_call 20; refine hp _) | (go_at_call 21; refine hs _) | (go_at_call 22; refine ho _))))
      refine wpQuiet_nil ?_
      intro w2 hu
      have hb2 := after_of hu
      have b2 := b1.trans (hb2.mono b1.size)
      clear hu
      have hA2 := hA1.below hb2
      clear q0 q1 q2 q3 q4 q5 q6 q7 q8 q9
      obtain ⟨q0, q1, q2, q3, q4, q5, q6, q7, q8, q9⟩ := hA2.ten
      simp only [Nat.zero_add] at q0 q1 q2 q3 q4 q5 q6 q7 q8 q9
      go_wp2
      go_ret
      exact ⟨ret_bool (by rw [← HG.out, hf.out, hx]; rfl), b2⟩
    have n8 : (x.nn != 0) = false := by simpa using h8
    by_cases h9 : 0 < x.du.length
    case pos =>
      have n9 : (0 : Int) < (x.du.length : Int) := by omega
      have hx : (fitG x.kd x.nn && !(decide (x.kd ≠ 7) && decide (0 < x.du.length))) = false := by
        have e7 : decide (x.kd ≠ 7) = true := decide_eq_true h7
        rw [e7, decide_eq_true h9]; simp
      clear h7 h8 h9
      go_enter Tryd.func11, Tryd.ntmps11
      go_wp2_with fail
      have hany := after_any
      refine wp_region_after (by kernel_rfl) (by kernel_rfl) ?_
      repeat (go_big_quiet_step ((first | (go_at_call 19; refine hk _) | (go_at_call 20; refine hp _) | (go_at_call 21; refine hs _) | (go_at_call 22; refine ho _))))
      refine wpQuiet_nil ?_
      intro w2 hu
      have hb2 := after_of hu
      have b2 := b1.trans (hb2.mono b1.size)
      clear hu
      have hA2 := hA1.below hb2
      clear q0 q1 q2 q3 q4 q5 q6 q7 q8 q9
      obtain ⟨q0, q1, q2, q3, q4, q5, q6, q7, q8, q9⟩ := hA2.ten
      simp only [Nat.zero_add] at q0 q1 q2 q3 q4 q5 q6 q7 q8 q9
      go_wp2
      go_ret
      exact ⟨ret_bool (by rw [← HG.out, hf.out, hx]; rfl), b2⟩
    have n9 : ¬ (0 : Int) < (x.du.length : Int) := by omega
    have hx : (fitG x.kd x.nn && !(decide (x.kd ≠ 7) && decide (0 < x.du.length))) = true := by
      rw [decide_eq_false h9]; simp [fitG, h7, h8]
    clear h7 h8 h9
    go_enter Tryd.func11, Tryd.ntmps11
    go_wp2_with fail
    have hany := after_any
    refine wp_region_after (by kernel_rfl) (by kernel_rfl) ?_
    repeat (go_big_quiet_step ((first | (go_at_call 19; refine hk _) | (go_at_call 20; refine hp _) | (go_at_call 21; refine hs _) | (go_at_call 22; refine ho _))))
    refine wpQuiet_nil ?_
    intro w2 hu
    have hb2 := after_of hu
    have b2 := b1.trans (hb2.mono b1.size)
    clear hu
    have hA2 := hA1.below hb2
    have hi2 := hi.below hb2
    clear q0 q1 q2 q3 q4 q5 q6 q7 q8 q9 a0 a1 a3 a4 a5 a6 a7 a8 a9 hk hp hs ho hw1
    obtain ⟨q0, q1, q2, q3, q4, q5, q6, q7, q8, q9⟩ := hA2.ten
    simp only [Nat.zero_add] at q0 q1 q2 q3 q4 q5 q6 q7 q8 q9
    go_wp2
    clear q0 q1 q2 q3 q4 q5 q6 q7 q8 q9
    go_loopw [5] (fun i wr => ∃ k : Nat, k ≤ x.ks.length ∧ i = .int .i64 k ∧ Hid (x.ks.any (badK y) = (x.ks.drop k).any (badK y)) ∧ wr = w2) (fun i _ => x.ks.length - (intOf i).toNat)
    case atStart => exact ⟨0, Nat.zero_le _, rfl, by show _ = _; simp, rfl⟩
    case round =>
      obtain ⟨k, hk, rfl, hr, hwr⟩ := hrel
      subst hwr
      have q3 := hA2.ten.2.2.2.1
      simp only [Nat.zero_add] at q3
      by_cases hlt : k < x.ks.length
      · obtain ⟨b, off, ha, hbl, hc⟩ := hi2.ks.cells (by omega)
        have c0 := hc k hlt
        rw [ha] at q3
        clear hc
        have hst : Hid ((x.ks.drop k).any (badK y) = _) := any_step hlt
        generalize x.ks[k] = ek at c0 hst
        by_cases e0 : ek < 0
        · have hbd : Hid (badK y ek = true) := by show _ = _; simp [badK]; omega
          go_wp2
          go_ret
          exact ⟨ret_bool (by rw [← HG.out, hf.out, hx, hr.out, hst.out, hbd.out]; rfl), by first | exact b2 | (rw [← hA]; exact b2)⟩
        · by_cases e1 : y ≤ ek
          · have hbd : Hid (badK y ek = true) := by show _ = _; simp [badK]; omega
            go_wp2
            go_ret
            exact ⟨ret_bool (by rw [← HG.out, hf.out, hx, hr.out, hst.out, hbd.out]; rfl), by first | exact b2 | (rw [← hA]; exact b2)⟩
          · have hbd : Hid (badK y ek = false) := by show _ = _; simp [badK]; omega
            go_wp2
            exact ⟨⟨k + 1, by omega, by go_num, by show _ = _; rw [hr.out, hst.out, hbd.out]; rfl, by first | rfl | trivial⟩, by simp [intOf]; omega⟩
      · go_wp2
        go_ret
        exact ⟨ret_bool (by rw [← HG.out, hf.out, hx, hr.out, any_end hlt]; rfl), by first | exact b2 | (rw [← hA]; exact b2)⟩
end Go.Proofs.YtlfejpakmgbpnaaDoor
