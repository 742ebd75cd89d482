/- Both EngSame. -/
import Derived.Test.YthlddehmebgfoaaNx4
namespace Go.Proofs.Ythlddehmebgfoaa
open Go.ChangeShapes Go.WideShapes Go.ChangeAt Go.RowKit Go.Deep
set_option linter.unusedVariables false
set_option maxRecDepth 4000

set_option maxHeartbeats 4000000 in
theorem implEngSame_any (x y : Nx) (B0 d0 d1 d2 d3 d4 : Nat) (q : XA) (w : World) (h : NxOwn w B0 d0 d1 d2 d3 d4 x) (h' : NxIn w q y) (hs : rusSize x.ru ≤ 1048576) :
    Calls Try.prog 7 #[nxV x (xaOf x d0 d1 d2 d3 d4), nxV y q] w fun e w' => e = .returned (.bool (nxEqB x y)) ∧ Below w.heap.size w w' := by
  obtain ⟨G, hG⟩ : ∃ G, nxEqB x y = G := ⟨_, rfl⟩
  rw [hG]
  have HG : Hid (nxEqB x y = G) := hG
  clear hG
  obtain ⟨w0, hw0⟩ : ∃ w0, w.alloc (.cells (nxC x (xaOf x d0 d1 d2 d3 d4)) 36) = w0 := ⟨_, rfl⟩
  have hA0 := bx_new w (nxC x (xaOf x d0 d1 d2 d3 d4)) 36
  have b0 := oBelow_new w (.cells (nxC x (xaOf x d0 d1 d2 d3 d4)) 36)
  rw [hw0] at hA0 b0
  obtain ⟨w1, hw1⟩ : ∃ w1, w0.alloc (.cells (nxC y q) 36) = w1 := ⟨_, rfl⟩
  have hB1 := bx_new w0 (nxC y q) 36
  have b01 := oBelow_new w0 (.cells (nxC y q) 36)
  rw [hw1] at hB1 b01
  have hA1 := hA0.below b01
  have b1 := b0.trans (b01.mono b0.size)
  obtain ⟨A, hA⟩ : ∃ A, w.heap.size = A := ⟨_, rfl⟩
  obtain ⟨B, hB⟩ : ∃ B, w0.heap.size = B := ⟨_, rfl⟩
  rw [hA] at hA1
  rw [hB] at hB1
  have hi1 := h.below b1
  have hj1 := h'.below b1
  clear b0 b01 hA0
  obtain ⟨q0, q1, q2, q3, q4⟩ := hA1.fiveN
  obtain ⟨r0, r1, r2, r3, r4⟩ := hB1.fiveN
  unfold nxV
  unfold nxC at hw0 hw1 ⊢
  unfold xaOf at hw0 q0 q1 q2 q3 q4 ⊢
  simp only at hw0 q0 q1 q2 q3 q4 ⊢
  go_enter Try.func7, Try.ntmps7
  go_wp2_with fail
  refine (implRulesSame_any _ _ _ _ _ x.ru y.ru _ hi1.ru hj1.ru hs).mono ?_
  rintro e w2 ⟨rfl, hb2⟩
  have b2 := b1.trans (hb2.mono b1.size)
  have hA2 := hA1.below hb2
  have hB2 := hB1.below hb2
  have hi2 := hi1.below hb2
  have hj2 := hj1.below hb2
  clear q0 q1 q2 q3 q4 r0 r1 r2 r3 r4
  obtain ⟨q0, q1, q2, q3, q4⟩ := hA2.fiveN
  unfold xaOf at q0 q1 q2 q3 q4
  simp only at q0 q1 q2 q3 q4
  obtain ⟨r0, r1, r2, r3, r4⟩ := hB2.fiveN
  cases g0 : rusEqB x.ru y.ru
  case false =>
    have hf : nxEqB x y = false := by simp [nxEqB, g0]
    clear g0
    go_wp2
    go_ret
    exact ⟨ret_bool (by rw [← HG.out, hf]), b2⟩
  go_wp2_with fail
  refine (equalGraphs_any _ _ _ _ x.gr y.gr _ hi2.in.gr hj2.gr).mono ?_
  rintro e w3 ⟨rfl, hb3⟩
  have b3 := b2.trans (hb3.mono b2.size)
  have hA3 := hA2.below hb3
  have hB3 := hB2.below hb3
  have hi3 := hi2.below hb3
  have hj3 := hj2.below hb3
  clear q0 q1 q2 q3 q4 r0 r1 r2 r3 r4
  obtain ⟨q0, q1, q2, q3, q4⟩ := hA3.fiveN
  unfold xaOf at q0 q1 q2 q3 q4
  simp only at q0 q1 q2 q3 q4
  obtain ⟨r0, r1, r2, r3, r4⟩ := hB3.fiveN
  cases g1 : gxsEqB x.gr y.gr
  case false =>
    have hf : nxEqB x y = false := by simp [nxEqB, g1]
    clear g0 g1
    go_wp2
    go_ret
    exact ⟨ret_bool (by rw [← HG.out, hf]), b3⟩
  go_wp2_with fail
  refine (implEvsSame_any _ _ _ _ x.ev y.ev _ hi3.in.ev hj3.ev).mono ?_
  rintro e w4 ⟨rfl, hb4⟩
  have b4 := b3.trans (hb4.mono b3.size)
  have hA4 := hA3.below hb4
  have hB4 := hB3.below hb4
  have hi4 := hi3.below hb4
  have hj4 := hj3.below hb4
  clear q0 q1 q2 q3 q4 r0 r1 r2 r3 r4
  obtain ⟨q0, q1, q2, q3, q4⟩ := hA4.fiveN
  unfold xaOf at q0 q1 q2 q3 q4
  simp only at q0 q1 q2 q3 q4
  obtain ⟨r0, r1, r2, r3, r4⟩ := hB4.fiveN
  cases g2 : evsEqB x.ev y.ev
  case false =>
    have hf : nxEqB x y = false := by simp [nxEqB, g2]
    clear g0 g1 g2
    go_wp2
    go_ret
    exact ⟨ret_bool (by rw [← HG.out, hf]), b4⟩
  go_wp2_with fail
  refine (equalInts_any _ _ _ _ x.ks y.ks _ hi4.in.ks hj4.ks).mono ?_
  rintro e w5 ⟨rfl, hb5⟩
  have b5 := b4.trans (hb5.mono b4.size)
  have hA5 := hA4.below hb5
  have hB5 := hB4.below hb5
  have hi5 := hi4.below hb5
  have hj5 := hj4.below hb5
  clear q0 q1 q2 q3 q4 r0 r1 r2 r3 r4
  obtain ⟨q0, q1, q2, q3, q4⟩ := hA5.fiveN
  unfold xaOf at q0 q1 q2 q3 q4
  simp only at q0 q1 q2 q3 q4
  obtain ⟨r0, r1, r2, r3, r4⟩ := hB5.fiveN
  cases g3 : intsEqB x.ks y.ks
  case false =>
    have hf : nxEqB x y = false := by simp [nxEqB, g3]
    clear g0 g1 g2 g3
    go_wp2
    go_ret
    exact ⟨ret_bool (by rw [← HG.out, hf]), b5⟩
  go_wp2_with fail
  refine (equalFires_any _ _ _ _ x.fi y.fi _ hi5.in.fi hj5.fi).mono ?_
  rintro e w6 ⟨rfl, hb6⟩
  have b6 := b5.trans (hb6.mono b5.size)
  have hA6 := hA5.below hb6
  have hB6 := hB5.below hb6
  have hi6 := hi5.below hb6
  have hj6 := hj5.below hb6
  clear q0 q1 q2 q3 q4 r0 r1 r2 r3 r4
  obtain ⟨q0, q1, q2, q3, q4⟩ := hA6.fiveN
  unfold xaOf at q0 q1 q2 q3 q4
  simp only at q0 q1 q2 q3 q4
  obtain ⟨r0, r1, r2, r3, r4⟩ := hB6.fiveN
  cases g4 : fxsEqB x.fi y.fi
  case false =>
    have hf : nxEqB x y = false := by simp [nxEqB, g4]
    clear g0 g1 g2 g3 g4
    go_wp2
    go_ret
    exact ⟨ret_bool (by rw [← HG.out, hf]), b6⟩
  have hf : nxEqB x y = true := by simp [nxEqB, g0, g1, g2, g3, g4]
  clear g0 g1 g2 g3 g4
  go_wp2
  go_ret
  exact ⟨ret_bool (by rw [← HG.out, hf]), b6⟩

set_option maxHeartbeats 4000000 in
theorem specEngSame_any (x y : Nx) (p q : XA) (w : World) (h : NxIn w p x) (h' : NxIn w q y) (hx : x.Wf) (hy : y.Wf) :
    Calls Try.prog 5 #[nxV x p, nxV y q] w fun e w' => e = .returned (.bool (nxEqB x y)) ∧ Below w.heap.size w w' := by
  obtain ⟨G, hG⟩ : ∃ G, nxEqB x y = G := ⟨_, rfl⟩
  rw [hG]
  have HG : Hid (nxEqB x y = G) := hG
  clear hG
  obtain ⟨w0, hw0⟩ : ∃ w0, w.alloc (.cells (nxC x p) 36) = w0 := ⟨_, rfl⟩
  have hA0 := bx_new w (nxC x p) 36
  have b0 := oBelow_new w (.cells (nxC x p) 36)
  rw [hw0] at hA0 b0
  obtain ⟨w1, hw1⟩ : ∃ w1, w0.alloc (.cells (nxC y q) 36) = w1 := ⟨_, rfl⟩
  have hB1 := bx_new w0 (nxC y q) 36
  have b01 := oBelow_new w0 (.cells (nxC y q) 36)
  rw [hw1] at hB1 b01
  have hA1 := hA0.below b01
  have b1 := b0.trans (b01.mono b0.size)
  obtain ⟨A, hA⟩ : ∃ A, w.heap.size = A := ⟨_, rfl⟩
  obtain ⟨B, hB⟩ : ∃ B, w0.heap.size = B := ⟨_, rfl⟩
  rw [hA] at hA1
  rw [hB] at hB1
  have hi1 := h.below b1
  have hj1 := h'.below b1
  clear b0 b01 hA0
  obtain ⟨q0, q1, q2, q3, q4⟩ := hA1.fiveN
  obtain ⟨r0, r1, r2, r3, r4⟩ := hB1.fiveN
  have ng := h.gr.len
  have ng' := h'.gr.len
  have nk := h.ks.len
  have nk' := h'.ks.len
  unfold maxLen at ng ng' nk nk'
  unfold nxV
  unfold nxC at hw0 hw1 ⊢
  go_enter Try.func5, Try.ntmps5
  go_wp2_with fail
  refine (specRulesSame_any _ _ _ _ x.ru y.ru _ hi1.ru hj1.ru).mono ?_
  rintro e w2 ⟨rfl, hb2⟩
  have b2 := b1.trans (hb2.mono b1.size)
  have hA2 := hA1.below hb2
  have hB2 := hB1.below hb2
  have hi2 := hi1.below hb2
  have hj2 := hj1.below hb2
  clear q0 q1 q2 q3 q4 r0 r1 r2 r3 r4
  obtain ⟨q0, q1, q2, q3, q4⟩ := hA2.fiveN
  obtain ⟨r0, r1, r2, r3, r4⟩ := hB2.fiveN
  cases g0 : rusEqB x.ru y.ru
  case false =>
    have hf : nxEqB x y = false := by simp [nxEqB, g0]
    clear g0
    go_wp2
    go_ret
    exact ⟨ret_bool (by rw [← HG.out, hf]), b2⟩
  by_cases lg : x.gr.length = y.gr.length
  case neg =>
    have n1 : ((x.gr.length : Int) != (y.gr.length : Int)) = true := by simp; omega
    have hf : nxEqB x y = false := by simp [nxEqB, gxsEqB_len lg]
    clear lg g0
    go_wp2
    go_ret
    exact ⟨ret_bool (by rw [← HG.out, hf]), b2⟩
  have n1 : ((x.gr.length : Int) != (y.gr.length : Int)) = false := by simp [lg]
  have Lg : Hid (x.gr.length = y.gr.length) := lg
  have lgl : x.gr.length ≤ y.gr.length := by omega
  clear lg
  go_wp2_with fail
  refine (specEvsSame_any _ _ _ _ x.ev y.ev _ hi2.ev hj2.ev).mono ?_
  rintro e w3 ⟨rfl, hb3⟩
  have b3 := b2.trans (hb3.mono b2.size)
  have hA3 := hA2.below hb3
  have hB3 := hB2.below hb3
  have hi3 := hi2.below hb3
  have hj3 := hj2.below hb3
  clear q0 q1 q2 q3 q4 r0 r1 r2 r3 r4
  obtain ⟨q0, q1, q2, q3, q4⟩ := hA3.fiveN
  obtain ⟨r0, r1, r2, r3, r4⟩ := hB3.fiveN
  cases g2 : evsEqB x.ev y.ev
  case false =>
    have hf : nxEqB x y = false := by simp [nxEqB, g2]
    clear g0 g2
    go_wp2
    go_ret
    exact ⟨ret_bool (by rw [← HG.out, hf]), b3⟩
  by_cases lk : x.ks.length = y.ks.length
  case neg =>
    have n2 : ((x.ks.length : Int) != (y.ks.length : Int)) = true := by simp; omega
    have hf : nxEqB x y = false := by simp [nxEqB, intsEqB_len lk]
    clear lk g0 g2
    go_wp2
    go_ret
    exact ⟨ret_bool (by rw [← HG.out, hf]), b3⟩
  have n2 : ((x.ks.length : Int) != (y.ks.length : Int)) = false := by simp [lk]
  have Lk : Hid (x.ks.length = y.ks.length) := lk
  have lkl : x.ks.length ≤ y.ks.length := by omega
  clear lk
  go_wp2_with fail
  refine (l9Fires_any _ _ _ _ x.fi y.fi _ hi3.fi hj3.fi hx.fi hy.fi).mono ?_
  rintro e w4 ⟨rfl, hb4⟩
  have b4 := b3.trans (hb4.mono b3.size)
  have hA4 := hA3.below hb4
  have hB4 := hB3.below hb4
  have hi4 := hi3.below hb4
  have hj4 := hj3.below hb4
  clear q0 q1 q2 q3 q4 r0 r1 r2 r3 r4
  obtain ⟨q0, q1, q2, q3, q4⟩ := hA4.fiveN
  obtain ⟨r0, r1, r2, r3, r4⟩ := hB4.fiveN
  cases g4 : fxsEqB x.fi y.fi
  case false =>
    have hf : nxEqB x y = false := by simp [nxEqB, g4]
    clear g0 g2 g4
    go_wp2
    go_ret
    exact ⟨ret_bool (by rw [← HG.out, hf]), b4⟩
  have hf : Hid (nxEqB x y = (gxsEqB x.gr y.gr && intsEqB x.ks y.ks)) := by show _ = _; simp [nxEqB, g0, g2, g4, Bool.and_comm]
  clear g0 g2 g4 hw0 hw1 q0 q1 q2 q3 q4 r0 r1 r2 r3 r4 hA1 hB1 hA2 hB2 hA3 hB3 hi1 hj1 hi2 hj2 hi3 hj3 hb2 hb3 hb4 b1 b2 b3
  go_wp2
  go_loopw [5] (fun i wr => ∃ k : Nat, k ≤ x.gr.length ∧ i = .int .i64 k ∧ Hid (gxsEqB x.gr y.gr = gxsEqB (x.gr.drop k) (y.gr.drop k)) ∧ Below w4.heap.size w4 wr) (fun i _ => x.gr.length - (intOf i).toNat)
  case atStart => exact ⟨0, Nat.zero_le _, rfl, rfl, Below.refl _ _⟩
  case round =>
    revert hrel
    generalize wr = wo
    intro hrel
    obtain ⟨k, hk, rfl, hr, hb⟩ := hrel
    have be := b4.trans (hb.mono b4.size)
    have hAr := hA4.below hb
    have hBr := hB4.below hb
    obtain ⟨-, q1, -, q3, -⟩ := hAr.fiveN
    obtain ⟨-, r1, -, r3, -⟩ := hBr.fiveN
    by_cases hlt : k < x.gr.length
    · obtain ⟨b, off, p', pc, hpe, hbl, hc, hids⟩ := (hi4.gr.below hb).at hlt
      obtain ⟨b', off', p'', pc', hqe, hbl', hd, hids'⟩ := (hj4.gr.below hb).at (k := k) (by omega)
      rw [hpe] at q1
      rw [hqe] at r1
      have hst : Hid (gxsEqB (x.gr.drop k) (y.gr.drop k) = _) := gxsEqB_step hlt (show k < y.gr.length by omega)
      have hlt' : k < y.gr.length := by omega
      have wx := hx.gr _ (List.getElem_mem hlt)
      have wy := hy.gr _ (List.getElem_mem hlt')
      generalize x.gr[k] = o at hc hids hst wx
      generalize y.gr[k] = o' at hd hids' hst wy
      obtain ⟨c0, c1, c2, c3, c4⟩ := hc
      obtain ⟨d0, d1, d2, d3, d4⟩ := hd
      have hcall := fun (u : After wo) => calls_after (u := u) (specG_any o o' p' p'' pc pc' u.v (hids.below u.h) (hids'.below u.h) wx wy)
      unfold gxV gxC gC at hcall
      have a0 := fun u : After wo => u.cell c0 hbl
      have e0 := fun u : After wo => u.cell d0 hbl'
      have a1 := fun u : After wo => u.cell c1 hbl
      have e1 := fun u : After wo => u.cell d1 hbl'
      have a2 := fun u : After wo => u.cell c2 hbl
      have e2 := fun u : After wo => u.cell d2 hbl'
      have a3 := fun u : After wo => u.cell c3 hbl
      have e3 := fun u : After wo => u.cell d3 hbl'
      have a4 := fun u : After wo => u.cell c4 hbl
      have e4 := fun u : After wo => u.cell d4 hbl'
      have aq := fun u : After wo => u.cell q1 hAr.lt
      have ar := fun u : After wo => u.cell r1 hBr.lt
      clear c0 c1 c2 c3 c4 d0 d1 d2 d3 d4 q3 r3
      cases hev : gxEqB o o'
      · rw [hev] at hcall
        go_wp2
        have hany := after_any
        refine wp_region_after (by kernel_rfl) (by kernel_rfl) ?_
        repeat (go_big_quiet_step ((go_at_call 17; refine hcall _)))
        refine wpQuiet_nil ?_
        intro w5 hu
        have hbe := be.trans ((after_of hu).mono be.size)
        clear hu
        go_wp2
        go_ret
        exact ⟨ret_bool (by rw [← HG.out, hf.out, hr.out, hst.out, hev]; rfl), hbe⟩
      · rw [hev] at hcall
        go_wp2
        have hany := after_any
        refine wp_region_after (by kernel_rfl) (by kernel_rfl) ?_
        repeat (go_big_quiet_step ((go_at_call 17; refine hcall _)))
        refine wpQuiet_nil ?_
        intro w5 hu
        have hbe := hb.trans ((after_of hu).mono hb.size)
        clear hu
        go_wp2
        exact ⟨⟨k + 1, by omega, by go_num, by show _ = _; rw [hr.out, hst.out, hev]; rfl, hbe⟩, by simp [intOf]; omega⟩
    · have hg1 : Hid (gxsEqB x.gr y.gr = true) := by show _ = _; rw [hr.out]; exact gxsEqB_end hlt Lg.out
      have hAk := hAr
      have hBk := hBr
      have hik := hi4.ks.below hb
      have hjk := hj4.ks.below hb
      go_wp2
      go_loopw [6] (fun i ws => ∃ k : Nat, k ≤ x.ks.length ∧ i = .int .i64 k ∧ Hid (intsEqB x.ks y.ks = intsEqB (x.ks.drop k) (y.ks.drop k)) ∧ Below wo.heap.size wo ws) (fun i _ => x.ks.length - (intOf i).toNat)
      case atStart => exact ⟨0, Nat.zero_le _, rfl, rfl, Below.refl _ _⟩
      case round =>
        obtain ⟨m, hm, rfl, hrm, hbm⟩ := hrel
        have bem := be.trans (hbm.mono be.size)
        have hAs := hAk.below hbm
        have hBs := hBk.below hbm
        clear q1 q3 r1 r3
        obtain ⟨-, -, -, q3, -⟩ := hAs.fiveN
        obtain ⟨-, -, -, r3, -⟩ := hBs.fiveN
        by_cases hlm : m < x.ks.length
        · have hlm' : m < y.ks.length := by omega
          obtain ⟨b, off, hpe, hbl, hc⟩ := (hik.below hbm).cells (by omega)
          have c0 := hc m hlm
          obtain ⟨b', off', hqe, hbl', hc'⟩ := (hjk.below hbm).cells (by omega)
          have d0 := hc' m hlm'
          rw [hpe] at q3
          rw [hqe] at r3
          clear hc hc'
          have hst : Hid (intsEqB (x.ks.drop m) (y.ks.drop m) = _) := intsEqB_step hlm hlm'
          generalize x.ks[m] = ek at c0 hst
          generalize y.ks[m] = ek' at d0 hst
          by_cases hev : ek = ek'
          · have hq : (ek != ek') = false := by simp [hev]
            have hd : Hid (decide (ek = ek') = true) := by show _ = _; simp [hev]
            clear hev
            go_wp2
            go_quiet (fail)
            have hbe : Below wo.heap.size wo (wr.drewN nq) := hbm.trans ⟨rfl, rfl, rfl, Nat.le_refl _, fun _ _ => rfl⟩
            go_wp2
            exact ⟨⟨m + 1, by omega, by go_num, by show _ = _; rw [hrm.out, hst.out, hd.out]; rfl, hbe⟩, by simp [intOf]; omega⟩
          · have hq : (ek != ek') = true := by simpa using hev
            have hd : Hid (decide (ek = ek') = false) := by show _ = _; simp [hev]
            clear hev
            go_wp2
            go_quiet (fail)
            have hbe : Below w.heap.size w (wr.drewN nq) := bem.trans ⟨rfl, rfl, rfl, Nat.le_refl _, fun _ _ => rfl⟩
            go_wp2
            go_ret
            exact ⟨ret_bool (by rw [← HG.out, hf.out, hg1.out, hrm.out, hst.out, hd.out]; rfl), hbe⟩
        · go_wp2
          go_ret
          exact ⟨ret_bool (by rw [← HG.out, hf.out, hg1.out, hrm.out, intsEqB_end hlm Lk.out]; rfl), bem⟩
end Go.Proofs.Ythlddehmebgfoaa
