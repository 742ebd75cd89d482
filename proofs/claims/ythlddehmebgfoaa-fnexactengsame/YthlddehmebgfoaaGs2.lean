/- Both GraphSame. -/
import Derived.Test.YthlddehmebgfoaaGs
namespace Go.Proofs.Ythlddehmebgfoaa
open Go.ChangeShapes Go.WideShapes Go.ChangeAt Go.RowKit Go.Deep
set_option linter.unusedVariables false
set_option maxRecDepth 4000

set_option maxHeartbeats 2000000 in
theorem equalNodes_any (a a' : Option Addr) (cap cap' : Nat) (l l' : List Nd) (w : World) (h : Nds w a l) (h' : Nds w a' l') :
    Calls Try.prog 47 #[.slice a l.length cap, .slice a' l'.length cap', .func (.func 48) #[] #[]] w fun e w' => e = .returned (.bool (ndsEqB l l')) ∧ Below w.heap.size w w' := by
  have hn := h.len
  have hn' := h'.len
  unfold maxLen at hn hn'
  by_cases hne : l.length = l'.length
  · have h0 : Hid (ndsEqB l l' = ndsEqB (l.drop 0) (l'.drop 0)) := rfl
    have hnb : ((l.length : Int) != (l'.length : Int)) = false := by simp [hne]
    have Hne : Hid (l.length = l'.length) := hne
    have hle : l.length ≤ l'.length := by omega
    clear hne
    go_enter Try.func47, Try.ntmps47
    go_wp2
    go_loopw [7, 8, 9, 17] (fun x y z i wr => ∃ k : Nat, k ≤ l.length ∧ i = .int .i64 k ∧ Hid (ndsEqB l l' = ndsEqB (l.drop k) (l'.drop k)) ∧ Below w.heap.size w wr) (fun _ _ _ i _ => l.length - (intOf i).toNat)
    case atStart => exact ⟨0, Nat.zero_le _, rfl, h0, Below.refl _ _⟩
    case round =>
      obtain ⟨k, hk, rfl, hr, hb⟩ := hrel
      by_cases hlt : k < l.length
      · obtain ⟨b, off, p, rfl, hbl, hc, hids⟩ := (h.below hb).at hlt
        obtain ⟨b', off', p', rfl, hbl', hd, hids'⟩ := (h'.below hb).at (k := k) (by omega)
        have hst : Hid (ndsEqB (l.drop k) (l'.drop k) = _) := ndsEqB_step hlt (show k < l'.length by omega)
        have hlt' : k < l'.length := by omega
        generalize l[k] = o at hc hids hst
        generalize l'[k] = o' at hd hids' hst
        obtain ⟨c0, c1, c2, c3, c4, c5, c6, c7, c8, c9⟩ := hc
        obtain ⟨u1, hu1⟩ : ∃ u1, wr.alloc (.cells (ndC o p) 95) = u1 := ⟨_, rfl⟩
        have hX := bx_new wr (ndC o p) 95
        have bu1 := oBelow_new wr (.cells (ndC o p) 95)
        rw [hu1] at hX bu1
        obtain ⟨X, hXe⟩ : ∃ X, wr.heap.size = X := ⟨_, rfl⟩
        rw [hXe] at hX
        obtain ⟨d0, d1, d2, d3, d4, d5, d6, d7, d8, d9⟩ := hd
        rw [← bu1.cell hbl'] at d0 d1 d2 d3 d4 d5 d6 d7 d8 d9
        obtain ⟨u2, hu2⟩ : ∃ u2, u1.alloc (.cells (ndC o' p') 95) = u2 := ⟨_, rfl⟩
        have hY := bx_new u1 (ndC o' p') 95
        have bu2 := oBelow_new u1 (.cells (ndC o' p') 95)
        rw [hu2] at hY bu2
        obtain ⟨Y, hYe⟩ : ∃ Y, u1.heap.size = Y := ⟨_, rfl⟩
        rw [hYe] at hY
        have hX2 := hX.below bu2
        have hb2 := bu1.trans (bu2.mono bu1.size)
        have hbw := hb.trans (hb2.mono hb.size)
        obtain ⟨q0, q1, q2, q3, q4, q5, q6, q7, q8, q9⟩ := hX2.ten
        obtain ⟨r0, r1, r2, r3, r4, r5, r6, r7, r8, r9⟩ := hY.ten
        simp only [Nat.zero_add] at q0 q1 q2 q3 q4 q5 q6 q7 q8 q9 r0 r1 r2 r3 r4 r5 r6 r7 r8 r9
        unfold ndC at hu1 hu2
        cases hev : ndEqB o o'
        · go_wp2_with fail
          refine (implNodeSame_any o o' p p' _ (hids.below hb2) (hids'.below hb2)).mono ?_
          rintro e w1 ⟨rfl, hb1⟩
          have hbe := hbw.trans (hb1.mono hbw.size)
          rw [hev]
          go_wp2
          go_ret
          exact ⟨ret_bool (by rw [hr.out, hst.out, hev]; rfl), hbe⟩
        · go_wp2_with fail
          refine (implNodeSame_any o o' p p' _ (hids.below hb2) (hids'.below hb2)).mono ?_
          rintro e w1 ⟨rfl, hb1⟩
          have hbe := hbw.trans (hb1.mono hbw.size)
          rw [hev]
          go_wp2
          exact ⟨⟨k + 1, by omega, by go_num, by show _ = _; rw [hr.out, hst.out, hev]; rfl, hbe⟩, by simp [intOf]; omega⟩
      · go_wp2
        go_ret
        exact ⟨ret_bool (by rw [hr.out, ndsEqB_end hlt Hne.out]), hb⟩
  · rw [ndsEqB_len hne]
    have hnb : ((l.length : Int) != (l'.length : Int)) = true := by simp; omega
    go_enter Try.func47, Try.ntmps47
    go_wp2
    go_ret
    exact ⟨rfl, Below.refl _ _⟩

set_option maxHeartbeats 2000000 in
theorem implGraphSame_any (m : Int) (a : Option Addr) (cap : Nat) (l : List Nd) (se nw : Int) (fu : Bool) (m' : Int) (a' : Option Addr) (cap' : Nat) (l' : List Nd) (se' nw' : Int) (fu' : Bool) (w : World) (h : Nds w a l) (h' : Nds w a' l') :
    Calls Try.prog 25 #[.agg (gC m a l.length cap se nw fu), .agg (gC m' a' l'.length cap' se' nw' fu')] w fun e w' => e = .returned (.bool (grEqB m l se nw fu m' l' se' nw' fu')) ∧ Below w.heap.size w w' := by
  obtain ⟨G, hG⟩ : ∃ G, grEqB m l se nw fu m' l' se' nw' fu' = G := ⟨_, rfl⟩
  rw [hG]
  have HG : Hid (grEqB m l se nw fu m' l' se' nw' fu' = G) := hG
  clear hG
  obtain ⟨w0, hw0⟩ : ∃ w0, w.alloc (.cells (gC m a l.length cap se nw fu) 50) = w0 := ⟨_, rfl⟩
  have hA0 := bx_new w (gC m a l.length cap se nw fu) 50
  have b0 := oBelow_new w (.cells (gC m a l.length cap se nw fu) 50)
  rw [hw0] at hA0 b0
  obtain ⟨w1, hw1⟩ : ∃ w1, w0.alloc (.cells (gC m' a' l'.length cap' se' nw' fu') 50) = w1 := ⟨_, rfl⟩
  have hB0 := bx_new w0 (gC m' a' l'.length cap' se' nw' fu') 50
  have b01 := oBelow_new w0 (.cells (gC m' a' l'.length cap' se' nw' fu') 50)
  rw [hw1] at hB0 b01
  have hA1 := hA0.below b01
  have b1 := b0.trans (b01.mono b0.size)
  obtain ⟨A, hA⟩ : ∃ A, w.heap.size = A := ⟨_, rfl⟩
  obtain ⟨B, hB⟩ : ∃ B, w0.heap.size = B := ⟨_, rfl⟩
  rw [hA] at hA1
  rw [hB] at hB0
  clear b0 b01 hA0
  obtain ⟨q0, q1, q2, q3, q4⟩ := hA1.five
  obtain ⟨r0, r1, r2, r3, r4⟩ := hB0.five
  unfold gC at hw0 hw1 ⊢
  by_cases h0 : m = m'
  case neg =>
    have n0 : (m == m') = false := by simpa using h0
    have n0' : decide (m = m') = false := by simpa using h0
    have hf : grEqB m l se nw fu m' l' se' nw' fu' = false := by simp [grEqB, h0]
    go_enter Try.func25, Try.ntmps25
    go_wp2
    go_ret
    exact ⟨ret_bool (by rw [← HG.out, hf]), b1⟩
  by_cases h1 : se = se'
  case neg =>
    subst h0
    have n0 : (se == se') = false := by simpa using h1
    have n0' : decide (se = se') = false := by simpa using h1
    have hf : grEqB m l se nw fu m l' se' nw' fu' = false := by simp [grEqB, h1]
    go_enter Try.func25, Try.ntmps25
    go_wp2
    go_ret
    exact ⟨ret_bool (by rw [← HG.out, hf]), b1⟩
  by_cases h2 : nw = nw'
  case neg =>
    subst h0 h1
    have n0 : (nw == nw') = false := by simpa using h2
    have n0' : decide (nw = nw') = false := by simpa using h2
    have hf : grEqB m l se nw fu m l' se nw' fu' = false := by simp [grEqB, h2]
    go_enter Try.func25, Try.ntmps25
    go_wp2
    go_ret
    exact ⟨ret_bool (by rw [← HG.out, hf]), b1⟩
  by_cases h3 : fu = fu'
  case neg =>
    subst h0 h1 h2
    have hf : grEqB m l se nw fu m l' se nw fu' = false := by simp [grEqB, h3]
    cases fu <;> cases fu'
    case false.false => exact absurd rfl h3
    case true.true => exact absurd rfl h3
    all_goals go_enter Try.func25, Try.ntmps25
    all_goals go_wp2
    all_goals go_ret
    all_goals exact ⟨ret_bool (by rw [← HG.out, hf]), b1⟩
  subst h0 h1 h2 h3
  have hf : Hid (grEqB m l se nw fu m l' se nw fu = ndsEqB l l') := by show _ = _; simp [grEqB]
  cases fu
  all_goals
    go_enter Try.func25, Try.ntmps25
    go_wp2_with fail
    refine (equalNodes_any _ _ _ _ l l' _ (h.below b1) (h'.below b1)).mono ?_
    rintro e w2 ⟨rfl, hb2⟩
    go_wp2
    go_ret
    exact ⟨ret_bool (by rw [← HG.out, hf.out]), b1.trans (hb2.mono b1.size)⟩

set_option maxHeartbeats 2000000 in
theorem specGraphSame_any (m : Int) (a : Option Addr) (cap : Nat) (l : List Nd) (se nw : Int) (fu : Bool) (m' : Int) (a' : Option Addr) (cap' : Nat) (l' : List Nd) (se' nw' : Int) (fu' : Bool) (w : World) (h : Nds w a l) (h' : Nds w a' l') (hx : ∀ x ∈ l, x.Wf) (hy : ∀ x ∈ l', x.Wf) :
    Calls Try.prog 17 #[.agg (gC m a l.length cap se nw fu), .agg (gC m' a' l'.length cap' se' nw' fu')] w fun e w' => e = .returned (.bool (grEqB m l se nw fu m' l' se' nw' fu')) ∧ Below w.heap.size w w' := by
  obtain ⟨G, hG⟩ : ∃ G, grEqB m l se nw fu m' l' se' nw' fu' = G := ⟨_, rfl⟩
  rw [hG]
  have HG : Hid (grEqB m l se nw fu m' l' se' nw' fu' = G) := hG
  clear hG
  have hn := h.len
  have hn' := h'.len
  unfold maxLen at hn hn'
  obtain ⟨w0, hw0⟩ : ∃ w0, w.alloc (.cells (gC m a l.length cap se nw fu) 50) = w0 := ⟨_, rfl⟩
  have hA0 := bx_new w (gC m a l.length cap se nw fu) 50
  have b0 := oBelow_new w (.cells (gC m a l.length cap se nw fu) 50)
  rw [hw0] at hA0 b0
  obtain ⟨w1, hw1⟩ : ∃ w1, w0.alloc (.cells (gC m' a' l'.length cap' se' nw' fu') 50) = w1 := ⟨_, rfl⟩
  have hB0 := bx_new w0 (gC m' a' l'.length cap' se' nw' fu') 50
  have b01 := oBelow_new w0 (.cells (gC m' a' l'.length cap' se' nw' fu') 50)
  rw [hw1] at hB0 b01
  have hA1 := hA0.below b01
  have b1 := b0.trans (b01.mono b0.size)
  obtain ⟨A, hA⟩ : ∃ A, w.heap.size = A := ⟨_, rfl⟩
  obtain ⟨B, hB⟩ : ∃ B, w0.heap.size = B := ⟨_, rfl⟩
  rw [hA] at hA1
  rw [hB] at hB0
  clear b0 b01 hA0
  obtain ⟨q0, q1, q2, q3, q4⟩ := hA1.five
  obtain ⟨r0, r1, r2, r3, r4⟩ := hB0.five
  have N1 := h.below b1
  have N2 := h'.below b1
  unfold gC at hw0 hw1 ⊢
  by_cases h0 : m = m'
  case neg =>
    have n0 : (m != m') = true := by simpa using h0
    have hf : grEqB m l se nw fu m' l' se' nw' fu' = false := by simp [grEqB, h0]
    clear h0
    go_enter Try.func17, Try.ntmps17
    go_wp2
    go_ret
    exact ⟨ret_bool (by rw [← HG.out, hf]), b1⟩
  have n0 : (m != m') = false := by simpa using h0
  have H0 : Hid (m = m') := h0
  clear h0
  by_cases h1 : se = se'
  case neg =>
    have n1 : (se != se') = true := by simpa using h1
    have hf : grEqB m l se nw fu m' l' se' nw' fu' = false := by simp [grEqB, h1]
    clear h1
    go_enter Try.func17, Try.ntmps17
    go_wp2
    go_ret
    exact ⟨ret_bool (by rw [← HG.out, hf]), b1⟩
  have n1 : (se != se') = false := by simpa using h1
  have H1 : Hid (se = se') := h1
  clear h1
  by_cases h2 : nw = nw'
  case neg =>
    have n2 : (nw != nw') = true := by simpa using h2
    have hf : grEqB m l se nw fu m' l' se' nw' fu' = false := by simp [grEqB, h2]
    clear h2
    go_enter Try.func17, Try.ntmps17
    go_wp2
    go_ret
    exact ⟨ret_bool (by rw [← HG.out, hf]), b1⟩
  have n2 : (nw != nw') = false := by simpa using h2
  have H2 : Hid (nw = nw') := h2
  clear h2
  by_cases h3 : fu = fu'
  case neg =>
    have hf : grEqB m l se nw fu m' l' se' nw' fu' = false := by simp [grEqB, h3]
    cases fu <;> cases fu'
    case false.false => exact absurd rfl h3
    case true.true => exact absurd rfl h3
    all_goals go_enter Try.func17, Try.ntmps17
    all_goals go_wp2
    all_goals go_ret
    all_goals exact ⟨ret_bool (by rw [← HG.out, hf]), b1⟩
  subst h3
  by_cases hne : l.length = l'.length
  case neg =>
    have hnb : ((l.length : Int) != (l'.length : Int)) = true := by simp; omega
    have hf : grEqB m l se nw fu m' l' se' nw' fu = false := by simp [grEqB, ndsEqB_len hne]
    clear hne
    cases fu
    all_goals go_enter Try.func17, Try.ntmps17
    all_goals go_wp2
    all_goals go_ret
    all_goals exact ⟨ret_bool (by rw [← HG.out, hf]), b1⟩
  have hnb : ((l.length : Int) != (l'.length : Int)) = false := by simp [hne]
  have Hne : Hid (l.length = l'.length) := hne
  have hle : l.length ≤ l'.length := by omega
  clear hne
  have hf : Hid (grEqB m l se nw fu m' l' se' nw' fu = ndsEqB l l') := by show _ = _; simp [grEqB, H0.out, H1.out, H2.out]
  cases fu
  all_goals
    go_enter Try.func17, Try.ntmps17
    go_wp2
    clear hw0 hw1 q0 q1 q2 q3 q4 r0 r1 r2 r3 r4
    go_loopw [5] (fun i wr => ∃ k : Nat, k ≤ l.length ∧ i = .int .i64 k ∧ Hid (ndsEqB l l' = ndsEqB (l.drop k) (l'.drop k)) ∧ Below w1.heap.size w1 wr) (fun i _ => l.length - (intOf i).toNat)
    case atStart => exact ⟨0, Nat.zero_le _, rfl, rfl, Below.refl _ _⟩
    case round =>
      obtain ⟨k, hk, rfl, hr, hb⟩ := hrel
      have be := b1.trans (hb.mono b1.size)
      have hAr := hA1.below hb
      have hBr := hB0.below hb
      obtain ⟨-, q1, -⟩ := hAr.five
      obtain ⟨-, r1, -⟩ := hBr.five
      by_cases hlt : k < l.length
      · obtain ⟨b, off, p, rfl, hbl, hc, hids⟩ := (N1.below hb).at hlt
        obtain ⟨b', off', p', rfl, hbl', hd, hids'⟩ := (N2.below hb).at (k := k) (by omega)
        have hst : Hid (ndsEqB (l.drop k) (l'.drop k) = _) := ndsEqB_step hlt (show k < l'.length by omega)
        have hlt' : k < l'.length := by omega
        have wx := hx _ (List.getElem_mem hlt)
        have wy := hy _ (List.getElem_mem hlt')
        generalize l[k] = o at hc hids hst wx
        generalize l'[k] = o' at hd hids' hst wy
        obtain ⟨c0, c1, c2, c3, c4, c5, c6, c7, c8, c9⟩ := hc
        obtain ⟨d0, d1, d2, d3, d4, d5, d6, d7, d8, d9⟩ := hd
        have hcall := fun (u : After wr) => calls_after (u := u) (specNodeSame_any o o' p p' u.v (hids.below u.h) (hids'.below u.h) wx wy)
        unfold ndV ndC at hcall
        have a0 := fun u : After wr => u.cell c0 hbl
        have a1 := fun u : After wr => u.cell c1 hbl
        have a2 := fun u : After wr => u.cell c2 hbl
        have a3 := fun u : After wr => u.cell c3 hbl
        have a4 := fun u : After wr => u.cell c4 hbl
        have a5 := fun u : After wr => u.cell c5 hbl
        have a6 := fun u : After wr => u.cell c6 hbl
        have a7 := fun u : After wr => u.cell c7 hbl
        have a8 := fun u : After wr => u.cell c8 hbl
        have a9 := fun u : After wr => u.cell c9 hbl
        have g0 := fun u : After wr => u.cell d0 hbl'
        have g1 := fun u : After wr => u.cell d1 hbl'
        have g2 := fun u : After wr => u.cell d2 hbl'
        have g3 := fun u : After wr => u.cell d3 hbl'
        have g4 := fun u : After wr => u.cell d4 hbl'
        have g5 := fun u : After wr => u.cell d5 hbl'
        have g6 := fun u : After wr => u.cell d6 hbl'
        have g7 := fun u : After wr => u.cell d7 hbl'
        have g8 := fun u : After wr => u.cell d8 hbl'
        have g9 := fun u : After wr => u.cell d9 hbl'
        have aq := fun u : After wr => u.cell q1 hAr.lt
        have ar := fun u : After wr => u.cell r1 hBr.lt
        cases hev : ndEqB o o'
        · rw [hev] at hcall
          go_wp2
          have hany := after_any
          refine wp_region_after (by kernel_rfl) (by kernel_rfl) ?_
          repeat (go_big_quiet_step ((go_at_call 40; refine hcall _)))
          refine wpQuiet_nil ?_
          intro w2 hu
          have hbe := be.trans ((after_of hu).mono be.size)
          clear hu
          go_wp2
          go_ret
          exact ⟨ret_bool (by rw [← HG.out, hf.out, hr.out, hst.out, hev]; rfl), hbe⟩
        · rw [hev] at hcall
          go_wp2
          have hany := after_any
          refine wp_region_after (by kernel_rfl) (by kernel_rfl) ?_
          repeat (go_big_quiet_step ((go_at_call 40; refine hcall _)))
          refine wpQuiet_nil ?_
          intro w2 hu
          have hbe := hb.trans ((after_of hu).mono hb.size)
          clear hu
          go_wp2
          exact ⟨⟨k + 1, by omega, by go_num, by show _ = _; rw [hr.out, hst.out, hev]; rfl, hbe⟩, by simp [intOf]; omega⟩
      · go_wp2
        go_ret
        exact ⟨ret_bool (by rw [← HG.out, hf.out, hr.out, ndsEqB_end hlt Hne.out]), be⟩
end Go.Proofs.Ythlddehmebgfoaa
