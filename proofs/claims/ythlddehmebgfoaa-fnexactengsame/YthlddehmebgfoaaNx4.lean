/- What followed, rows of graphs and engines compared by the specification and by the program. -/
import Derived.Test.YthlddehmebgfoaaNx3
import Derived.Test.YthlddehmebgfoaaGs2
import Derived.Test.YthlddehmebgfoaaOcc3
import Derived.Test.YthlddehmebgfoaaRu6
import Derived.Test.YthlddehmebgfoaaEvs3
namespace Go.Proofs.Ythlddehmebgfoaa
open Go.ChangeShapes Go.WideShapes Go.ChangeAt Go.RowKit Go.Deep
set_option linter.unusedVariables false
set_option maxRecDepth 4000

set_option maxHeartbeats 2000000 in
theorem l9Fires_any (a a' : Option Addr) (cap cap' : Nat) (l l' : List Fx) (w : World) (h : Fxs w a l) (h' : Fxs w a' l') (hwf : ∀ f ∈ l, f.Wf) (hwf' : ∀ f ∈ l', f.Wf) :
    Calls Try.prog 16 #[.slice a l.length cap, .slice a' l'.length cap'] w fun e w' => e = .returned (.bool (fxsEqB l l')) ∧ Below w.heap.size w w' := by
  have hn := h.len
  have hn' := h'.len
  unfold maxLen at hn hn'
  by_cases hne : l.length = l'.length
  · have hf : Hid (fxsEqB l l' = fxsEqB (l.drop 0) (l'.drop 0)) := rfl
    have hnb : ((l.length : Int) != (l'.length : Int)) = false := by simp [hne]
    have Hne : Hid (l.length = l'.length) := hne
    have hle : l.length ≤ l'.length := by omega
    clear hne
    go_enter Try.func16, Try.ntmps16
    go_wp2
    go_loopw [5] (fun i wr => ∃ k : Nat, k ≤ l.length ∧ i = .int .i64 k ∧ Hid (fxsEqB l l' = fxsEqB (l.drop k) (l'.drop k)) ∧ Below w.heap.size w wr) (fun i _ => l.length - (intOf i).toNat)
    case atStart => exact ⟨0, Nat.zero_le _, rfl, hf, Below.refl _ _⟩
    case round =>
      obtain ⟨k, hk, rfl, hr, hb⟩ := hrel
      by_cases hlt : k < l.length
      · obtain ⟨b, off, p, pc, rfl, hbl, hc, hids⟩ := (h.below hb).at hlt
        obtain ⟨b', off', p', pc', rfl, hbl', hd, hids'⟩ := (h'.below hb).at (k := k) (by omega)
        have hst : Hid (fxsEqB (l.drop k) (l'.drop k) = _) := fxsEqB_step hlt (show k < l'.length by omega)
        have hlt' : k < l'.length := by omega
        have hw := (hwf l[k] (List.getElem_mem hlt)).oc
        have hw' := (hwf' l'[k] (List.getElem_mem hlt')).oc
        generalize l[k] = o at hc hids hst hw
        generalize l'[k] = o' at hd hids' hst hw'
        obtain ⟨c0, c1, c2, c3⟩ := hc
        obtain ⟨d0, d1, d2, d3⟩ := hd
        have hcall := fun (u : After wr) => calls_after (u := u) (l3Same_any o.oc.fr o.oc.tl p pc o.oc.ids o'.oc.fr o'.oc.tl p' pc' o'.oc.ids u.v (hids.below u.h) (hids'.below u.h) hw.ids hw'.ids)
        have a0 := fun u : After wr => u.cell c0 hbl
        have a1 := fun u : After wr => u.cell c1 hbl
        have a2 := fun u : After wr => u.cell c2 hbl
        have a3 := fun u : After wr => u.cell c3 hbl
        have g0 := fun u : After wr => u.cell d0 hbl'
        have g1 := fun u : After wr => u.cell d1 hbl'
        have g2 := fun u : After wr => u.cell d2 hbl'
        have g3 := fun u : After wr => u.cell d3 hbl'
        by_cases h0 : o.ru = o'.ru
        · have n0 : (o.ru != o'.ru) = false := by simpa using h0
          have hx : Hid (fxEqB o o' = oEqB o.oc o'.oc) := by show _ = _; simp [fxEqB, h0]
          clear h0
          cases hq : occEqB o.oc.fr o.oc.tl o.oc.ids o'.oc.fr o'.oc.tl o'.oc.ids
          · have hev : Hid (fxEqB o o' = false) := hx.out.trans hq
            rw [hq] at hcall
            go_wp2
            have hany := after_any
            refine wp_region_after (by kernel_rfl) (by kernel_rfl) ?_
            repeat (go_big_quiet_step ((go_at_call 39; refine hcall _)))
            refine wpQuiet_nil ?_
            intro w1 hu
            have hbe : Below w.heap.size w w1 := hb.trans ((after_of hu).mono hb.size)
            clear hu
            go_wp2
            go_ret
            exact ⟨ret_bool (by rw [hr.out, hst.out, hev.out]; rfl), hbe⟩
          · have hev : Hid (fxEqB o o' = true) := hx.out.trans hq
            rw [hq] at hcall
            go_wp2
            have hany := after_any
            refine wp_region_after (by kernel_rfl) (by kernel_rfl) ?_
            repeat (go_big_quiet_step ((go_at_call 39; refine hcall _)))
            refine wpQuiet_nil ?_
            intro w1 hu
            have hbe : Below w.heap.size w w1 := hb.trans ((after_of hu).mono hb.size)
            clear hu
            go_wp2
            exact ⟨⟨k + 1, by omega, by go_num, by show _ = _; rw [hr.out, hst.out, hev.out]; rfl, hbe⟩, by simp [intOf]; omega⟩
        · have n0 : (o.ru != o'.ru) = true := by simpa using h0
          have hev : Hid (fxEqB o o' = false) := by show _ = _; simp [fxEqB, h0]
          clear h0 hcall
          go_wp2
          have hany := after_any
          refine wp_region_after (by kernel_rfl) (by kernel_rfl) ?_
          repeat (go_big_quiet_step (fail))
          refine wpQuiet_nil ?_
          intro w1 hu
          have hbe : Below w.heap.size w w1 := hb.trans ((after_of hu).mono hb.size)
          clear hu
          go_wp2
          go_ret
          exact ⟨ret_bool (by rw [hr.out, hst.out, hev.out]; rfl), hbe⟩
      · go_wp2
        go_ret
        exact ⟨ret_bool (by rw [hr.out, fxsEqB_end hlt Hne.out]), hb⟩
  · rw [fxsEqB_len hne]
    have hnb : ((l.length : Int) != (l'.length : Int)) = true := by simp; omega
    go_enter Try.func16, Try.ntmps16
    go_wp2
    go_ret
    exact ⟨rfl, Below.refl _ _⟩

set_option maxHeartbeats 1000000 in
theorem fireSame_any (x y : Fx) (a a' : Option Addr) (c c' : Nat) (w : World) (h : Ints w a x.oc.ids) (h' : Ints w a' y.oc.ids) :
    Calls Try.prog 29 #[fxV x a c, fxV y a' c'] w fun e w' => e = .returned (.bool (fxEqB x y)) ∧ Below w.heap.size w w' := by
  obtain ⟨G, hG⟩ : ∃ G, fxEqB x y = G := ⟨_, rfl⟩
  rw [hG]
  have HG : Hid (fxEqB x y = G) := hG
  clear hG
  obtain ⟨w0, hw0⟩ : ∃ w0, w.alloc (.cells (fxC x a c) 62) = w0 := ⟨_, rfl⟩
  have hA0 := bx_new w (fxC x a c) 62
  have b0 := oBelow_new w (.cells (fxC x a c) 62)
  rw [hw0] at hA0 b0
  obtain ⟨w1, hw1⟩ : ∃ w1, w0.alloc (.cells (fxC y a' c') 62) = w1 := ⟨_, rfl⟩
  have hB0 := bx_new w0 (fxC y a' c') 62
  have b01 := oBelow_new w0 (.cells (fxC y a' c') 62)
  rw [hw1] at hB0 b01
  have hA1 := hA0.below b01
  have b1 := b0.trans (b01.mono b0.size)
  obtain ⟨A, hA⟩ : ∃ A, w.heap.size = A := ⟨_, rfl⟩
  obtain ⟨B, hB⟩ : ∃ B, w0.heap.size = B := ⟨_, rfl⟩
  rw [hA] at hA1
  rw [hB] at hB0
  have hi := h.below b1
  have hj := h'.below b1
  clear b0 b01 hA0
  obtain ⟨q0, q1, q2, q3⟩ := hA1.fourF
  obtain ⟨r0, r1, r2, r3⟩ := hB0.fourF
  simp only [Nat.zero_add] at q0 q1 q2 q3 r0 r1 r2 r3
  unfold fxV
  unfold fxC at hw0 hw1 ⊢
  by_cases h0 : x.ru = y.ru
  case neg =>
    have n0 : (x.ru == y.ru) = false := by simpa using h0
    have n0' : decide (x.ru = y.ru) = false := by simpa using h0
    have hf : fxEqB x y = false := by simp [fxEqB, h0]
    clear h0
    go_enter Try.func29, Try.ntmps29
    go_wp2
    go_ret
    exact ⟨ret_bool (by rw [← HG.out, hf]), b1⟩
  have n0 : (x.ru == y.ru) = true := by simpa using h0
  have n0' : decide (x.ru = y.ru) = true := by simpa using h0
  have hf : Hid (fxEqB x y = oEqB x.oc y.oc) := by show _ = _; simp [fxEqB, h0]
  clear h0
  have hz : Hid ((occCmp x.oc.fr x.oc.tl x.oc.ids y.oc.fr y.oc.tl y.oc.ids == 0) = oEqB x.oc y.oc) := occCmp_zero _ _ _ _ _ _
  go_enter Try.func29, Try.ntmps29
  go_wp2_with fail
  refine (occCompare_any _ _ _ _ x.oc.ids _ _ _ _ y.oc.ids _ hi hj).mono ?_
  rintro e w2 ⟨rfl, hb2⟩
  go_wp2
  go_ret
  exact ⟨ret_bool (by rw [← HG.out, hf.out, ← hz.out]), b1.trans (hb2.mono b1.size)⟩

set_option maxHeartbeats 2000000 in
theorem equalFires_any (a a' : Option Addr) (cap cap' : Nat) (l l' : List Fx) (w : World) (h : Fxs w a l) (h' : Fxs w a' l') :
    Calls Try.prog 28 #[.slice a l.length cap, .slice a' l'.length cap', .func (.func 29) #[] #[]] w fun e w' => e = .returned (.bool (fxsEqB l l')) ∧ Below w.heap.size w w' := by
  have hn := h.len
  have hn' := h'.len
  unfold maxLen at hn hn'
  by_cases hne : l.length = l'.length
  · have h0 : Hid (fxsEqB l l' = fxsEqB (l.drop 0) (l'.drop 0)) := rfl
    have hnb : ((l.length : Int) != (l'.length : Int)) = false := by simp [hne]
    have Hne : Hid (l.length = l'.length) := hne
    have hle : l.length ≤ l'.length := by omega
    clear hne
    go_enter Try.func28, Try.ntmps28
    go_wp2
    go_loopw [7, 8, 9, 17] (fun x y z i wr => ∃ k : Nat, k ≤ l.length ∧ i = .int .i64 k ∧ Hid (fxsEqB l l' = fxsEqB (l.drop k) (l'.drop k)) ∧ Below w.heap.size w wr) (fun _ _ _ i _ => l.length - (intOf i).toNat)
    case atStart => exact ⟨0, Nat.zero_le _, rfl, h0, Below.refl _ _⟩
    case round =>
      obtain ⟨k, hk, rfl, hr, hb⟩ := hrel
      by_cases hlt : k < l.length
      · obtain ⟨b, off, p, pc, rfl, hbl, hc, hids⟩ := (h.below hb).at hlt
        obtain ⟨b', off', p', pc', rfl, hbl', hd, hids'⟩ := (h'.below hb).at (k := k) (by omega)
        have hst : Hid (fxsEqB (l.drop k) (l'.drop k) = _) := fxsEqB_step hlt (show k < l'.length by omega)
        have hlt' : k < l'.length := by omega
        generalize l[k] = o at hc hids hst
        generalize l'[k] = o' at hd hids' hst
        obtain ⟨c0, c1, c2, c3⟩ := hc
        obtain ⟨u1, hu1⟩ : ∃ u1, wr.alloc (.cells (fxC o p pc) 62) = u1 := ⟨_, rfl⟩
        have hX := bx_new wr (fxC o p pc) 62
        have bu1 := oBelow_new wr (.cells (fxC o p pc) 62)
        rw [hu1] at hX bu1
        obtain ⟨X, hXe⟩ : ∃ X, wr.heap.size = X := ⟨_, rfl⟩
        rw [hXe] at hX
        obtain ⟨d0, d1, d2, d3⟩ := hd
        rw [← bu1.cell hbl'] at d0 d1 d2 d3
        obtain ⟨u2, hu2⟩ : ∃ u2, u1.alloc (.cells (fxC o' p' pc') 62) = u2 := ⟨_, rfl⟩
        have hY := bx_new u1 (fxC o' p' pc') 62
        have bu2 := oBelow_new u1 (.cells (fxC o' p' pc') 62)
        rw [hu2] at hY bu2
        obtain ⟨Y, hYe⟩ : ∃ Y, u1.heap.size = Y := ⟨_, rfl⟩
        rw [hYe] at hY
        have hX2 := hX.below bu2
        have hb2 := bu1.trans (bu2.mono bu1.size)
        have hbw := hb.trans (hb2.mono hb.size)
        obtain ⟨q0, q1, q2, q3⟩ := hX2.fourF
        obtain ⟨r0, r1, r2, r3⟩ := hY.fourF
        simp only [Nat.zero_add] at q0 q1 q2 q3 r0 r1 r2 r3
        unfold fxC at hu1 hu2
        cases hev : fxEqB o o'
        · go_wp2_with fail
          refine (fireSame_any o o' p p' pc pc' _ (hids.below hb2) (hids'.below hb2)).mono ?_
          rintro e w1 ⟨rfl, hb1⟩
          have hbe := hbw.trans (hb1.mono hbw.size)
          rw [hev]
          go_wp2
          go_ret
          exact ⟨ret_bool (by rw [hr.out, hst.out, hev]; rfl), hbe⟩
        · go_wp2_with fail
          refine (fireSame_any o o' p p' pc pc' _ (hids.below hb2) (hids'.below hb2)).mono ?_
          rintro e w1 ⟨rfl, hb1⟩
          have hbe := hbw.trans (hb1.mono hbw.size)
          rw [hev]
          go_wp2
          exact ⟨⟨k + 1, by omega, by go_num, by show _ = _; rw [hr.out, hst.out, hev]; rfl, hbe⟩, by simp [intOf]; omega⟩
      · go_wp2
        go_ret
        exact ⟨ret_bool (by rw [hr.out, fxsEqB_end hlt Hne.out]), hb⟩
  · rw [fxsEqB_len hne]
    have hnb : ((l.length : Int) != (l'.length : Int)) = true := by simp; omega
    go_enter Try.func28, Try.ntmps28
    go_wp2
    go_ret
    exact ⟨rfl, Below.refl _ _⟩

theorem sameG_any (x y : Gx) (a a' : Option Addr) (c c' : Nat) (w : World) (h : Nds w a x.l) (h' : Nds w a' y.l) :
    Calls Try.prog 25 #[gxV x a c, gxV y a' c'] w fun e w' => e = .returned (.bool (gxEqB x y)) ∧ Below w.heap.size w w' :=
  implGraphSame_any x.m a c x.l x.se x.nw x.fu y.m a' c' y.l y.se y.nw y.fu w h h'
theorem specG_any (x y : Gx) (a a' : Option Addr) (c c' : Nat) (w : World) (h : Nds w a x.l) (h' : Nds w a' y.l) (hx : x.Wf) (hy : y.Wf) :
    Calls Try.prog 17 #[gxV x a c, gxV y a' c'] w fun e w' => e = .returned (.bool (gxEqB x y)) ∧ Below w.heap.size w w' :=
  specGraphSame_any x.m a c x.l x.se x.nw x.fu y.m a' c' y.l y.se y.nw y.fu w h h' hx.l hy.l

set_option maxHeartbeats 2000000 in
theorem equalGraphs_any (a a' : Option Addr) (cap cap' : Nat) (l l' : List Gx) (w : World) (h : Gxs w a l) (h' : Gxs w a' l') :
    Calls Try.prog 24 #[.slice a l.length cap, .slice a' l'.length cap', .func (.func 25) #[] #[]] w fun e w' => e = .returned (.bool (gxsEqB l l')) ∧ Below w.heap.size w w' := by
  have hn := h.len
  have hn' := h'.len
  unfold maxLen at hn hn'
  by_cases hne : l.length = l'.length
  · have h0 : Hid (gxsEqB l l' = gxsEqB (l.drop 0) (l'.drop 0)) := rfl
    have hnb : ((l.length : Int) != (l'.length : Int)) = false := by simp [hne]
    have Hne : Hid (l.length = l'.length) := hne
    have hle : l.length ≤ l'.length := by omega
    clear hne
    go_enter Try.func24, Try.ntmps24
    go_wp2
    go_loopw [7, 8, 9, 17] (fun x y z i wr => ∃ k : Nat, k ≤ l.length ∧ i = .int .i64 k ∧ Hid (gxsEqB l l' = gxsEqB (l.drop k) (l'.drop k)) ∧ Below w.heap.size w wr) (fun _ _ _ i _ => l.length - (intOf i).toNat)
    case atStart => exact ⟨0, Nat.zero_le _, rfl, h0, Below.refl _ _⟩
    case round =>
      obtain ⟨k, hk, rfl, hr, hb⟩ := hrel
      by_cases hlt : k < l.length
      · obtain ⟨b, off, p, pc, rfl, hbl, hc, hids⟩ := (h.below hb).at hlt
        obtain ⟨b', off', p', pc', rfl, hbl', hd, hids'⟩ := (h'.below hb).at (k := k) (by omega)
        have hst : Hid (gxsEqB (l.drop k) (l'.drop k) = _) := gxsEqB_step hlt (show k < l'.length by omega)
        have hlt' : k < l'.length := by omega
        generalize l[k] = o at hc hids hst
        generalize l'[k] = o' at hd hids' hst
        obtain ⟨c0, c1, c2, c3, c4⟩ := hc
        obtain ⟨u1, hu1⟩ : ∃ u1, wr.alloc (.cells (gxC o p pc) 50) = u1 := ⟨_, rfl⟩
        have hX := bx_new wr (gxC o p pc) 50
        have bu1 := oBelow_new wr (.cells (gxC o p pc) 50)
        rw [hu1] at hX bu1
        obtain ⟨X, hXe⟩ : ∃ X, wr.heap.size = X := ⟨_, rfl⟩
        rw [hXe] at hX
        obtain ⟨d0, d1, d2, d3, d4⟩ := hd
        rw [← bu1.cell hbl'] at d0 d1 d2 d3 d4
        obtain ⟨u2, hu2⟩ : ∃ u2, u1.alloc (.cells (gxC o' p' pc') 50) = u2 := ⟨_, rfl⟩
        have hY := bx_new u1 (gxC o' p' pc') 50
        have bu2 := oBelow_new u1 (.cells (gxC o' p' pc') 50)
        rw [hu2] at hY bu2
        obtain ⟨Y, hYe⟩ : ∃ Y, u1.heap.size = Y := ⟨_, rfl⟩
        rw [hYe] at hY
        have hX2 := hX.below bu2
        have hb2 := bu1.trans (bu2.mono bu1.size)
        have hbw := hb.trans (hb2.mono hb.size)
        obtain ⟨q0, q1, q2, q3, q4⟩ := hX2.fiveG
        obtain ⟨r0, r1, r2, r3, r4⟩ := hY.fiveG
        simp only [Nat.zero_add] at q0 q1 q2 q3 q4 r0 r1 r2 r3 r4
        unfold gxC gC at hu1 hu2
        cases hev : gxEqB o o'
        · go_wp2_with fail
          refine (sameG_any o o' p p' pc pc' _ (hids.below hb2) (hids'.below hb2)).mono ?_
          rintro e w1 ⟨rfl, hb1⟩
          have hbe := hbw.trans (hb1.mono hbw.size)
          rw [hev]
          go_wp2
          go_ret
          exact ⟨ret_bool (by rw [hr.out, hst.out, hev]; rfl), hbe⟩
        · go_wp2_with fail
          refine (sameG_any o o' p p' pc pc' _ (hids.below hb2) (hids'.below hb2)).mono ?_
          rintro e w1 ⟨rfl, hb1⟩
          have hbe := hbw.trans (hb1.mono hbw.size)
          rw [hev]
          go_wp2
          exact ⟨⟨k + 1, by omega, by go_num, by show _ = _; rw [hr.out, hst.out, hev]; rfl, hbe⟩, by simp [intOf]; omega⟩
      · go_wp2
        go_ret
        exact ⟨ret_bool (by rw [hr.out, gxsEqB_end hlt Hne.out]), hb⟩
  · rw [gxsEqB_len hne]
    have hnb : ((l.length : Int) != (l'.length : Int)) = true := by simp; omega
    go_enter Try.func24, Try.ntmps24
    go_wp2
    go_ret
    exact ⟨rfl, Below.refl _ _⟩
end Go.Proofs.Ythlddehmebgfoaa
