/- What is looked for, as the draws make it: deep enough, in rows of its own. -/
import Derived.Test.YtpokhhplgljmiaaDoorDrX0
namespace Go.Proofs.YtpokhhplgljmiaaDoor
open Go.ChangeShapes Go.WideShapes Go.ChangeAt Go.RowKit Go.Deep
set_option linter.unusedVariables false
set_option maxRecDepth 4000
theorem Fo.size_app : ∀ F G : Fo, (F.app G).size = F.size + G.size
  | .nil, G => by simp [Fo.app, Fo.size]
  | .cons a b c K F, G => by simp only [Fo.app, Fo.size, Fo.size_app F G]; omega
set_option maxHeartbeats 4000000 in
theorem l2Ex_any : ∀ (d : Nat), d ≤ 5 → ∀ (R p : Nat) (w : World), Rd w R p → p + dq d ≤ 100000 →
    Calls Tryd.prog 39 #[.pointer (some ⟨R, 0, none⟩), .int .i64 d] w (XDraw w R p (dq d) (dz d)) := by
  intro d
  induction d with
  | zero =>
    intro _ R p w hR0 hp
    have hp2 : p + 3 ≤ 100000 := hp
    have hRl0 := hR0.lt
    have hb0 := xBelow_new w (.cells #[.int .i64 0, .int .i64 0, .int .i64 0, .slice none 0 0] 25)
    have hX0 : PBox (w.alloc (.cells #[.int .i64 0, .int .i64 0, .int .i64 0, .slice none 0 0] 25)) w.heap.size 0 0 0 (.slice none 0 0) := ⟨heap_alloc_new _ _⟩
    have hR1 := hR0.below hb0
    have hg0 : w.grownBy (w.alloc (.cells #[.int .i64 0, .int .i64 0, .int .i64 0, .slice none 0 0] 25)) (some R) := grown_below' (grownBy_refl _ _) hb0
    obtain ⟨w0, hw0⟩ : ∃ w0, w.alloc (.cells #[.int .i64 0, .int .i64 0, .int .i64 0, .slice none 0 0] 25) = w0 := ⟨_, rfl⟩
    rw [hw0] at hb0 hX0 hR1 hg0
    have hwl : R < w0.heap.size := hR1.lt
    have hdq : dq 0 = 3 := rfl
    go_enter Tryd.func39, Tryd.ntmps39
    obtain ⟨wA, hwA⟩ : ∃ wA, w0.alloc (.cells #[.int .i64 0, .int .i64 0, .int .i64 1, .int .i64 1, .int .i64 2, .int .i64 2, .int .i64 3, .int .i64 4] 3) = wA := ⟨_, rfl⟩
    have hbA := xBelow_new w0 (.cells #[.int .i64 0, .int .i64 0, .int .i64 1, .int .i64 1, .int .i64 2, .int .i64 2, .int .i64 3, .int .i64 4] 3)
    have hIA := ints_made w0 [0, 0, 1, 1, 2, 2, 3, 4] (by decide) 3
    rw [hwA] at hbA
    have hIA : Ints wA (some ⟨w0.heap.size, 0, none⟩) [0, 0, 1, 1, 2, 2, 3, 4] := by rw [← hwA]; exact hIA
    have hRA := hR1.below hbA
    have hXA := hX0.below hbA
    have hRl := hR1.lt
    go_wp2_with fail
    refine (num_any R _ 8 [0, 0, 1, 1, 2, 2, 3, 4] p _ hRA (by omega) hIA (by decide) (by decide) (fun z hz => by cases hz; show w0.heap.size ≠ R; omega)).mono ?_
    rintro e w3 ⟨s, hs, rfl, hR3, hg3⟩
    have hs4 : 0 ≤ s ∧ s ≤ 4 := by simp at hs; omega
    have hX3 := hXA.grown hg3 (fun e => by have := Option.some.inj e; omega)
    obtain ⟨z0, z1, z2, z3⟩ := hX3.cells
    have f0 := hX3.free 0
    have f1 := hX3.free 1
    have f2 := hX3.free 2
    have f3 := hX3.free 3
    have hgz := grownBy_trans (grown_below' hg0 hbA) hg3
    clear hwA hs
    go_wp2
    refine bodyPost_ret (results_ex rfl _ _ w.heap.size 1 s 0 _ rfl (hX3.store 1 s 0 (.slice none 0 0))) rfl ⟨1, s, 0, none, 0, .nil, [], p + 1, rfl, xd_rd_store hR3 (by omega) _ _ _ _, by omega, by omega, xd_store hgz (Nat.le_refl _) _ _ _ _, ⟨fun _ => rfl, fun h => by simp [Fo.len] at h⟩, List.nodup_nil, (fun x hx => by cases hx), by simp [Fo.len], by simp [Fo.size], ⟨by omega, by omega, by omega, by omega, by omega, by omega⟩⟩
  | succ d ih =>
    intro hd R p w hR0 hp
    have hp2 : p + 3 + 3 * dq d ≤ 100000 := by simp only [dq] at hp; omega
    have hRl0 := hR0.lt
    have hb0 := xBelow_new w (.cells #[.int .i64 0, .int .i64 0, .int .i64 0, .slice none 0 0] 25)
    have hX0 : PBox (w.alloc (.cells #[.int .i64 0, .int .i64 0, .int .i64 0, .slice none 0 0] 25)) w.heap.size 0 0 0 (.slice none 0 0) := ⟨heap_alloc_new _ _⟩
    have hR1 := hR0.below hb0
    have hg0 : w.grownBy (w.alloc (.cells #[.int .i64 0, .int .i64 0, .int .i64 0, .slice none 0 0] 25)) (some R) := grown_below' (grownBy_refl _ _) hb0
    obtain ⟨w0, hw0⟩ : ∃ w0, w.alloc (.cells #[.int .i64 0, .int .i64 0, .int .i64 0, .slice none 0 0] 25) = w0 := ⟨_, rfl⟩
    rw [hw0] at hb0 hX0 hR1 hg0
    have hwl : R < w0.heap.size := hR1.lt
    have hdq : dq (d + 1) = 3 + 3 * dq d := rfl
    obtain ⟨D, hD⟩ : ∃ D : Int, ((d + 1 : Nat) : Int) = D := ⟨_, rfl⟩
    rw [hD]
    have hD1 : D - 1 = (d : Int) := by omega
    by_cases hd1 : D ≤ 1
    · clear ih hD1
      go_enter Tryd.func39, Tryd.ntmps39
      obtain ⟨wA, hwA⟩ : ∃ wA, w0.alloc (.cells #[.int .i64 0, .int .i64 0, .int .i64 1, .int .i64 1, .int .i64 2, .int .i64 2, .int .i64 3, .int .i64 4] 3) = wA := ⟨_, rfl⟩
      have hbA := xBelow_new w0 (.cells #[.int .i64 0, .int .i64 0, .int .i64 1, .int .i64 1, .int .i64 2, .int .i64 2, .int .i64 3, .int .i64 4] 3)
      have hIA := ints_made w0 [0, 0, 1, 1, 2, 2, 3, 4] (by decide) 3
      rw [hwA] at hbA
      have hIA : Ints wA (some ⟨w0.heap.size, 0, none⟩) [0, 0, 1, 1, 2, 2, 3, 4] := by rw [← hwA]; exact hIA
      have hRA := hR1.below hbA
      have hXA := hX0.below hbA
      have hRl := hR1.lt
      go_wp2_with fail
      refine (num_any R _ 8 [0, 0, 1, 1, 2, 2, 3, 4] p _ hRA (by omega) hIA (by decide) (by decide) (fun z hz => by cases hz; show w0.heap.size ≠ R; omega)).mono ?_
      rintro e w3 ⟨s, hs, rfl, hR3, hg3⟩
      have hs4 : 0 ≤ s ∧ s ≤ 4 := by simp at hs; omega
      have hX3 := hXA.grown hg3 (fun e => by have := Option.some.inj e; omega)
      obtain ⟨z0, z1, z2, z3⟩ := hX3.cells
      have f0 := hX3.free 0
      have f1 := hX3.free 1
      have f2 := hX3.free 2
      have f3 := hX3.free 3
      have hgz := grownBy_trans (grown_below' hg0 hbA) hg3
      clear hwA hs
      go_wp2
      refine bodyPost_ret (results_ex rfl _ _ w.heap.size 1 s 0 _ rfl (hX3.store 1 s 0 (.slice none 0 0))) rfl ⟨1, s, 0, none, 0, .nil, [], p + 1, rfl, xd_rd_store hR3 (by omega) _ _ _ _, by omega, by omega, xd_store hgz (Nat.le_refl _) _ _ _ _, ⟨fun _ => rfl, fun h => by simp [Fo.len] at h⟩, List.nodup_nil, (fun x hx => by cases hx), by simp [Fo.len], by simp [Fo.size], ⟨by omega, by omega, by omega, by omega, by omega, by omega⟩⟩
    · go_enter Tryd.func39, Tryd.ntmps39
      go_wp2_with fail
      refine (pick_any R 4 p _ hR1 (by omega) (by omega) (by omega)).mono ?_
      rintro e w1 ⟨c, rfl, _, hc4, hRp, hgp⟩
      have hg1 := grownBy_trans hg0 hgp
      have hX1 := hX0.grown hgp (fun e => by have := Option.some.inj e; omega)
      have hwl1 : R < w1.heap.size := hRp.lt
      have hs01 : w.heap.size < w1.heap.size := hX1.lt
      clear hw0
      by_cases hc : c = 0
      · subst hc
        clear ih hD1
        obtain ⟨wA, hwA⟩ : ∃ wA, w1.alloc (.cells #[.int .i64 0, .int .i64 0, .int .i64 1, .int .i64 1, .int .i64 2, .int .i64 2, .int .i64 3, .int .i64 4] 3) = wA := ⟨_, rfl⟩
        have hbA := xBelow_new w1 (.cells #[.int .i64 0, .int .i64 0, .int .i64 1, .int .i64 1, .int .i64 2, .int .i64 2, .int .i64 3, .int .i64 4] 3)
        have hIA := ints_made w1 [0, 0, 1, 1, 2, 2, 3, 4] (by decide) 3
        rw [hwA] at hbA
        have hIA : Ints wA (some ⟨w1.heap.size, 0, none⟩) [0, 0, 1, 1, 2, 2, 3, 4] := by rw [← hwA]; exact hIA
        have hRA := hRp.below hbA
        have hXA := hX1.below hbA
        have hRl := hRp.lt
        go_wp2_with fail
        refine (num_any R _ 8 [0, 0, 1, 1, 2, 2, 3, 4] (p + 1) _ hRA (by omega) hIA (by decide) (by decide) (fun z hz => by cases hz; show w1.heap.size ≠ R; omega)).mono ?_
        rintro e w3 ⟨s, hs, rfl, hR3, hg3⟩
        have hs4 : 0 ≤ s ∧ s ≤ 4 := by simp at hs; omega
        have hX3 := hXA.grown hg3 (fun e => by have := Option.some.inj e; omega)
        obtain ⟨z0, z1, z2, z3⟩ := hX3.cells
        have f0 := hX3.free 0
        have f1 := hX3.free 1
        have f2 := hX3.free 2
        have f3 := hX3.free 3
        have hgz := grownBy_trans (grown_below' hg1 hbA) hg3
        clear hwA hs
        go_wp2
        refine bodyPost_ret (results_ex rfl _ _ w.heap.size 1 s 0 _ rfl (hX3.store 1 s 0 (.slice none 0 0))) rfl ⟨1, s, 0, none, 0, .nil, [], (p + 1) + 1, rfl, xd_rd_store hR3 (by omega) _ _ _ _, by omega, by omega, xd_store hgz (Nat.le_refl _) _ _ _ _, ⟨fun _ => rfl, fun h => by simp [Fo.len] at h⟩, List.nodup_nil, (fun x hx => by cases hx), by simp [Fo.len], by simp [Fo.size], ⟨by omega, by omega, by omega, by omega, by omega, by omega⟩⟩
      · have hcb : ((c : Int) == 0) = false := by simp; omega
        obtain ⟨wA, hwA⟩ : ∃ wA, w1.alloc (.cells #[.int .i64 2, .int .i64 3, .int .i64 3, .int .i64 4, .int .i64 4, .int .i64 4, .int .i64 5, .int .i64 6, .int .i64 7] 3) = wA := ⟨_, rfl⟩
        have hbA := xBelow_new w1 (.cells #[.int .i64 2, .int .i64 3, .int .i64 3, .int .i64 4, .int .i64 4, .int .i64 4, .int .i64 5, .int .i64 6, .int .i64 7] 3)
        have hIA := ints_made w1 [2, 3, 3, 4, 4, 4, 5, 6, 7] (by decide) 3
        rw [hwA] at hbA
        have hIA : Ints wA (some ⟨w1.heap.size, 0, none⟩) [2, 3, 3, 4, 4, 4, 5, 6, 7] := by rw [← hwA]; exact hIA
        have hRA := hRp.below hbA
        have hXA := hX1.below hbA
        go_wp2_with fail
        refine (num_any R _ 9 [2, 3, 3, 4, 4, 4, 5, 6, 7] (p + 1) _ hRA (by omega) hIA (by decide) (by decide) (fun z hz => by cases hz; show w1.heap.size ≠ R; omega)).mono ?_
        rintro e w2 ⟨kd, hkm, rfl, hR2, hgn⟩
        have hkd : 2 ≤ kd ∧ kd ≤ 7 := by simp at hkm; omega
        have hX2 := hXA.grown hgn (fun e => by have := Option.some.inj e; omega)
        have hg2 := grownBy_trans (grown_below' hg1 hbA) hgn
        clear hwA hkm hcb
        have hbx := xBelow_new w2 (.cells #[.int .i64 kd, .int .i64 0, .int .i64 0, .slice none 0 0] 25)
        have hx4 : PBox (w2.alloc (.cells #[.int .i64 kd, .int .i64 0, .int .i64 0, .slice none 0 0] 25)) w2.heap.size kd 0 0 (.slice none 0 0) := ⟨heap_alloc_new _ _⟩
        have hR4 := hR2.below hbx
        have h04 := hX2.below hbx
        have hg4 := grown_below' hg2 hbx
        have hs02 := hX2.lt
        have hR2l := hR2.lt
        obtain ⟨X, hXe⟩ : ∃ X, w2.heap.size = X := ⟨_, rfl⟩
        rw [hXe] at hx4 hs02 hR2l
        have hx4l := hx4.lt
        obtain ⟨x0, x1, x2, x3⟩ := hx4.cells
        by_cases h7 : kd = 7
        · have h7b : (kd == 7) = true := by simp [h7]
          have H7 : Hid (kd = 7) := h7
          clear h7
          clear x0 x1 x2 x3
          go_wp2_with fail
          obtain ⟨w4, hw4⟩ : ∃ w4, w2.alloc (.cells #[.int .i64 kd, .int .i64 0, .int .i64 0, .slice none 0 0] 25) = w4 := ⟨_, rfl⟩
          have hs4 : w4.heap.size = X + 1 := by rw [← hw4, ← hXe]; exact World.size_alloc _ _
          rw [hw4] at hbx hx4 hR4 h04 hg4 hx4l
          rw [hw4]
          clear hw4 hXe
          have hbB := xBelow_new w4 (.cells #[.int .i64 1, .int .i64 2, .int .i64 3, .int .i64 5, .int .i64 20] 3)
          have hIB := ints_made w4 [1, 2, 3, 5, 20] (by decide) 3
          have hIB : Ints (w4.alloc (.cells #[.int .i64 1, .int .i64 2, .int .i64 3, .int .i64 5, .int .i64 20] 3)) (some ⟨w4.heap.size, 0, none⟩) [1, 2, 3, 5, 20] := hIB
          rw [hs4] at hIB
          obtain ⟨wB, hwB⟩ : ∃ wB, w4.alloc (.cells #[.int .i64 1, .int .i64 2, .int .i64 3, .int .i64 5, .int .i64 20] 3) = wB := ⟨_, rfl⟩
          rw [hwB] at hbB hIB
          rw [hwB]
          have hRB := hR4.below hbB
          have hxB := hx4.below hbB
          have h0B := h04.below hbB
          have hgB := grown_below' hg4 hbB
          clear hwB hs4
          refine (num_any R _ 5 [1, 2, 3, 5, 20] (p + 1 + 1) _ hRB (by omega) hIB (by decide) (by decide) (fun z hz => by cases hz; show X + 1 ≠ R; omega)).mono ?_
          rintro e w5 ⟨nn, hnm, rfl, hR5, hgm⟩
          have hnn : 1 ≤ nn ∧ nn ≤ 20 := by simp at hnm; omega
          have hx5 := hxB.grown hgm (fun e => by have := Option.some.inj e; omega)
          have h05 := h0B.grown hgm (fun e => by have := Option.some.inj e; omega)
          have hg5 := grownBy_trans hgB hgm
          clear hnm
          obtain ⟨x0, x1, x2, x3⟩ := hx5.cells
          have ff := hx5.free 2
          have hx6 := hx5.put2 nn
          have h06 := h05.other X 2 (by omega) (.int .i64 nn)
          have hR6 := xd_rd_set hR5 hR2l 2 (.int .i64 nn)
          have hg6 := xd_new hg5 (b := X) (by omega) 2 (.int .i64 nn)
          obtain ⟨w6, hw6⟩ : ∃ w6, w5.setCell ⟨X, 2, none⟩ (.int .i64 nn) = w6 := ⟨_, rfl⟩
          rw [hw6] at hx6 h06 hR6 hg6
          clear hRB hxB h0B hgB hR5 hx5 h05 hg5 hgm hIB hbB
          have hKr := kids_range2 hkd
          obtain ⟨K, hK⟩ : ∃ K : Nat, kidsOf kd = K := ⟨(kidsOf kd).toNat, by omega⟩
          have hKc := fun w => specKids_any kd w
          rw [hK] at hKc
          have hK3 : K ≤ 3 := by omega
          clear hKr hK
          obtain ⟨x0, x1, x2, x3⟩ := hx6.cells
          go_wp2_with fail
          refine (hKc _).mono ?_
          rintro e wz ⟨rfl, hx⟩
          replace hx := hx.symm
          subst hx
          go_wp2_with fail
          clear x0 x1 x2 x3 hKc
          go_loopw [6] (fun i wr => ∃ (m : Nat) (q : List Hd) (G : Fo) (S : List Nat) (v : Value) (pr : Nat), i = .int .i64 m ∧ q.length + m ≤ 3 ∧ PBox wr X kd 0 nn v ∧ PBox wr w.heap.size 0 0 0 (.slice none 0 0) ∧ wr.ownsRow (X + 1) 25 4 v q.length (hdCells q) ∧ Hid (HeadsS wr q G S) ∧ S.Nodup ∧ Hid (∀ y ∈ S, X + 1 ≤ y ∧ y < wr.heap.size ∧ some y ≠ v.ownBlock) ∧ Rd wr R pr ∧ p ≤ pr ∧ pr + m * dq d ≤ p + 3 + 3 * dq d ∧ G.size + m * (dz d + 1) ≤ 3 * (dz d + 1) ∧ w.grownBy wr (some R)) (fun i _ => (intOf i).toNat)
          case atStart => exact ⟨K, [], .nil, [], .slice none 0 0, (p + 1 + 1 + 1), rfl, by simpa using hK3, hx6, h06, World.ownsRow_nil _ _ _ _, rfl, List.nodup_nil, (fun y hy => absurd hy List.not_mem_nil : ∀ y ∈ ([] : List Nat), X + 1 ≤ y ∧ y < w6.heap.size ∧ some y ≠ (Value.slice none 0 0).ownBlock), hR6, by omega, by have := Nat.mul_le_mul_right (dq d) hK3; omega, by have := Nat.mul_le_mul_right (dz d + 1) hK3; simp only [Fo.size]; omega, hg6⟩
          case round =>
            obtain ⟨m, q, G, S, v, pr, rfl, hqm, hX, h0, hown, hHd, hnd, hS, hR, hpr0, hpr1, hGz, hg⟩ := hrel
            have hXl := hX.lt
            have hRX := hR.lt
            by_cases hm : 0 < m
            · have hm' : (0 : Int) < (m : Int) := by omega
              obtain ⟨m, rfl⟩ : ∃ m', m = m' + 1 := ⟨m - 1, by omega⟩
              have hm1 : ((m + 1 : Nat) : Int) - 1 = (m : Int) := by omega
              have hpm : pr + dq d + m * dq d ≤ p + 3 + 3 * dq d := by rw [Nat.succ_mul] at hpr1; omega
              have hGm : G.size + (dz d + 1) + m * (dz d + 1) ≤ 3 * (dz d + 1) := by rw [Nat.succ_mul] at hGz; omega
              have hcS : Calls Tryd.prog 39 #[.pointer (some ⟨R, 0, none⟩), .int .i64 d] wr.drew (XDraw wr.drew R pr (dq d) (dz d)) := ih (by omega) R pr wr.drew (hR.below ((Below.refl _ _).drew)) (by omega)
              clear ih hpr1 hGz
              have hwd : Hid (IntKind.i64.wrap (d : Int) = d) := by show _ = _; rw [IntKind.wrap_i64]; omega
              obtain ⟨x0, x1, x2, x3⟩ := hX.cells
              obtain ⟨M, hM⟩ : ∃ M : Nat, m + 1 = M := ⟨_, rfl⟩
              rw [hM] at hm1 hm'
              rw [hM]
              have HM : Hid (m + 1 = M) := hM
              clear hM hD hm
              try clear hX0; try clear hR1; try clear hg0; try clear hb0; try clear hRp; try clear hgp; try clear hg1; try clear hX1; try clear hwl1; try clear hs01; try clear hIA; try clear hRA; try clear hXA; try clear hbA; try clear hgn; try clear hX2; try clear hg2; try clear hR2; try clear hbx; try clear hp; try clear hR0; try clear hdq
              go_wp2_with fail
              go_region_law (first
                | refine xd_step rfl (.tmp 37) (.tmp 42) 23 rfl _ _ rfl rfl hrun ?_
                | (go_simp; go_wp2_with (go_at_call 39; rw [hwd.out]; refine hcS.mono ?_; rintro e w6 ⟨kd', sy', n', a', cap', F', S', p3, rfl, hR3, hp3, hp4, hg6, hO6, hnd6, hS6, hF3, hz3, hk3⟩; obtain ⟨hX6, w7, hw7, hX7, v8, w8, hrun, r0, r1, r2, r3⟩ := kin_run (kd' := kd') (sy' := sy') (n' := n') (a' := a') (len := F'.len) (cap' := cap') hX hown hg6 (by omega) (by omega); obtain ⟨e0, e1, e2, e3⟩ := hX6.cells; obtain ⟨gv, cv, rfl⟩ := ownsRow_succ r1; obtain ⟨y0, y1, y2, y3⟩ := r0.cells; obtain ⟨t0, t1, t2, t3⟩ := hX7.cells; have hf3 := r0.free 3)))
              all_goals go_wp2
              all_goals
                have HM := HM.out
                have hz8 : (G.app (.cons kd' sy' n' F' .nil)).size = G.size + F'.size + 1 := by rw [Fo.size_app]; simp only [Fo.size]; omega
                obtain ⟨k1, k2, k3, k4, k5, k6, k7, k8⟩ := kin_close hRl0 hs02 hg hX h0 hown hHd.out hnd hS.out hg6 hR3 hO6 hnd6 hS6 hF3 hw7 r0 r1 r2 (r3 gv rfl) rfl
                have K5 : Hid _ := k5
                have K7 : Hid _ := k7
                exact ⟨⟨m, q ++ [⟨kd', sy', n', a', F'.len, cap'⟩], G.app (.cons kd' sy' n' F' .nil), S ++ S', .slice (some ⟨gv, 0, none⟩) (q.length + 1) cv, p3, rfl, by simp; omega, k2, k3, by rw [List.length_append]; exact k4, K5, k6, K7, k1, by omega, by omega, by rw [hz8]; omega, k8⟩, by simp [intOf]; omega⟩
            · obtain rfl : m = 0 := by omega
              obtain ⟨va, vc, rfl⟩ := slice_own hown
              obtain ⟨x0, x1, x2, x3⟩ := hX.cells
              obtain ⟨z0, z1, z2, z3⟩ := h0.cells
              have f0 := h0.free 0
              have f1 := h0.free 1
              have f2 := h0.free 2
              have f3 := h0.free 3
              obtain ⟨T, hT, hTn, hTb⟩ := own_row hown hHd.out hnd hS.out
              have hGl : Hid (q.length = G.len) := hHd.out.len q G S
              clear ih
              go_wp2
              refine bodyPost_ret (results_ex rfl _ _ w.heap.size kd 0 nn _ rfl (h0.store kd 0 nn (.slice va q.length vc))) rfl ⟨kd, 0, nn, va, vc, G, T, pr, by rw [← hGl.out], xd_rd_store hR (by omega) _ _ _ _, hpr0, by simp only [dq]; omega, xd_store hg (Nat.le_refl _) _ _ _ _, hT.of_blocks (fun y hy => store_low (lo := w.heap.size + 1) (by omega) _ _ _ _ y (by have := (hTb y hy).1; omega)), hTn, fun y hy => ⟨by have := (hTb y hy).1; omega, by have := (hTb y hy).2; simpa using this⟩, by have := hGl.out; omega, by simp only [dz]; omega, ⟨by omega, by omega, by omega, by omega, by omega, by omega⟩⟩
        · have h7b : (kd == 7) = false := by simpa using h7
          have H7 : Hid (kd ≠ 7) := h7
          clear h7
          go_wp2_with fail
          obtain ⟨w4, hw4⟩ : ∃ w4, w2.alloc (.cells #[.int .i64 kd, .int .i64 0, .int .i64 0, .slice none 0 0] 25) = w4 := ⟨_, rfl⟩
          rw [hw4] at hbx hx4 hR4 h04 hg4 x0 x1 x2 x3 hx4l
          rw [hw4]
          clear hw4 hXe x0 x1 x2 x3
          have hKr := kids_range2 hkd
          obtain ⟨K, hK⟩ : ∃ K : Nat, kidsOf kd = K := ⟨(kidsOf kd).toNat, by omega⟩
          have hKc := fun w => specKids_any kd w
          rw [hK] at hKc
          have hK3 : K ≤ 3 := by omega
          clear hKr hK
          obtain ⟨x0, x1, x2, x3⟩ := hx4.cells
          go_wp2_with fail
          refine (hKc _).mono ?_
          rintro e wz ⟨rfl, hx⟩
          replace hx := hx.symm
          subst hx
          go_wp2_with fail
          clear x0 x1 x2 x3 hKc
          go_loopw [6] (fun i wr => ∃ (m : Nat) (q : List Hd) (G : Fo) (S : List Nat) (v : Value) (pr : Nat), i = .int .i64 m ∧ q.length + m ≤ 3 ∧ PBox wr X kd 0 0 v ∧ PBox wr w.heap.size 0 0 0 (.slice none 0 0) ∧ wr.ownsRow (X + 1) 25 4 v q.length (hdCells q) ∧ Hid (HeadsS wr q G S) ∧ S.Nodup ∧ Hid (∀ y ∈ S, X + 1 ≤ y ∧ y < wr.heap.size ∧ some y ≠ v.ownBlock) ∧ Rd wr R pr ∧ p ≤ pr ∧ pr + m * dq d ≤ p + 3 + 3 * dq d ∧ G.size + m * (dz d + 1) ≤ 3 * (dz d + 1) ∧ w.grownBy wr (some R)) (fun i _ => (intOf i).toNat)
          case atStart => exact ⟨K, [], .nil, [], .slice none 0 0, (p + 1 + 1), rfl, by simpa using hK3, hx4, h04, World.ownsRow_nil _ _ _ _, rfl, List.nodup_nil, (fun y hy => absurd hy List.not_mem_nil : ∀ y ∈ ([] : List Nat), X + 1 ≤ y ∧ y < w4.heap.size ∧ some y ≠ (Value.slice none 0 0).ownBlock), hR4, by omega, by have := Nat.mul_le_mul_right (dq d) hK3; omega, by have := Nat.mul_le_mul_right (dz d + 1) hK3; simp only [Fo.size]; omega, hg4⟩
          case round =>
            obtain ⟨m, q, G, S, v, pr, rfl, hqm, hX, h0, hown, hHd, hnd, hS, hR, hpr0, hpr1, hGz, hg⟩ := hrel
            have hXl := hX.lt
            have hRX := hR.lt
            by_cases hm : 0 < m
            · have hm' : (0 : Int) < (m : Int) := by omega
              obtain ⟨m, rfl⟩ : ∃ m', m = m' + 1 := ⟨m - 1, by omega⟩
              have hm1 : ((m + 1 : Nat) : Int) - 1 = (m : Int) := by omega
              have hpm : pr + dq d + m * dq d ≤ p + 3 + 3 * dq d := by rw [Nat.succ_mul] at hpr1; omega
              have hGm : G.size + (dz d + 1) + m * (dz d + 1) ≤ 3 * (dz d + 1) := by rw [Nat.succ_mul] at hGz; omega
              have hcS : Calls Tryd.prog 39 #[.pointer (some ⟨R, 0, none⟩), .int .i64 d] wr.drew (XDraw wr.drew R pr (dq d) (dz d)) := ih (by omega) R pr wr.drew (hR.below ((Below.refl _ _).drew)) (by omega)
              clear ih hpr1 hGz
              have hwd : Hid (IntKind.i64.wrap (d : Int) = d) := by show _ = _; rw [IntKind.wrap_i64]; omega
              obtain ⟨x0, x1, x2, x3⟩ := hX.cells
              obtain ⟨M, hM⟩ : ∃ M : Nat, m + 1 = M := ⟨_, rfl⟩
              rw [hM] at hm1 hm'
              rw [hM]
              have HM : Hid (m + 1 = M) := hM
              clear hM hD hm
              try clear hX0; try clear hR1; try clear hg0; try clear hb0; try clear hRp; try clear hgp; try clear hg1; try clear hX1; try clear hwl1; try clear hs01; try clear hIA; try clear hRA; try clear hXA; try clear hbA; try clear hgn; try clear hX2; try clear hg2; try clear hR2; try clear hbx; try clear hp; try clear hR0; try clear hdq
              go_wp2_with fail
              go_region_law (first
                | refine xd_step rfl (.tmp 37) (.tmp 42) 23 rfl _ _ rfl rfl hrun ?_
                | (go_simp; go_wp2_with (go_at_call 39; rw [hwd.out]; refine hcS.mono ?_; rintro e w6 ⟨kd', sy', n', a', cap', F', S', p3, rfl, hR3, hp3, hp4, hg6, hO6, hnd6, hS6, hF3, hz3, hk3⟩; obtain ⟨hX6, w7, hw7, hX7, v8, w8, hrun, r0, r1, r2, r3⟩ := kin_run (kd' := kd') (sy' := sy') (n' := n') (a' := a') (len := F'.len) (cap' := cap') hX hown hg6 (by omega) (by omega); obtain ⟨e0, e1, e2, e3⟩ := hX6.cells; obtain ⟨gv, cv, rfl⟩ := ownsRow_succ r1; obtain ⟨y0, y1, y2, y3⟩ := r0.cells; obtain ⟨t0, t1, t2, t3⟩ := hX7.cells; have hf3 := r0.free 3)))
              all_goals go_wp2
              all_goals
                have HM := HM.out
                have hz8 : (G.app (.cons kd' sy' n' F' .nil)).size = G.size + F'.size + 1 := by rw [Fo.size_app]; simp only [Fo.size]; omega
                obtain ⟨k1, k2, k3, k4, k5, k6, k7, k8⟩ := kin_close hRl0 hs02 hg hX h0 hown hHd.out hnd hS.out hg6 hR3 hO6 hnd6 hS6 hF3 hw7 r0 r1 r2 (r3 gv rfl) rfl
                have K5 : Hid _ := k5
                have K7 : Hid _ := k7
                exact ⟨⟨m, q ++ [⟨kd', sy', n', a', F'.len, cap'⟩], G.app (.cons kd' sy' n' F' .nil), S ++ S', .slice (some ⟨gv, 0, none⟩) (q.length + 1) cv, p3, rfl, by simp; omega, k2, k3, by rw [List.length_append]; exact k4, K5, k6, K7, k1, by omega, by omega, by rw [hz8]; omega, k8⟩, by simp [intOf]; omega⟩
            · obtain rfl : m = 0 := by omega
              obtain ⟨va, vc, rfl⟩ := slice_own hown
              obtain ⟨x0, x1, x2, x3⟩ := hX.cells
              obtain ⟨z0, z1, z2, z3⟩ := h0.cells
              have f0 := h0.free 0
              have f1 := h0.free 1
              have f2 := h0.free 2
              have f3 := h0.free 3
              obtain ⟨T, hT, hTn, hTb⟩ := own_row hown hHd.out hnd hS.out
              have hGl : Hid (q.length = G.len) := hHd.out.len q G S
              clear ih
              go_wp2
              refine bodyPost_ret (results_ex rfl _ _ w.heap.size kd 0 0 _ rfl (h0.store kd 0 0 (.slice va q.length vc))) rfl ⟨kd, 0, 0, va, vc, G, T, pr, by rw [← hGl.out], xd_rd_store hR (by omega) _ _ _ _, hpr0, by simp only [dq]; omega, xd_store hg (Nat.le_refl _) _ _ _ _, hT.of_blocks (fun y hy => store_low (lo := w.heap.size + 1) (by omega) _ _ _ _ y (by have := (hTb y hy).1; omega)), hTn, fun y hy => ⟨by have := (hTb y hy).1; omega, by have := (hTb y hy).2; simpa using this⟩, by have := hGl.out; omega, by simp only [dz]; omega, ⟨by omega, by omega, by omega, by omega, by omega, by omega⟩⟩
end Go.Proofs.YtpokhhplgljmiaaDoor
