/- What is looked for, drawn till it is ok. -/
import Derived.Test.YtpokhhplgljmiaaDoorDrX
import Derived.Test.YtpokhhplgljmiaaDoorEx6
namespace Go.Proofs.YtpokhhplgljmiaaDoor
open Go.ChangeShapes Go.WideShapes Go.ChangeAt Go.RowKit Go.Deep
set_option linter.unusedVariables false
set_option maxRecDepth 4000

theorem dq_le : ∀ d, d ≤ 4 → dq d ≤ 363 := by
  intro d hd
  have cs : d = 0 ∨ d = 1 ∨ d = 2 ∨ d = 3 ∨ d = 4 := by omega
  rcases cs with rfl | rfl | rfl | rfl | rfl <;> decide
theorem dz_le : ∀ d, d ≤ 4 → dz d ≤ 120 := by
  intro d hd
  have cs : d = 0 ∨ d = 1 ∨ d = 2 ∨ d = 3 ∨ d = 4 := by omega
  rcases cs with rfl | rfl | rfl | rfl | rfl <;> decide
theorem XDraw.more {w : World} {R p q z q' z' : Nat} {e : Ending} {w' : World} (h : XDraw w R p q z e w') (hq : q ≤ q') (hz : z ≤ z') : XDraw w R p q' z' e w' := by
  obtain ⟨kd, sy, n, a, cap, F, S, p', h0, h1, h2, h3, h4, h5, h6, h7, h8, h9, h10⟩ := h
  exact ⟨kd, sy, n, a, cap, F, S, p', h0, h1, h2, by omega, h4, h5, h6, h7, h8, by omega, h10⟩
/-- A draw behind what the call has done ahead of it. -/
theorem XDraw.since {w v : World} {R p p1 q z q' : Nat} {e : Ending} {w' : World} (h : XDraw v R p1 q z e w') (hg : w.grownBy v (some R)) (h0 : p ≤ p1) (hq : p1 + q ≤ p + q') : XDraw w R p q' z e w' := by
  obtain ⟨kd, sy, n, a, cap, F, S, p', h0, h1, h2, h3, h4, h5, h6, h7, h8, h9, h10⟩ := h
  exact ⟨kd, sy, n, a, cap, F, S, p', h0, h1, by omega, by omega, grownBy_trans hg h4, h5, h6, fun y hy => ⟨Nat.le_trans hg.4 (h7 y hy).1, (h7 y hy).2⟩, h8, h9, h10⟩

set_option maxHeartbeats 1000000 in
theorem l2Some_any (R p : Nat) (w : World) (h : Rd w R p) (hp : p ≤ 90000) : Calls Tryd.prog 27 #[.pointer (some ⟨R, 0, none⟩)] w (XDraw w R p 800 120) := by
  have hRl := h.lt
  have hb0 := xBelow_new w (.cells #[.int .i64 0, .int .i64 0, .int .i64 0, .slice none 0 0] 25)
  have h00 : PBox (w.alloc (.cells #[.int .i64 0, .int .i64 0, .int .i64 0, .slice none 0 0] 25)) w.heap.size 0 0 0 (.slice none 0 0) := ⟨heap_alloc_new _ _⟩
  have hR0 := h.below hb0
  have hg0 : w.grownBy (w.alloc (.cells #[.int .i64 0, .int .i64 0, .int .i64 0, .slice none 0 0] 25)) (some R) := grown_below' (grownBy_refl _ _) hb0
  obtain ⟨w0, hw0⟩ : ∃ w0, w.alloc (.cells #[.int .i64 0, .int .i64 0, .int .i64 0, .slice none 0 0] 25) = w0 := ⟨_, rfl⟩
  rw [hw0] at hb0 h00 hR0 hg0
  go_enter Tryd.func27, Tryd.ntmps27
  go_wp2_with fail
  refine (pick_any R 4 p _ hR0 (by omega) (by omega) (by omega)).mono ?_
  rintro e w1 ⟨c, rfl, _, hc4, hR1, hgp⟩
  have hc : (c : Int) < 4 := hc4 (by omega)
  have hg1 := grownBy_trans hg0 hgp
  have h01 := h00.grown hgp (fun e => by have := Option.some.inj e; omega)
  obtain ⟨D, hD⟩ : ∃ D : Nat, 1 + c = D := ⟨_, rfl⟩
  have hDc : (1 : Int) + (c : Int) = (D : Int) := by omega
  have hD4 : D ≤ 4 := by omega
  have hDw : IntKind.i64.wrap (D : Int) = D := by rw [IntKind.wrap_i64]; omega
  have hE := (l2Ex_any D (by omega) R (p + 1) w1 hR1 (by have := dq_le D hD4; omega)).mono (fun e w' h => h.more (dq_le D hD4) (dz_le D hD4))
  clear hD hw0 hc4
  go_wp2_with fail
  refine hE.mono ?_
  clear hE
  rintro e w2 ⟨kd, sy, n, a, cap, F, S, p2, rfl, hR2, hp0, hp1, hg12, hO, hnd, hS, hl3, hz, hk⟩
  have h02 := h01.grown hg12 (fun e => by have := Option.some.inj e; omega)
  have hg2 := grownBy_trans hg1 hg12
  have hs1 := hg1.4
  have hs01 := h01.lt
  have hbx := xBelow_new w2 (.cells #[.int .i64 kd, .int .i64 sy, .int .i64 n, .slice a F.len cap] 25)
  have hx3 : PBox (w2.alloc (.cells #[.int .i64 kd, .int .i64 sy, .int .i64 n, .slice a F.len cap] 25)) w2.heap.size kd sy n (.slice a F.len cap) := ⟨heap_alloc_new _ _⟩
  have hR3 := hR2.below hbx
  have h03 := h02.below hbx
  have hO3 := hO.below hbx
  have hg3 := grown_below' hg2 hbx
  obtain ⟨w3, hw3⟩ : ∃ w3, w2.alloc (.cells #[.int .i64 kd, .int .i64 sy, .int .i64 n, .slice a F.len cap] 25) = w3 := ⟨_, rfl⟩
  rw [hw3] at hbx hx3 hR3 h03 hO3 hg3
  have hs3 := hbx.size
  have hs02 := h02.lt
  have hOk := specExOk_any kd sy n a cap F w3 (hO3.slc (by unfold maxLen; omega)) (by omega)
  have hRl3 := hR3.lt
  have hX3 := hx3.cells
  obtain ⟨x0, x1, x2, x3⟩ := hx3.cells
  go_wp2_with fail
  refine hOk.mono ?_
  rintro e w4 ⟨rfl, hb4⟩
  clear hOk hw3
  have hR4 := hR3.below hb4
  have h04 := h03.below hb4
  have hx4 := hx3.below hb4
  have hO4 := hO3.below hb4
  have hg4 := grown_below' hg3 hb4
  obtain ⟨x0, x1, x2, x3⟩ := hx4.cells
  obtain ⟨z0, z1, z2, z3⟩ := h04.cells
  have f0 := h04.free 0
  have f1 := h04.free 1
  have f2 := h04.free 2
  have f3 := h04.free 3
  have hs4 := hb4.size
  cases hok : okX kd sy n F
  · go_wp2_with fail
    refine ((l2Ex_any 2 (by omega) R p2 w4 hR4 (by have := dq_le 2 (by omega); omega)).mono (fun e w' h => h.more (dq_le 2 (by omega)) (dz_le 2 (by omega)))).mono ?_
    rintro e w5 ⟨kd', sy', n', a', cap', F', S', p5, rfl, hR5, hq0, hq1, hg45, hO5, hnd5, hS5, hl5, hz5, hk5⟩
    have h05 := h04.grown hg45 (fun e => by have := Option.some.inj e; omega)
    have hg5 := grownBy_trans hg4 hg45
    have hs5 := hg45.4
    clear x0 x1 x2 x3 z0 z1 z2 z3 f0 f1 f2 f3
    obtain ⟨z0, z1, z2, z3⟩ := h05.cells
    have f0 := h05.free 0
    have f1 := h05.free 1
    have f2 := h05.free 2
    have f3 := h05.free 3
    go_wp2
    refine bodyPost_ret (results_ex rfl _ _ w.heap.size kd' sy' n' _ rfl (h05.store kd' sy' n' (.slice a' F'.len cap'))) rfl ⟨kd', sy', n', a', cap', F', S', p5, rfl, xd_rd_store hR5 (by omega) _ _ _ _, by omega, by omega, xd_store hg5 (Nat.le_refl _) _ _ _ _, hO5.of_blocks (fun y hy => store_low (lo := w.heap.size + 1) (by omega) _ _ _ _ y (by have := (hS5 y hy).1; omega)), hnd5, fun y hy => ⟨by have := (hS5 y hy).1; omega, by have := (hS5 y hy).2; simpa using this⟩, hl5, hz5, hk5⟩
  · go_wp2
    refine bodyPost_ret (results_ex rfl _ _ w.heap.size kd sy n _ rfl (h04.store kd sy n (.slice a F.len cap))) rfl ⟨kd, sy, n, a, cap, F, S, p2, rfl, xd_rd_store hR4 (by omega) _ _ _ _, by omega, by omega, xd_store hg4 (Nat.le_refl _) _ _ _ _, hO4.of_blocks (fun y hy => store_low (lo := w.heap.size + 1) (by omega) _ _ _ _ y (by have := (hS y hy).1; omega)), hnd, fun y hy => ⟨by have := (hS y hy).1; omega, by have := (hS y hy).2; simp; omega⟩, hl3, hz, hk⟩
end Go.Proofs.YtpokhhplgljmiaaDoor
