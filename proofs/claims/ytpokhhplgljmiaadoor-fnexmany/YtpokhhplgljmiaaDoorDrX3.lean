/- What is looked for, drawn, one in twelve bent. -/
import Derived.Test.YtpokhhplgljmiaaDoorDrX2
namespace Go.Proofs.YtpokhhplgljmiaaDoor
open Go.ChangeShapes Go.WideShapes Go.ChangeAt Go.RowKit Go.Deep
set_option linter.unusedVariables false
set_option maxRecDepth 4000
def XBent (w : World) (R p : Nat) (e : Ending) (w' : World) : Prop :=
  ∃ (kd sy n : Int) (a : Option Addr) (cap : Nat) (F : Fo) (S : List Nat) (p' : Nat), e = .returned (.agg #[.int .i64 kd, .int .i64 sy, .int .i64 n, .slice a F.len cap]) ∧ Rd w' R p' ∧ p ≤ p' ∧ p' ≤ p + 900 ∧ w.grownBy w' (some R) ∧ OwnAt w' a S F ∧ S.Nodup ∧ (∀ y ∈ S, w.heap.size ≤ y ∧ y < w'.heap.size) ∧ F.len ≤ 3 ∧ F.size ≤ 2000 ∧ (-1 ≤ kd ∧ kd ≤ 21 ∧ -1 ≤ sy ∧ sy ≤ 21 ∧ -1 ≤ n ∧ n ≤ 21)
theorem PBox.put0 {w : World} {b : Nat} {kd sy n : Int} {v : Value} (h : PBox w b kd sy n v) (x : Int) : PBox (w.setCell ⟨b, 0, none⟩ (.int .i64 x)) b x sy n v := ⟨heap_setCell_same _ _ _ _ _ _ h.row⟩
theorem PBox.put1 {w : World} {b : Nat} {kd sy n : Int} {v : Value} (h : PBox w b kd sy n v) (x : Int) : PBox (w.setCell ⟨b, 1, none⟩ (.int .i64 x)) b kd x n v := ⟨heap_setCell_same _ _ _ _ _ _ h.row⟩
theorem own_one {w : World} {a : Option Addr} {S : List Nat} {F : Fo} {b cap : Nat} {kd sy n : Int} (h : OwnAt w a S F) (hl : F.len ≤ maxLen) (hr : PBox w b kd sy n (.slice a F.len cap)) : OwnAt w (some ⟨b, 0, none⟩) (b :: S) (.cons kd sy n F .nil) := by
  obtain ⟨c0, c1, c2, c3⟩ := hr.cells
  refine ⟨fun h0 => by simp [Fo.len] at h0, fun _ => ⟨b, S, rfl, rfl, ⟨_, _, hr.row⟩, ?_⟩⟩
  show OwnKids w b 0 1 S _
  exact ⟨S, [], by simp, ⟨c0, by simpa using c1, by simpa using c2⟩, ⟨a, cap, by simpa using c3, hl, h.1, h.2⟩, OwnKids.zero.2 rfl⟩
theorem own_two {w : World} {a a2 : Option Addr} {S S2 : List Nat} {F F2 : Fo} {b cap cap2 : Nat} {kd sy n kd2 sy2 n2 : Int} {t : TypeId} (h : OwnAt w a S F) (hl : F.len ≤ maxLen) (h2 : OwnAt w a2 S2 F2) (hl2 : F2.len ≤ maxLen)
    (hr : w.heap[b]? = some (.cells #[.int .i64 kd, .int .i64 sy, .int .i64 n, .slice a F.len cap, .int .i64 kd2, .int .i64 sy2, .int .i64 n2, .slice a2 F2.len cap2] t (0, 0))) : OwnAt w (some ⟨b, 0, none⟩) (b :: (S ++ S2)) (.cons kd sy n F (.cons kd2 sy2 n2 F2 .nil)) := by
  refine ⟨fun h0 => by simp [Fo.len] at h0, fun _ => ⟨b, S ++ S2, rfl, rfl, ⟨_, _, hr⟩, ?_⟩⟩
  show OwnKids w b 0 2 (S ++ S2) _
  refine ⟨S, S2, rfl, ⟨by rw [xCell hr]; rfl, by rw [xCell hr]; rfl, by rw [xCell hr]; rfl⟩, ⟨a, cap, by rw [xCell hr]; rfl, hl, h.1, h.2⟩, ?_⟩
  exact ⟨S2, [], by simp, ⟨by rw [xCell hr]; rfl, by rw [xCell hr]; rfl, by rw [xCell hr]; rfl⟩, ⟨a2, cap2, by rw [xCell hr]; rfl, hl2, h2.1, h2.2⟩, OwnKids.zero.2 rfl⟩
theorem PBox.store_other {w : World} {b X : Nat} {kd sy n : Int} {v : Value} (h : PBox w b kd sy n v) (hne : b ≠ X) (v0 v1 v2 v3 : Value) : PBox ((((w.setCell ⟨X, 0, none⟩ v0).setCell ⟨X, 1, none⟩ v1).setCell ⟨X, 2, none⟩ v2).setCell ⟨X, 3, none⟩ v3) b kd sy n v :=
  (((h.other X 0 (by omega) v0).other X 1 (by omega) v1).other X 2 (by omega) v2).other X 3 (by omega) v3
theorem slot_len (a : Option Addr) (n m cap : Nat) (h : n = m) : Value.slice a n cap = Value.slice a m cap := by rw [h]
set_option maxHeartbeats 4000000 in
theorem l2Bent_any (R p : Nat) (w : World) (h : Rd w R p) (hp : p ≤ 90000) : Calls Tryd.prog 16 #[.pointer (some ⟨R, 0, none⟩)] w (XBent w R p) := by
  have hRl := h.lt
  have hb0 := xBelow_new w (.cells #[.int .i64 0, .int .i64 0, .int .i64 0, .slice none 0 0] 25)
  have h00 : PBox (w.alloc (.cells #[.int .i64 0, .int .i64 0, .int .i64 0, .slice none 0 0] 25)) w.heap.size 0 0 0 (.slice none 0 0) := ⟨heap_alloc_new _ _⟩
  have hR0 := h.below hb0
  have hg0 : w.grownBy (w.alloc (.cells #[.int .i64 0, .int .i64 0, .int .i64 0, .slice none 0 0] 25)) (some R) := grown_below' (grownBy_refl _ _) hb0
  obtain ⟨w0, hw0⟩ : ∃ w0, w.alloc (.cells #[.int .i64 0, .int .i64 0, .int .i64 0, .slice none 0 0] 25) = w0 := ⟨_, rfl⟩
  rw [hw0] at hb0 h00 hR0 hg0
  go_enter Tryd.func16, Tryd.ntmps16
  go_wp2_with fail
  refine (l2Some_any R p _ hR0 (by omega)).mono ?_
  rintro e w2 ⟨kd, sy, n, a, cap, F, S, p2, rfl, hR2, hp0, hp1, hg12, hO, hnd, hS, hl3, hz, hk⟩
  have h02 := h00.grown hg12 (fun e => by have := Option.some.inj e; omega)
  have hg2 := grownBy_trans hg0 hg12
  have hs1 := hg0.4
  have hs01 := h00.lt
  have hbx := xBelow_new w2 (.cells #[.int .i64 kd, .int .i64 sy, .int .i64 n, .slice a F.len cap] 25)
  have hx3 : PBox (w2.alloc (.cells #[.int .i64 kd, .int .i64 sy, .int .i64 n, .slice a F.len cap] 25)) w2.heap.size kd sy n (.slice a F.len cap) := ⟨heap_alloc_new _ _⟩
  have hR3 := hR2.below hbx
  have h03 := h02.below hbx
  have hO3 := hO.below hbx
  have hg3 := grown_below' hg2 hbx
  clear hw0
  obtain ⟨X, hXe⟩ : ∃ X, w2.heap.size = X := ⟨_, rfl⟩
  go_wp2_with fail
  obtain ⟨w3, hw3⟩ : ∃ w3, w2.alloc (.cells #[.int .i64 kd, .int .i64 sy, .int .i64 n, .slice a F.len cap] 25) = w3 := ⟨_, rfl⟩
  rw [hw3]
  rw [hw3] at hbx hx3 hR3 h03 hO3 hg3
  rw [hXe] at hx3 hbx
  clear hw3
  refine (pick_any R 60 p2 _ hR3 (by omega) (by omega) (by omega)).mono ?_
  rintro e w4 ⟨c, rfl, _, hc60, hR4, hgp⟩
  have hx4 := hx3.grown hgp (fun e => by have := Option.some.inj e; have := hR2.lt; omega)
  have h04 := h03.grown hgp (fun e => by have := Option.some.inj e; omega)
  have hg4 := grownBy_trans hg3 hgp
  have hwX : w.heap.size < X := by have := h02.lt; omega
  clear hR3 h03 hg3 hR2 h02 hg2 hg0 hR0 h00 hb0
  have hS4 : ∀ y ∈ S, w.heap.size + 1 ≤ y ∧ y < X := fun y hy => by have := hS y hy; omega
  have hX4 := hx4.lt
  have hO4 : OwnAt w4 a S F := hO3.of_blocks (fun y hy => hgp.5 y (by have := (hS4 y hy).2; have := hx3.lt; omega) (fun e => by have := Option.some.inj e; have := (hS4 y hy).1; omega))
  have hcc : (c : Int) < 60 := hc60 (by omega)
  clear hc60 hO3 hx3 hbx hgp hO hg12 hXe hS h hs1
  have cs : c = 0 ∨ c = 1 ∨ c = 2 ∨ c = 3 ∨ c = 4 ∨ 5 ≤ c := by omega
  rcases cs with rfl | rfl | rfl | rfl | rfl | h5
  · have hbA := xBelow_new w4 (.cells #[.int .i64 0, .int .i64 8, .int .i64 2, .int .i64 5] 3)
    have hIA := ints_made w4 [0, 8, 2, 5] (by decide) 3
    have hIA : Ints (w4.alloc (.cells #[.int .i64 0, .int .i64 8, .int .i64 2, .int .i64 5] 3)) (some ⟨w4.heap.size, 0, none⟩) [0, 8, 2, 5] := hIA
    obtain ⟨wA, hwA⟩ : ∃ wA, w4.alloc (.cells #[.int .i64 0, .int .i64 8, .int .i64 2, .int .i64 5] 3) = wA := ⟨_, rfl⟩
    rw [hwA] at hbA hIA
    have hRA := hR4.below hbA
    have hxA := hx4.below hbA
    have h0A := h04.below hbA
    have hOA := hO4.below hbA
    have hgA := grown_below' hg4 hbA
    have hAs := hbA.size
    go_wp2_with fail
    refine (num_any R _ 4 [0, 8, 2, 5] (p2 + 1) _ hRA (by omega) hIA (by decide) (by decide) (fun z hz => by cases hz; show w4.heap.size ≠ R; omega)).mono ?_
    rintro e w5 ⟨s, hs, rfl, hR5, hg5⟩
    have hs' : -1 ≤ s ∧ s ≤ 21 := by simp at hs; omega
    clear hwA hIA hs
    have hx5 := hxA.grown hg5 (fun e => by have := Option.some.inj e; omega)
    have h05 := h0A.grown hg5 (fun e => by have := Option.some.inj e; omega)
    have hO5 := hOA.of_blocks (fun y hy => hg5.5 y (by have := (hS4 y hy).2; omega) (fun e => by have := Option.some.inj e; have := (hS4 y hy).1; omega))
    have hg6 := xd_new (grownBy_trans hgA hg5) (b := X) (by omega) 0 (.int .i64 s)
    have hs5 := hg5.4
    have hx6 := hx5.put0 s
    have h06 := h05.other X 0 (by omega) (.int .i64 s)
    have hR6 := xd_rd_set hR5 (b := X) (by omega) 0 (.int .i64 s)
    have hO6 : OwnAt (w5.setCell ⟨X, 0, none⟩ (.int .i64 s)) a S F := hO5.of_blocks (fun y hy => Below.heap_setCell _ _ _ _ (by have := (hS4 y hy).2; simp; omega))
    obtain ⟨u0, u1, u2, u3⟩ := hx5.cells
    have ff := hx5.free 0
    have hs6 : (w5.setCell ⟨X, 0, none⟩ (.int .i64 s)).heap.size = w5.heap.size := by simp
    obtain ⟨w6, hw6⟩ : ∃ w6, w5.setCell ⟨X, 0, none⟩ (.int .i64 s) = w6 := ⟨_, rfl⟩
    rw [hw6] at hg6 hx6 h06 hR6 hO6 hs6
    have hS6 : ∀ y ∈ S, w.heap.size + 1 ≤ y ∧ y < w6.heap.size := fun y hy => by have := hS4 y hy; omega
    have hs6 : w5.heap.size ≤ w6.heap.size := by omega
    clear hx5 h05 hO5 hR5
    obtain ⟨x0, x1, x2, x3⟩ := hx6.cells
    obtain ⟨z0, z1, z2, z3⟩ := h06.cells
    have f0 := h06.free 0
    have f1 := h06.free 1
    have f2 := h06.free 2
    have f3 := h06.free 3
    go_wp2
    refine bodyPost_ret (results_ex rfl _ _ w.heap.size s sy n _ rfl (h06.store s sy n (.slice a F.len cap))) rfl ⟨s, sy, n, a, cap, F, S, (p2 + 1 + 1), rfl, xd_rd_store hR6 (by omega) _ _ _ _, by omega, by omega, xd_store hg6 (Nat.le_refl _) _ _ _ _, hO6.of_blocks (fun y hy => store_low (lo := w.heap.size + 1) (by omega) _ _ _ _ y (by have := (hS6 y hy).1; omega)), hnd, fun y hy => ⟨by have := (hS6 y hy).1; omega, by have := (hS6 y hy).2; simp; omega⟩, hl3, (by omega), ⟨by omega, by omega, by omega, by omega, by omega, by omega⟩⟩
  · have hbA := xBelow_new w4 (.cells #[.int .i64 (-1), .int .i64 5, .int .i64 1] 3)
    have hIA := ints_made w4 [-1, 5, 1] (by decide) 3
    have hIA : Ints (w4.alloc (.cells #[.int .i64 (-1), .int .i64 5, .int .i64 1] 3)) (some ⟨w4.heap.size, 0, none⟩) [-1, 5, 1] := hIA
    obtain ⟨wA, hwA⟩ : ∃ wA, w4.alloc (.cells #[.int .i64 (-1), .int .i64 5, .int .i64 1] 3) = wA := ⟨_, rfl⟩
    rw [hwA] at hbA hIA
    have hRA := hR4.below hbA
    have hxA := hx4.below hbA
    have h0A := h04.below hbA
    have hOA := hO4.below hbA
    have hgA := grown_below' hg4 hbA
    have hAs := hbA.size
    go_wp2_with fail
    refine (num_any R _ 3 [-1, 5, 1] (p2 + 1) _ hRA (by omega) hIA (by decide) (by decide) (fun z hz => by cases hz; show w4.heap.size ≠ R; omega)).mono ?_
    rintro e w5 ⟨s, hs, rfl, hR5, hg5⟩
    have hs' : -1 ≤ s ∧ s ≤ 21 := by simp at hs; omega
    clear hwA hIA hs
    have hx5 := hxA.grown hg5 (fun e => by have := Option.some.inj e; omega)
    have h05 := h0A.grown hg5 (fun e => by have := Option.some.inj e; omega)
    have hO5 := hOA.of_blocks (fun y hy => hg5.5 y (by have := (hS4 y hy).2; omega) (fun e => by have := Option.some.inj e; have := (hS4 y hy).1; omega))
    have hg6 := xd_new (grownBy_trans hgA hg5) (b := X) (by omega) 1 (.int .i64 s)
    have hs5 := hg5.4
    have hx6 := hx5.put1 s
    have h06 := h05.other X 1 (by omega) (.int .i64 s)
    have hR6 := xd_rd_set hR5 (b := X) (by omega) 1 (.int .i64 s)
    have hO6 : OwnAt (w5.setCell ⟨X, 1, none⟩ (.int .i64 s)) a S F := hO5.of_blocks (fun y hy => Below.heap_setCell _ _ _ _ (by have := (hS4 y hy).2; simp; omega))
    obtain ⟨u0, u1, u2, u3⟩ := hx5.cells
    have ff := hx5.free 1
    have hs6 : (w5.setCell ⟨X, 1, none⟩ (.int .i64 s)).heap.size = w5.heap.size := by simp
    obtain ⟨w6, hw6⟩ : ∃ w6, w5.setCell ⟨X, 1, none⟩ (.int .i64 s) = w6 := ⟨_, rfl⟩
    rw [hw6] at hg6 hx6 h06 hR6 hO6 hs6
    have hS6 : ∀ y ∈ S, w.heap.size + 1 ≤ y ∧ y < w6.heap.size := fun y hy => by have := hS4 y hy; omega
    have hs6 : w5.heap.size ≤ w6.heap.size := by omega
    clear hx5 h05 hO5 hR5
    obtain ⟨x0, x1, x2, x3⟩ := hx6.cells
    obtain ⟨z0, z1, z2, z3⟩ := h06.cells
    have f0 := h06.free 0
    have f1 := h06.free 1
    have f2 := h06.free 2
    have f3 := h06.free 3
    go_wp2
    refine bodyPost_ret (results_ex rfl _ _ w.heap.size kd s n _ rfl (h06.store kd s n (.slice a F.len cap))) rfl ⟨kd, s, n, a, cap, F, S, (p2 + 1 + 1), rfl, xd_rd_store hR6 (by omega) _ _ _ _, by omega, by omega, xd_store hg6 (Nat.le_refl _) _ _ _ _, hO6.of_blocks (fun y hy => store_low (lo := w.heap.size + 1) (by omega) _ _ _ _ y (by have := (hS6 y hy).1; omega)), hnd, fun y hy => ⟨by have := (hS6 y hy).1; omega, by have := (hS6 y hy).2; simp; omega⟩, hl3, (by omega), ⟨by omega, by omega, by omega, by omega, by omega, by omega⟩⟩
  · have hbA := xBelow_new w4 (.cells #[.int .i64 (-1), .int .i64 21, .int .i64 1, .int .i64 0] 3)
    have hIA := ints_made w4 [-1, 21, 1, 0] (by decide) 3
    have hIA : Ints (w4.alloc (.cells #[.int .i64 (-1), .int .i64 21, .int .i64 1, .int .i64 0] 3)) (some ⟨w4.heap.size, 0, none⟩) [-1, 21, 1, 0] := hIA
    obtain ⟨wA, hwA⟩ : ∃ wA, w4.alloc (.cells #[.int .i64 (-1), .int .i64 21, .int .i64 1, .int .i64 0] 3) = wA := ⟨_, rfl⟩
    rw [hwA] at hbA hIA
    have hRA := hR4.below hbA
    have hxA := hx4.below hbA
    have h0A := h04.below hbA
    have hOA := hO4.below hbA
    have hgA := grown_below' hg4 hbA
    have hAs := hbA.size
    go_wp2_with fail
    refine (num_any R _ 4 [-1, 21, 1, 0] (p2 + 1) _ hRA (by omega) hIA (by decide) (by decide) (fun z hz => by cases hz; show w4.heap.size ≠ R; omega)).mono ?_
    rintro e w5 ⟨s, hs, rfl, hR5, hg5⟩
    have hs' : -1 ≤ s ∧ s ≤ 21 := by simp at hs; omega
    clear hwA hIA hs
    have hx5 := hxA.grown hg5 (fun e => by have := Option.some.inj e; omega)
    have h05 := h0A.grown hg5 (fun e => by have := Option.some.inj e; omega)
    have hO5 := hOA.of_blocks (fun y hy => hg5.5 y (by have := (hS4 y hy).2; omega) (fun e => by have := Option.some.inj e; have := (hS4 y hy).1; omega))
    have hg6 := xd_new (grownBy_trans hgA hg5) (b := X) (by omega) 2 (.int .i64 s)
    have hs5 := hg5.4
    have hx6 := hx5.put2 s
    have h06 := h05.other X 2 (by omega) (.int .i64 s)
    have hR6 := xd_rd_set hR5 (b := X) (by omega) 2 (.int .i64 s)
    have hO6 : OwnAt (w5.setCell ⟨X, 2, none⟩ (.int .i64 s)) a S F := hO5.of_blocks (fun y hy => Below.heap_setCell _ _ _ _ (by have := (hS4 y hy).2; simp; omega))
    obtain ⟨u0, u1, u2, u3⟩ := hx5.cells
    have ff := hx5.free 2
    have hs6 : (w5.setCell ⟨X, 2, none⟩ (.int .i64 s)).heap.size = w5.heap.size := by simp
    obtain ⟨w6, hw6⟩ : ∃ w6, w5.setCell ⟨X, 2, none⟩ (.int .i64 s) = w6 := ⟨_, rfl⟩
    rw [hw6] at hg6 hx6 h06 hR6 hO6 hs6
    have hS6 : ∀ y ∈ S, w.heap.size + 1 ≤ y ∧ y < w6.heap.size := fun y hy => by have := hS4 y hy; omega
    have hs6 : w5.heap.size ≤ w6.heap.size := by omega
    clear hx5 h05 hO5 hR5
    obtain ⟨x0, x1, x2, x3⟩ := hx6.cells
    obtain ⟨z0, z1, z2, z3⟩ := h06.cells
    have f0 := h06.free 0
    have f1 := h06.free 1
    have f2 := h06.free 2
    have f3 := h06.free 3
    go_wp2
    refine bodyPost_ret (results_ex rfl _ _ w.heap.size kd sy s _ rfl (h06.store kd sy s (.slice a F.len cap))) rfl ⟨kd, sy, s, a, cap, F, S, (p2 + 1 + 1), rfl, xd_rd_store hR6 (by omega) _ _ _ _, by omega, by omega, xd_store hg6 (Nat.le_refl _) _ _ _ _, hO6.of_blocks (fun y hy => store_low (lo := w.heap.size + 1) (by omega) _ _ _ _ y (by have := (hS6 y hy).1; omega)), hnd, fun y hy => ⟨by have := (hS6 y hy).1; omega, by have := (hS6 y hy).2; simp; omega⟩, hl3, (by omega), ⟨by omega, by omega, by omega, by omega, by omega, by omega⟩⟩
  · go_wp2_with fail
    go_loopw [4] (fun i wr => ∃ (k : Nat) (kd sy n : Int) (a : Option Addr) (cap : Nat) (F : Fo) (S : List Nat), i = .int .i64 k ∧ k ≤ 5 ∧ PBox wr X kd sy n (.slice a F.len cap) ∧ PBox wr w.heap.size 0 0 0 (.slice none 0 0) ∧ Hid (OwnAt wr a S F) ∧ S.Nodup ∧ Hid (∀ y ∈ S, w.heap.size + 1 ≤ y ∧ y < wr.heap.size ∧ y ≠ X) ∧ Rd wr R (p2 + 1) ∧ w.grownBy wr (some R) ∧ F.len ≤ 3 ∧ F.size ≤ 120 + k ∧ Hid (0 ≤ kd ∧ kd ≤ 7 ∧ 0 ≤ sy ∧ sy ≤ 4 ∧ 0 ≤ n ∧ n ≤ 20)) (fun i _ => 5 - (intOf i).toNat)
    case atStart => exact ⟨0, kd, sy, n, a, cap, F, S, rfl, by omega, hx4, h04, hO4, hnd, (fun y hy => ⟨(hS4 y hy).1, by have := (hS4 y hy).2; omega, by have := (hS4 y hy).2; omega⟩ : ∀ y ∈ S, w.heap.size + 1 ≤ y ∧ y < w4.heap.size ∧ y ≠ X), hR4, hg4, hl3, by omega, hk⟩
    case round =>
      clear hx4 h04 hO4 hS4 hnd hR4 hg4 hl3 hz hk
      obtain ⟨k, kd, sy, n, a, cap, F, S, rfl, hk5, hx, h0, hO, hnd, hS, hR, hg, hl3, hz, hk⟩ := hrel
      have hXl := hx.lt
      by_cases hlt : k < 5
      · have hlt' : (k : Int) < 5 := by omega
        have hb := xBelow_new wr (.cells #[.int .i64 kd, .int .i64 sy, .int .i64 n, .slice a F.len cap] 25)
        have hr1 : PBox (wr.alloc (.cells #[.int .i64 kd, .int .i64 sy, .int .i64 n, .slice a F.len cap] 25)) wr.heap.size kd sy n (.slice a F.len cap) := ⟨heap_alloc_new _ _⟩
        have hO1 := own_one (hO.out.below hb) (by unfold maxLen; omega) hr1
        have hx1 := hx.below hb
        have h01 := h0.below hb
        have hR1 := hR.below hb
        have hg1 := grown_below' hg hb
        have hs1 : (wr.alloc (.cells #[.int .i64 kd, .int .i64 sy, .int .i64 n, .slice a F.len cap] 25)).heap.size = wr.heap.size + 1 := World.size_alloc _ _
        obtain ⟨x0, x1, x2, x3⟩ := hx.cells
        have Hk := hk.out
        obtain ⟨y0, y1, y2, y3⟩ := hx1.cells
        have g0 := hx1.free 0
        have g1 := hx1.free 1
        have g2 := hx1.free 2
        have g3 := hx1.free 3
        obtain ⟨w1, hw1⟩ : ∃ w1, wr.alloc (.cells #[.int .i64 kd, .int .i64 sy, .int .i64 n, .slice a F.len cap] 25) = w1 := ⟨_, rfl⟩
        rw [hw1] at hb hr1 hO1 hx1 h01 hR1 hg1 hs1 y0 y1 y2 y3 g0 g1 g2 g3
        have Hs1 : Hid (w1.heap.size = wr.heap.size + 1) := hs1
        clear hs1
        go_wp2
        have hs1 := Hs1.out
        refine ⟨⟨k + 1, 7, 0, 1, some ⟨wr.heap.size, 0, none⟩, 1, .cons kd sy n F .nil, wr.heap.size :: S, by go_num, by omega, hx1.store 7 0 1 _, PBox.store_other h01 (by omega) _ _ _ _, ?_, List.nodup_cons.2 ⟨fun hm => by have := (hS.out _ hm).2.1; omega, hnd⟩, ?_, xd_rd_store hR1 (by omega) _ _ _ _, xd_store hg1 (by omega) _ _ _ _, by simp [Fo.len], by simp only [Fo.size]; omega, ?_⟩, by simp [intOf]; omega⟩
        · refine hO1.of_blocks (fun y hy => ?_)
          have hne : y ≠ X := by
            rcases List.mem_cons.1 hy with rfl | hy
            · omega
            · exact (hS.out y hy).2.2
          rw [Below.heap_setCell _ _ _ _ hne, Below.heap_setCell _ _ _ _ hne, Below.heap_setCell _ _ _ _ hne, Below.heap_setCell _ _ _ _ hne]
        · intro y hy
          have hsz : ∀ v0 v1 v2 v3, ((((w1.setCell ⟨X, 0, none⟩ v0).setCell ⟨X, 1, none⟩ v1).setCell ⟨X, 2, none⟩ v2).setCell ⟨X, 3, none⟩ v3).heap.size = w1.heap.size := fun v0 v1 v2 v3 => by simp
          rcases List.mem_cons.1 hy with rfl | hy
          · exact ⟨by have := hg.4; omega, by rw [hsz]; omega, by omega⟩
          · exact ⟨(hS.out y hy).1, by rw [hsz]; have := (hS.out y hy).2.1; omega, (hS.out y hy).2.2⟩
        · show _ ∧ _
          omega
      · have hkd := hk.out
        have hS' : ∀ y ∈ S, w.heap.size + 1 ≤ y ∧ y < wr.heap.size := fun y hy => ⟨(hS.out y hy).1, (hS.out y hy).2.1⟩
        have hlt' : ¬ (k : Int) < 5 := by omega
        have hzz : F.size ≤ 2000 := by omega
        obtain ⟨x0, x1, x2, x3⟩ := hx.cells
        obtain ⟨z0, z1, z2, z3⟩ := h0.cells
        have f0 := h0.free 0
        have f1 := h0.free 1
        have f2 := h0.free 2
        have f3 := h0.free 3
        go_wp2
        refine bodyPost_ret (results_ex rfl _ _ w.heap.size kd sy n _ rfl (h0.store kd sy n (.slice a F.len cap))) rfl ⟨kd, sy, n, a, cap, F, S, (p2 + 1), rfl, xd_rd_store hR (by omega) _ _ _ _, by omega, by omega, xd_store hg (Nat.le_refl _) _ _ _ _, hO.out.of_blocks (fun y hy => store_low (lo := w.heap.size + 1) (by omega) _ _ _ _ y (by have := (hS' y hy).1; omega)), hnd, fun y hy => ⟨by have := (hS' y hy).1; omega, by have := (hS' y hy).2; simp; omega⟩, hl3, hzz, ⟨by omega, by omega, by omega, by omega, by omega, by omega⟩⟩
  · go_wp2_with fail
    go_loopw [5] (fun i wr => ∃ (k : Nat) (kd sy n : Int) (a : Option Addr) (cap : Nat) (F : Fo) (S : List Nat), i = .int .i64 k ∧ k ≤ 4 ∧ PBox wr X kd sy n (.slice a F.len cap) ∧ PBox wr w.heap.size 0 0 0 (.slice none 0 0) ∧ Hid (OwnAt wr a S F) ∧ S.Nodup ∧ Hid (∀ y ∈ S, w.heap.size + 1 ≤ y ∧ y < wr.heap.size ∧ y ≠ X) ∧ Rd wr R (p2 + 1) ∧ w.grownBy wr (some R) ∧ F.len ≤ 3 ∧ Hid (F.size + 2 ≤ 122 * 2 ^ k) ∧ Hid (0 ≤ kd ∧ kd ≤ 7 ∧ 0 ≤ sy ∧ sy ≤ 4 ∧ 0 ≤ n ∧ n ≤ 20)) (fun i _ => 4 - (intOf i).toNat)
    case atStart => exact ⟨0, kd, sy, n, a, cap, F, S, rfl, by omega, hx4, h04, hO4, hnd, (fun y hy => ⟨(hS4 y hy).1, by have := (hS4 y hy).2; omega, by have := (hS4 y hy).2; omega⟩ : ∀ y ∈ S, w.heap.size + 1 ≤ y ∧ y < w4.heap.size ∧ y ≠ X), hR4, hg4, hl3, (by show F.size + 2 ≤ 122 * 2 ^ 0; omega), hk⟩
    case round =>
      clear hx4 h04 hO4 hS4 hnd hR4 hg4 hl3 hz hk
      obtain ⟨k, kd, sy, n, a, cap, F, S, rfl, hk5, hx, h0, hO, hnd, hS, hR, hg, hl3, hz, hk⟩ := hrel
      have hXl := hx.lt
      by_cases hlt : k < 4
      · have hlt' : (k : Int) < 4 := by omega
        have hp2k : 2 ^ k ≤ 2 ^ 3 := Nat.pow_le_pow_right (by decide) (by omega)
        have hFs : F.size ≤ 1000 := by have := hz.out; omega
        clear hp2k
        have hcC : Calls Tryd.prog 30 #[.agg #[.int .i64 kd, .int .i64 sy, .int .i64 n, .slice a F.len cap]] wr.drew (XCopy wr.drew kd sy n F) := l2Copy_any F.size F (Nat.le_refl _) (by omega) kd sy n a cap wr.drew ((hO.out.slc (by unfold maxLen; omega)).below ((Below.refl _ _).drew))
        obtain ⟨x0, x1, x2, x3⟩ := hx.cells
        go_wp2_with fail
        go_region_law (go_simp; go_wp2_with (go_at_call 30; refine hcC.mono ?_; rintro e w6 ⟨a6, cap6, S6, rfl, hO6, hnd6, hS6, hg6⟩; have hx6 : PBox w6 X kd sy n (.slice a F.len cap) := PBox.grown (w := wr.drew) ⟨hx.row⟩ hg6 (fun e => by cases e); obtain ⟨e0, e1, e2, e3⟩ := hx6.cells; have hb7 := xBelow_new w6 (.cells #[.int .i64 kd, .int .i64 sy, .int .i64 n, .slice a F.len cap, .int .i64 kd, .int .i64 sy, .int .i64 n, .slice a6 F.len cap6] 25); have hn7 : (w6.alloc (.cells #[.int .i64 kd, .int .i64 sy, .int .i64 n, .slice a F.len cap, .int .i64 kd, .int .i64 sy, .int .i64 n, .slice a6 F.len cap6] 25)).heap[w6.heap.size]? = _ := heap_alloc_new _ _; have hs7 : Hid ((w6.alloc (.cells #[.int .i64 kd, .int .i64 sy, .int .i64 n, .slice a F.len cap, .int .i64 kd, .int .i64 sy, .int .i64 n, .slice a6 F.len cap6] 25)).heap.size = w6.heap.size + 1) := World.size_alloc _ _; obtain ⟨w7, hw7⟩ : ∃ w7, w6.alloc (.cells #[.int .i64 kd, .int .i64 sy, .int .i64 n, .slice a F.len cap, .int .i64 kd, .int .i64 sy, .int .i64 n, .slice a6 F.len cap6] 25) = w7 := ⟨_, rfl⟩; rw [hw7] at hb7 hn7 hs7; have hx7 := hx6.below hb7; obtain ⟨y0, y1, y2, y3⟩ := hx7.cells; have g0 := hx7.free 0; have g1 := hx7.free 1; have g2 := hx7.free 2; have g3 := hx7.free 3))
        all_goals go_wp2
        all_goals
          have hs7 := hs7.out
          have Hk := hk.out
          have hZ := hz.out
          have hsr : wr.heap.size ≤ w6.heap.size := hg6.4
          have hdr : ∀ y, wr.drew.heap.size ≤ y → wr.heap.size ≤ y := fun y h => h
          have hO7 : OwnAt w7 a S F := (hO.out.of_blocks (fun y hy => (hg6.5 y (hS.out y hy).2.1 (fun e => by cases e) : w6.heap[y]? = wr.heap[y]?))).below hb7
          have hT := own_two hO7 (by unfold maxLen; omega) (hO6.below hb7) (by unfold maxLen; omega) hn7
          have h06 : PBox w6 w.heap.size 0 0 0 (.slice none 0 0) := PBox.grown (w := wr.drew) ⟨h0.row⟩ hg6 (fun e => by cases e)
          have h07 := h06.below hb7
          have hR6 : Rd w6 R (p2 + 1) := (hR.below ((Below.refl _ _).drew)).below (below_none hg6)
          have hR7 := hR6.below hb7
          have hg7 := grown_below' (xd_grown (xd_grown_drew hg) hg6 (fun x hx => by cases hx)) hb7
          have hin : ∀ y ∈ w6.heap.size :: (S ++ S6), w.heap.size + 1 ≤ y ∧ y < w7.heap.size ∧ y ≠ X := by
            intro y hy
            rcases List.mem_cons.1 hy with rfl | hy
            · have := hg.4; omega
            · rcases List.mem_append.1 hy with hy | hy
              · have := hS.out y hy; omega
              · have h1 := hS6 y hy; have := hdr y h1.1; have := hg.4; omega
          refine ⟨⟨k + 1, 2, 0, 0, some ⟨w6.heap.size, 0, none⟩, 2, .cons kd sy n F (.cons kd sy n F .nil), w6.heap.size :: (S ++ S6), by go_num, by omega, hx7.store 2 0 0 _, PBox.store_other h07 (by omega) _ _ _ _, ?_, ?_, ?_, xd_rd_store hR7 (by omega) _ _ _ _, xd_store hg7 (by omega) _ _ _ _, by simp [Fo.len], ?_, ?_⟩, by simp [intOf]; omega⟩
          · refine hT.of_blocks (fun y hy => ?_)
            have hne := (hin y hy).2.2
            rw [Below.heap_setCell _ _ _ _ hne, Below.heap_setCell _ _ _ _ hne, Below.heap_setCell _ _ _ _ hne, Below.heap_setCell _ _ _ _ hne]
          · refine List.nodup_cons.2 ⟨fun hm => ?_, List.nodup_append.2 ⟨hnd, hnd6, fun x hx y hy => ?_⟩⟩
            · rcases List.mem_append.1 hm with hm | hm
              · have := (hS.out _ hm).2.1; omega
              · have := (hS6 _ hm).2; omega
            · have h1 := (hS.out x hx).2.1
              have h2 := hdr y (hS6 y hy).1
              omega
          · intro y hy
            have hsz : ∀ v0 v1 v2 v3, ((((w7.setCell ⟨X, 0, none⟩ v0).setCell ⟨X, 1, none⟩ v1).setCell ⟨X, 2, none⟩ v2).setCell ⟨X, 3, none⟩ v3).heap.size = w7.heap.size := fun v0 v1 v2 v3 => by simp
            exact ⟨(hin y hy).1, by rw [hsz]; exact (hin y hy).2.1, (hin y hy).2.2⟩
          · show _ ≤ 122 * 2 ^ (k + 1)
            rw [Nat.pow_succ]
            simp only [Fo.size]
            omega
          · show _ ∧ _
            omega
      · have hkd := hk.out
        have hS' : ∀ y ∈ S, w.heap.size + 1 ≤ y ∧ y < wr.heap.size := fun y hy => ⟨(hS.out y hy).1, (hS.out y hy).2.1⟩
        have hlt' : ¬ (k : Int) < 4 := by omega
        have hzz : F.size ≤ 2000 := by have := hz.out; have : k = 4 := (by omega); subst this; omega
        obtain ⟨x0, x1, x2, x3⟩ := hx.cells
        obtain ⟨z0, z1, z2, z3⟩ := h0.cells
        have f0 := h0.free 0
        have f1 := h0.free 1
        have f2 := h0.free 2
        have f3 := h0.free 3
        go_wp2
        refine bodyPost_ret (results_ex rfl _ _ w.heap.size kd sy n _ rfl (h0.store kd sy n (.slice a F.len cap))) rfl ⟨kd, sy, n, a, cap, F, S, (p2 + 1), rfl, xd_rd_store hR (by omega) _ _ _ _, by omega, by omega, xd_store hg (Nat.le_refl _) _ _ _ _, hO.out.of_blocks (fun y hy => store_low (lo := w.heap.size + 1) (by omega) _ _ _ _ y (by have := (hS' y hy).1; omega)), hnd, fun y hy => ⟨by have := (hS' y hy).1; omega, by have := (hS' y hy).2; simp; omega⟩, hl3, hzz, ⟨by omega, by omega, by omega, by omega, by omega, by omega⟩⟩
  · have q0 : ((c : Int) == 0) = false := by simp; omega
    have q1 : ((c : Int) == 1) = false := by simp; omega
    have q2 : ((c : Int) == 2) = false := by simp; omega
    have q3 : ((c : Int) == 3) = false := by simp; omega
    have q4 : ((c : Int) == 4) = false := by simp; omega
    have hS6 : ∀ y ∈ S, w.heap.size + 1 ≤ y ∧ y < w4.heap.size := fun y hy => by have := hS4 y hy; omega
    obtain ⟨x0, x1, x2, x3⟩ := hx4.cells
    obtain ⟨z0, z1, z2, z3⟩ := h04.cells
    have f0 := h04.free 0
    have f1 := h04.free 1
    have f2 := h04.free 2
    have f3 := h04.free 3
    go_wp2
    refine bodyPost_ret (results_ex rfl _ _ w.heap.size kd sy n _ rfl (h04.store kd sy n (.slice a F.len cap))) rfl ⟨kd, sy, n, a, cap, F, S, (p2 + 1), rfl, xd_rd_store hR4 (by omega) _ _ _ _, by omega, by omega, xd_store hg4 (Nat.le_refl _) _ _ _ _, hO4.of_blocks (fun y hy => store_low (lo := w.heap.size + 1) (by omega) _ _ _ _ y (by have := (hS6 y hy).1; omega)), hnd, fun y hy => ⟨by have := (hS6 y hy).1; omega, by have := (hS6 y hy).2; simp; omega⟩, hl3, (by omega), ⟨by omega, by omega, by omega, by omega, by omega, by omega⟩⟩
end Go.Proofs.YtpokhhplgljmiaaDoor
