/- Graphs in which nothing waits and nothing is due: the laws' comparison. -/
import Derived.Test.YtlopjljmnadhcaaDoorPlanE
import Derived.Test.YtlopjljmnadhcaaDoorAfter
namespace Go.Proofs.YtlopjljmnadhcaaDoor
open Go.ChangeShapes Go.WideShapes Go.ChangeAt Go.RowKit
set_option linter.unusedVariables false
set_option maxRecDepth 4000

set_option maxHeartbeats 400000 in
theorem eqOccS_nil (w : World) : Calls Tryd.prog 51 #[.slice none 0 0, .slice none 0 0] w fun e w' => e = .returned (.bool true) ∧ Below w.heap.size w w' := by
  go_enter Tryd.func51, Tryd.ntmps51
  go_wp2
  go_loopw [5] (fun i wr => i = .int .i64 0 ∧ wr = w) (fun _ _ => 0)
  case atStart => exact ⟨rfl, rfl⟩
  case round =>
    obtain ⟨rfl, hwr⟩ := hrel
    subst hwr
    go_wp2
    go_ret
    exact ⟨rfl, Below.refl _ _⟩
set_option maxHeartbeats 400000 in
theorem eqPair_nil (w : World) : Calls Tryd.prog 49 #[.agg #[.slice none 0 0, .slice none 0 0], .agg #[.slice none 0 0, .slice none 0 0]] w fun e w' => e = .returned (.bool true) ∧ Below w.heap.size w w' := by
  obtain ⟨u1, hu1⟩ : ∃ u1, w.alloc (.cells #[.slice none 0 0, .slice none 0 0] 65) = u1 := ⟨_, rfl⟩
  have h1 := gb_new w #[.slice none 0 0, .slice none 0 0] 65
  have b1 := gBelow_new w (.cells #[.slice none 0 0, .slice none 0 0] 65)
  rw [hu1] at h1 b1
  obtain ⟨u2, hu2⟩ : ∃ u2, u1.alloc (.cells #[.slice none 0 0, .slice none 0 0] 65) = u2 := ⟨_, rfl⟩
  have h2 := gb_new u1 #[.slice none 0 0, .slice none 0 0] 65
  have b2 := gBelow_new u1 (.cells #[.slice none 0 0, .slice none 0 0] 65)
  rw [hu2] at h2 b2
  have h1 := h1.below b2
  have b := b1.trans (b2.mono b1.size)
  have p0 := h1.at 0
  have p1 := h1.at 1
  have q0 := h2.at 0
  have q1 := h2.at 1
  go_enter Tryd.func49, Tryd.ntmps49
  go_wp2_with fail
  refine (eqOccS_nil _).mono ?_
  rintro e w3 ⟨rfl, hb3⟩
  have b3 := b.trans (hb3.mono b.size)
  have h13 := h1.below hb3
  have h23 := h2.below hb3
  clear p0 p1 q0 q1
  have p0 := h13.at 0
  have p1 := h13.at 1
  have q0 := h23.at 0
  have q1 := h23.at 1
  go_wp2_with fail
  refine (eqOccS_nil _).mono ?_
  rintro e w4 ⟨rfl, hb4⟩
  go_wp2
  go_ret
  exact ⟨rfl, b3.trans (hb4.mono b3.size)⟩
set_option maxHeartbeats 400000 in
theorem eqSpan_nil (w : World) : Calls Tryd.prog 50 #[.agg #[.slice none 0 0, .slice none 0 0], .agg #[.slice none 0 0, .slice none 0 0]] w fun e w' => e = .returned (.bool true) ∧ Below w.heap.size w w' := by
  obtain ⟨u1, hu1⟩ : ∃ u1, w.alloc (.cells #[.slice none 0 0, .slice none 0 0] 67) = u1 := ⟨_, rfl⟩
  have h1 := gb_new w #[.slice none 0 0, .slice none 0 0] 67
  have b1 := gBelow_new w (.cells #[.slice none 0 0, .slice none 0 0] 67)
  rw [hu1] at h1 b1
  obtain ⟨u2, hu2⟩ : ∃ u2, u1.alloc (.cells #[.slice none 0 0, .slice none 0 0] 67) = u2 := ⟨_, rfl⟩
  have h2 := gb_new u1 #[.slice none 0 0, .slice none 0 0] 67
  have b2 := gBelow_new u1 (.cells #[.slice none 0 0, .slice none 0 0] 67)
  rw [hu2] at h2 b2
  have h1 := h1.below b2
  have b := b1.trans (b2.mono b1.size)
  have p0 := h1.at 0
  have p1 := h1.at 1
  have q0 := h2.at 0
  have q1 := h2.at 1
  go_enter Tryd.func50, Tryd.ntmps50
  go_wp2_with fail
  refine (eqOccS_nil _).mono ?_
  rintro e w3 ⟨rfl, hb3⟩
  have b3 := b.trans (hb3.mono b.size)
  have h13 := h1.below hb3
  have h23 := h2.below hb3
  clear p0 p1 q0 q1
  have p0 := h13.at 0
  have p1 := h13.at 1
  have q0 := h23.at 0
  have q1 := h23.at 1
  go_wp2_with fail
  refine (eqOccS_nil _).mono ?_
  rintro e w4 ⟨rfl, hb4⟩
  go_wp2
  go_ret
  exact ⟨rfl, b3.trans (hb4.mono b3.size)⟩

def gnC (x : GN) (a : Option Addr) (c : Nat) : Array Value := #[.int .i64 x.kd, .int .i64 x.sy, .int .i64 x.nn, .slice a x.ks.length c, .slice none 0 0, .slice none 0 0, .slice none 0 0, .slice none 0 0, .slice none 0 0, .int .i64 0]
def gnEqB (x y : GN) : Bool := decide (x.kd = y.kd ∧ x.sy = y.sy ∧ x.nn = y.nn) && intsEqB x.ks y.ks
theorem gnEqB_iff (x y : GN) : gnEqB x y = true ↔ x = y := by
  cases x; cases y
  simp [gnEqB, intsEqB_iff]
  grind

set_option maxHeartbeats 2000000 in
theorem eqNode_gn (x y : GN) (a a' : Option Addr) (c c' : Nat) (w : World) (h : Ints w a x.ks) (h' : Ints w a' y.ks) :
    Calls Tryd.prog 35 #[.agg (gnC x a c), .agg (gnC y a' c')] w fun e w' => e = .returned (.bool (gnEqB x y)) ∧ Below w.heap.size w w' := by
  obtain ⟨G, hG⟩ : ∃ G, gnEqB x y = G := ⟨_, rfl⟩
  rw [hG]
  have HG : Hid (gnEqB x y = G) := hG
  clear hG
  unfold gnC
  obtain ⟨u1, hu1⟩ : ∃ u1, w.alloc (.cells #[.int .i64 x.kd, .int .i64 x.sy, .int .i64 x.nn, .slice a x.ks.length c, .slice none 0 0, .slice none 0 0, .slice none 0 0, .slice none 0 0, .slice none 0 0, .int .i64 0] 69) = u1 := ⟨_, rfl⟩
  have hA0 := gb_new w #[.int .i64 x.kd, .int .i64 x.sy, .int .i64 x.nn, .slice a x.ks.length c, .slice none 0 0, .slice none 0 0, .slice none 0 0, .slice none 0 0, .slice none 0 0, .int .i64 0] 69
  have b0 := gBelow_new w (.cells #[.int .i64 x.kd, .int .i64 x.sy, .int .i64 x.nn, .slice a x.ks.length c, .slice none 0 0, .slice none 0 0, .slice none 0 0, .slice none 0 0, .slice none 0 0, .int .i64 0] 69)
  rw [hu1] at hA0 b0
  obtain ⟨w1, hw1⟩ : ∃ w1, u1.alloc (.cells #[.int .i64 y.kd, .int .i64 y.sy, .int .i64 y.nn, .slice a' y.ks.length c', .slice none 0 0, .slice none 0 0, .slice none 0 0, .slice none 0 0, .slice none 0 0, .int .i64 0] 69) = w1 := ⟨_, rfl⟩
  have hB1 := gb_new u1 #[.int .i64 y.kd, .int .i64 y.sy, .int .i64 y.nn, .slice a' y.ks.length c', .slice none 0 0, .slice none 0 0, .slice none 0 0, .slice none 0 0, .slice none 0 0, .int .i64 0] 69
  have b01 := gBelow_new u1 (.cells #[.int .i64 y.kd, .int .i64 y.sy, .int .i64 y.nn, .slice a' y.ks.length c', .slice none 0 0, .slice none 0 0, .slice none 0 0, .slice none 0 0, .slice none 0 0, .int .i64 0] 69)
  rw [hw1] at hB1 b01
  have hA1 := hA0.below b01
  have b1 := b0.trans (b01.mono b0.size)
  clear hA0 b0 b01
  have q0 := hA1.at 0
  have q1 := hA1.at 1
  have q2 := hA1.at 2
  have q3 := hA1.at 3
  have r0 := hB1.at 0
  have r1 := hB1.at 1
  have r2 := hB1.at 2
  have r3 := hB1.at 3
  by_cases h0 : x.kd = y.kd
  case neg =>
    have n0 : (x.kd != y.kd) = true := by simpa using h0
    have hf : gnEqB x y = false := by simp [gnEqB, h0]
    clear h0
    go_enter Tryd.func35, Tryd.ntmps35
    go_wp2
    go_ret
    exact ⟨ret_bool (by rw [← HG.out, hf]), b1⟩
  have n0 : (x.kd != y.kd) = false := by simpa using h0
  have H0 : Hid (x.kd = y.kd) := h0
  clear h0
  by_cases h1 : x.sy = y.sy
  case neg =>
    have n1 : (x.sy != y.sy) = true := by simpa using h1
    have hf : gnEqB x y = false := by simp [gnEqB, h1]
    clear h1
    go_enter Tryd.func35, Tryd.ntmps35
    go_wp2
    go_ret
    exact ⟨ret_bool (by rw [← HG.out, hf]), b1⟩
  have n1 : (x.sy != y.sy) = false := by simpa using h1
  have H1 : Hid (x.sy = y.sy) := h1
  clear h1
  by_cases h2 : x.nn = y.nn
  case neg =>
    have n2 : (x.nn != y.nn) = true := by simpa using h2
    have hf : gnEqB x y = false := by simp [gnEqB, h2]
    clear h2
    go_enter Tryd.func35, Tryd.ntmps35
    go_wp2
    go_ret
    exact ⟨ret_bool (by rw [← HG.out, hf]), b1⟩
  have n2 : (x.nn != y.nn) = false := by simpa using h2
  have H2 : Hid (x.nn = y.nn) := h2
  clear h2
  go_enter Tryd.func35, Tryd.ntmps35
  go_wp2_with fail
  refine (eqIntS_any _ _ _ _ x.ks y.ks _ (h.below b1) (h'.below b1)).mono ?_
  rintro e w2 ⟨rfl, hb2⟩
  have b2 := b1.trans (hb2.mono b1.size)
  have hA2 := hA1.below hb2
  have hB2 := hB1.below hb2
  cases g1 : intsEqB x.ks y.ks
  case false =>
    have hf : gnEqB x y = false := by simp [gnEqB, g1]
    clear g1
    go_wp2
    go_ret
    exact ⟨ret_bool (by rw [← HG.out, hf]), b2⟩
  have hf : gnEqB x y = true := by simp [gnEqB, H0.out, H1.out, H2.out, g1]
  clear g1 q0 q1 q2 q3 r0 r1 r2 r3
  have q4 := hA2.at 4
  have q5 := hA2.at 5
  have r4 := hB2.at 4
  have r5 := hB2.at 5
  go_wp2_with fail
  refine (eqPair_nil _).mono ?_
  rintro e w3 ⟨rfl, hb3⟩
  have b3 := b2.trans (hb3.mono b2.size)
  have hA3 := hA2.below hb3
  have hB3 := hB2.below hb3
  clear q4 q5 r4 r5
  have q6 := hA3.at 6
  have q7 := hA3.at 7
  have r6 := hB3.at 6
  have r7 := hB3.at 7
  go_wp2_with fail
  refine (eqSpan_nil _).mono ?_
  rintro e w4 ⟨rfl, hb4⟩
  have b4 := b3.trans (hb4.mono b3.size)
  have hA4 := hA3.below hb4
  have hB4 := hB3.below hb4
  clear q6 q7 r6 r7
  have q8 := hA4.at 8
  have r8 := hB4.at 8
  go_wp2_with fail
  refine (eqOccS_nil _).mono ?_
  rintro e w5 ⟨rfl, hb5⟩
  have b5 := b4.trans (hb5.mono b4.size)
  have q9 := (hA4.below hb5).at 9
  have r9 := (hB4.below hb5).at 9
  go_wp2
  go_ret
  exact ⟨ret_bool (by rw [← HG.out, hf]), b5⟩
end Go.Proofs.YtlopjljmnadhcaaDoor
