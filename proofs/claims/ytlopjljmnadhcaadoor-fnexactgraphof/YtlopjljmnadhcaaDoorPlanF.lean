/- The graph of what is looked for, by the program; how many parts it has. -/
import Derived.Test.YtlopjljmnadhcaaDoorPlanD
import Derived.Test.YtlopjljmnadhcaaDoorPlanE
namespace Go.Proofs.YtlopjljmnadhcaaDoor
open Go.ChangeShapes Go.WideShapes Go.ChangeAt Go.RowKit
set_option linter.unusedVariables false
set_option maxRecDepth 4000

set_option maxHeartbeats 4000000 in
theorem implGraphOf_any (kd sy n : Int) (a : Option Addr) (cap : Nat) (F : Fo) (m : Int) (w : World) (te : TypeId) (ve : Value) (hE : ErrAt w te ve) (h : Slc w a F) :
    Calls Tryd.prog 8 #[.agg #[.int .i64 kd, .int .i64 sy, .int .i64 n, .slice a F.len cap], .int .i64 m] w (GraphPost w kd sy n F m) := by
  obtain ⟨X, hX⟩ : ∃ X, w.heap.size = X := ⟨_, rfl⟩
  obtain ⟨u1, hu1⟩ : ∃ u1, w.alloc (.cells #[.int .i64 kd, .int .i64 sy, .int .i64 n, .slice a F.len cap] 32) = u1 := ⟨_, rfl⟩
  have hX1 := gb_new w #[.int .i64 kd, .int .i64 sy, .int .i64 n, .slice a F.len cap] 32
  have b1 := gBelow_new w (.cells #[.int .i64 kd, .int .i64 sy, .int .i64 n, .slice a F.len cap] 32)
  have z1 : (w.alloc (.cells #[.int .i64 kd, .int .i64 sy, .int .i64 n, .slice a F.len cap] 32)).heap.size = w.heap.size + 1 := by simp
  rw [hu1] at hX1 b1 z1
  rw [hX] at hX1
  obtain ⟨R, hR⟩ : ∃ R, u1.heap.size = R := ⟨_, rfl⟩
  obtain ⟨u2, hu2⟩ : ∃ u2, u1.alloc (.cells #[.int .i64 0, .slice none 0 0, .int .i64 0, .int .i64 0, .bool false] 28) = u2 := ⟨_, rfl⟩
  have hR2 := gb_new u1 #[.int .i64 0, .slice none 0 0, .int .i64 0, .int .i64 0, .bool false] 28
  have b2 := gBelow_new u1 (.cells #[.int .i64 0, .slice none 0 0, .int .i64 0, .int .i64 0, .bool false] 28)
  rw [hu2] at hR2 b2
  rw [hR] at hR2
  have lXR : X < R := by omega
  have hX2 := hX1.below b2
  have bw2 := b1.trans (b2.mono b1.size)
  clear hX1 b1 b2 z1
  have hway := fun w => pairWay_any m w
  cases hm : decide (0 ≤ m ∧ m ≤ 4)
  case false =>
    rw [hm] at hway
    have hg : gOk kd sy n F m = false := by simp only [gOk, hm, Bool.and_false]
    clear hm
    go_enter Tryd.func8, Tryd.ntmps8
    go_wp2_with fail
    refine (hway _).mono ?_
    rintro e w4 ⟨wv, rfl, hb4⟩
    have b4 := bw2.trans (hb4.mono bw2.size)
    have hR4 := hR2.below hb4
    clear hu1 hu2
    have x0 := hR4.at 0
    have x1 := hR4.at 1
    have x2 := hR4.at 2
    have x3 := hR4.at 3
    have x4 := hR4.at 4
    have fR := hR4.free
    go_wp2
    have hRz := ((((hR4.set 0 (.int .i64 0)).set 1 (.slice none 0 0)).set 2 (.int .i64 0)).set 3 (.int .i64 0)).set 4 (.bool false)
    have bz := ((((b4.setCell (p := ⟨R, 0, none⟩) (by show _ ≤ R; omega) (.int .i64 0)).setCell (p := ⟨R, 1, none⟩) (by show _ ≤ R; omega) (.slice none 0 0)).setCell (p := ⟨R, 2, none⟩) (by show _ ≤ R; omega) (.int .i64 0)).setCell (p := ⟨R, 3, none⟩) (by show _ ≤ R; omega) (.int .i64 0)).setCell (p := ⟨R, 4, none⟩) (by show _ ≤ R; omega) (.bool false)
    generalize (World.setCell _ ⟨R, 4, none⟩ (.bool false)) = wz at hRz bz ⊢
    refine bodyPost_ret (results_graph (p := 4) rfl _ _ R _ _ _ _ _ rfl hRz) rfl ?_
    exact ⟨none, 0, [], by simp [gMo, hg], by simp [gPl, hg], GcOwn.nil _ _, bz⟩
  rw [hm] at hway
  have Hm : Hid (decide (0 ≤ m ∧ m ≤ 4) = true) := hm
  clear hm
  go_enter Tryd.func8, Tryd.ntmps8
  go_wp2_with fail
  refine (hway _).mono ?_
  rintro e w3 ⟨wv, rfl, hb3⟩
  have b3 := bw2.trans (hb3.mono bw2.size)
  have hX3 := hX2.below hb3
  have hR3 := hR2.below hb3
  clear hu1 hu2 hway
  have q0 := hX3.at 0
  have q1 := hX3.at 1
  have q2 := hX3.at 2
  have q3 := hX3.at 3
  go_wp2_with fail
  refine (implExOk_any kd sy n a cap F _ te ve (hE.below b3) (h.below b3)).mono ?_
  rintro e w4 ⟨rfl, hb4⟩
  have b4 := b3.trans (hb4.mono b3.size)
  have hX4 := hX3.below hb4
  have hR4 := hR3.below hb4
  clear q0 q1 q2 q3
  have x0 := hR4.at 0
  have x1 := hR4.at 1
  have x2 := hR4.at 2
  have x3 := hR4.at 3
  have x4 := hR4.at 4
  have fR := hR4.free
  cases hok : okX kd sy n F
  case false =>
    have hg : gOk kd sy n F m = false := by simp [gOk, hok]
    go_wp2
    have hRz := ((((hR4.set 0 (.int .i64 0)).set 1 (.slice none 0 0)).set 2 (.int .i64 0)).set 3 (.int .i64 0)).set 4 (.bool false)
    have bz := ((((b4.setCell (p := ⟨R, 0, none⟩) (by show _ ≤ R; omega) (.int .i64 0)).setCell (p := ⟨R, 1, none⟩) (by show _ ≤ R; omega) (.slice none 0 0)).setCell (p := ⟨R, 2, none⟩) (by show _ ≤ R; omega) (.int .i64 0)).setCell (p := ⟨R, 3, none⟩) (by show _ ≤ R; omega) (.int .i64 0)).setCell (p := ⟨R, 4, none⟩) (by show _ ≤ R; omega) (.bool false)
    generalize (World.setCell _ ⟨R, 4, none⟩ (.bool false)) = wz at hRz bz ⊢
    refine bodyPost_ret (results_graph (p := 4) rfl _ _ R _ _ _ _ _ rfl hRz) rfl ?_
    exact ⟨none, 0, [], by simp [gMo, hg], by simp [gPl, hg], GcOwn.nil _ _, bz⟩
  have Hok : Hid (okX kd sy n F = true) := hok
  have hg : gOk kd sy n F m = true := by simp only [gOk, Hm.out, hok]; rfl
  have hPl : Hid (gPl kd sy n F m = (planX kd sy n F []).1) := by show _ = _; simp [gPl, hg]
  have hMo : Hid (gMo kd sy n F m = m) := by show _ = _; simp [gMo, hg]
  clear hok hg
  have hf5 : formX 5 kd sy n F = true ∧ 1 + F.size ≤ 12 := by have := Hok.out; simpa only [okX, Bool.and_eq_true, decide_eq_true_eq] using this
  obtain ⟨H, hH⟩ : ∃ H, w4.heap.size = H := ⟨_, rfl⟩
  obtain ⟨w5, hw5⟩ : ∃ w5, w4.alloc (.map #[] 0) = w5 := ⟨_, rfl⟩
  have bb5 : Below w4.heap.size w4 w5 := by rw [← hw5]; exact gBelow_new _ _
  have hM5 : MapIs w5 H [] := by rw [← hw5, ← hH]; exact mapIs_new w4
  have zw5 : w5.heap.size = w4.heap.size + 1 := by rw [← hw5]; simp
  obtain ⟨P, hP⟩ : ∃ P, w5.heap.size = P := ⟨_, rfl⟩
  have lHP : H < P := by omega
  have hBox := gb_new w5 #[.slice none 0 0, .map (some H)] 54
  have bb6 := gBelow_new w5 (.cells #[.slice none 0 0, .map (some H)] 54)
  rw [hP] at hBox
  have hR4l := hR4.lt
  clear zw5
  have st6 : ImSt (w5.alloc (.cells #[.slice none 0 0, .map (some H)] 54)) w.heap.size P H (.slice none 0 0) [] [] :=
    ⟨rfl, GcOwn.nil _ _, hBox, hM5.of (bb6.block _ hM5.lt), fun b hb => (by rcases hb with hb | ⟨y, hy, _⟩; cases hb; simp at hy), by omega, by have := b4.size; omega⟩
  have b6 := (b4.trans (bb5.mono b4.size)).trans (bb6.mono (by have := b4.size; have := bb5.size; omega))
  have hX6 := (hX4.below bb5).below bb6
  have hR6 := (hR4.below bb5).below bb6
  have q0 := hX6.at 0
  have q1 := hX6.at 1
  have q2 := hX6.at 2
  have q3 := hX6.at 3
  have hput := put_any w te ve hE 5 (Nat.le_refl _) kd sy n a cap F [] P H (.slice none 0 0) [] _ h hf5.1 hf5.2 b6 st6 (by simp) (by simp; omega)
  have hrm := @run_makeMap Tryd.prog
  clear x0 x1 x2 x3 x4 fR
  have s6 := b6.size
  have s56 := bb6.size
  have s45 := bb5.size
  generalize hw6 : w5.alloc (.cells #[.slice none 0 0, .map (some H)] 54) = w6 at *
  go_wp2_with fail
  refine hput.mono ?_
  rintro e w7 ⟨v7, L7, rfl, st7, tn7, all7, xs7⟩
  obtain ⟨va7, vc7, rfl⟩ := gOwns_slice st7.own.row
  have b7 : Below w.heap.size w w7 := b6.trans (tn7.below (fun b hb => by
    rcases hb with hb | hb | hb
    · have := b4.size; omega
    · have := b4.size; omega
    · cases hb) s6)
  have hR7 := hR6.of (tn7.same R (by omega) (fun hb => by
    rcases hb with hb | hb | hb
    · omega
    · omega
    · cases hb))
  clear q0 q1 q2 q3 hw5 hw6
  have x0 := hR7.at 0
  have x1 := hR7.at 1
  have x2 := hR7.at 2
  have x3 := hR7.at 3
  have x4 := hR7.at 4
  have fR := hR7.free
  have p0 := st7.box.at 0
  go_wp2
  have hRz := ((((hR7.set 0 (.int .i64 m)).set 1 (.slice va7 L7.length vc7)).set 2 (.int .i64 0)).set 3 (.int .i64 0)).set 4 (.bool false)
  have bz := ((((b7.setCell (p := ⟨R, 0, none⟩) (by show _ ≤ R; omega) (.int .i64 m)).setCell (p := ⟨R, 1, none⟩) (by show _ ≤ R; omega) (.slice va7 L7.length vc7)).setCell (p := ⟨R, 2, none⟩) (by show _ ≤ R; omega) (.int .i64 0)).setCell (p := ⟨R, 3, none⟩) (by show _ ≤ R; omega) (.int .i64 0)).setCell (p := ⟨R, 4, none⟩) (by show _ ≤ R; omega) (.bool false)
  have tz : Turn (· = R) w7 _ := ((((Turn.set (X := (· = R)) w7 (b := R) rfl 0 (.int .i64 m)).trans (Turn.set (X := (· = R)) _ (b := R) rfl 1 (.slice va7 L7.length vc7))).trans (Turn.set (X := (· = R)) _ (b := R) rfl 2 (.int .i64 0))).trans (Turn.set (X := (· = R)) _ (b := R) rfl 3 (.int .i64 0))).trans (Turn.set (X := (· = R)) _ (b := R) rfl 4 (.bool false))
  generalize (World.setCell _ ⟨R, 4, none⟩ (.bool false)) = wz at hRz bz tz ⊢
  refine bodyPost_ret (results_graph (p := 4) rfl _ _ R _ _ _ _ _ rfl hRz) rfl ?_
  exact ⟨va7, vc7, L7, by rw [hMo.out], by rw [hPl.out]; exact st7.gs, st7.own.keep tz.size (fun b hb => tz.same b (st7.own.blk_lt hb).2 (fun e => by
    have e' : b = R := e
    rcases all7 b hb with h1 | h1
    · rcases h1 with h1 | ⟨y, hy, _⟩
      · cases h1
      · simp at hy
    · omega)), bz⟩

def gMany (kd sy n : Int) (F : Fo) : Int := ((gPl kd sy n F 0).length : Int)

set_option maxHeartbeats 1000000 in
theorem specGraphMany_any (kd sy n : Int) (a : Option Addr) (cap : Nat) (F : Fo) (w : World) (hs : F.size ≤ 1048576) (h : Slc w a F) :
    Calls Tryd.prog 14 #[.agg #[.int .i64 kd, .int .i64 sy, .int .i64 n, .slice a F.len cap]] w fun e w' => e = .returned (.int .i64 (gMany kd sy n F)) ∧ Below w.heap.size w w' := by
  obtain ⟨X, hX⟩ : ∃ X, w.heap.size = X := ⟨_, rfl⟩
  obtain ⟨u1, hu1⟩ : ∃ u1, w.alloc (.cells #[.int .i64 kd, .int .i64 sy, .int .i64 n, .slice a F.len cap] 32) = u1 := ⟨_, rfl⟩
  have hX1 := gb_new w #[.int .i64 kd, .int .i64 sy, .int .i64 n, .slice a F.len cap] 32
  have b1 := gBelow_new w (.cells #[.int .i64 kd, .int .i64 sy, .int .i64 n, .slice a F.len cap] 32)
  rw [hu1] at hX1 b1
  rw [hX] at hX1
  have q0 := hX1.at 0
  have q1 := hX1.at 1
  have q2 := hX1.at 2
  have q3 := hX1.at 3
  obtain ⟨G, hG⟩ : ∃ G, gMany kd sy n F = G := ⟨_, rfl⟩
  rw [hG]
  have HG : Hid (gMany kd sy n F = G) := hG
  clear hG
  go_enter Tryd.func14, Tryd.ntmps14
  go_wp2_with fail
  refine (specGraphOf_any kd sy n a cap F 0 _ (h.below b1) hs).mono ?_
  rintro e w2 ⟨va, vc, L, rfl, hL, hown, hb2⟩
  have hlen : Hid (gMany kd sy n F = (L.length : Int)) := by
    show _ = _
    have := congrArg List.length hL
    simp at this
    rw [gMany, this]
  have hfl : Sem.run Tryd.prog (Instr.field 28 (.agg #[.int .i64 (gMo kd sy n F 0), .slice va L.length vc, .int .i64 0, .int .i64 0, .bool false]) 1) w2 = Result.ok (.slice va L.length vc) w2 := by rfl
  go_wp2
  go_ret
  exact ⟨by rw [← HG.out, hlen.out]; rfl, b1.trans (hb2.mono b1.size)⟩

set_option maxHeartbeats 1000000 in
theorem implGraphMany_any (kd sy n : Int) (a : Option Addr) (cap : Nat) (F : Fo) (w : World) (te : TypeId) (ve : Value) (hE : ErrAt w te ve) (h : Slc w a F) :
    Calls Tryd.prog 15 #[.agg #[.int .i64 kd, .int .i64 sy, .int .i64 n, .slice a F.len cap]] w fun e w' => e = .returned (.int .i64 (gMany kd sy n F)) ∧ Below w.heap.size w w' := by
  obtain ⟨X, hX⟩ : ∃ X, w.heap.size = X := ⟨_, rfl⟩
  obtain ⟨u1, hu1⟩ : ∃ u1, w.alloc (.cells #[.int .i64 kd, .int .i64 sy, .int .i64 n, .slice a F.len cap] 32) = u1 := ⟨_, rfl⟩
  have hX1 := gb_new w #[.int .i64 kd, .int .i64 sy, .int .i64 n, .slice a F.len cap] 32
  have b1 := gBelow_new w (.cells #[.int .i64 kd, .int .i64 sy, .int .i64 n, .slice a F.len cap] 32)
  rw [hu1] at hX1 b1
  rw [hX] at hX1
  have q0 := hX1.at 0
  have q1 := hX1.at 1
  have q2 := hX1.at 2
  have q3 := hX1.at 3
  obtain ⟨G, hG⟩ : ∃ G, gMany kd sy n F = G := ⟨_, rfl⟩
  rw [hG]
  have HG : Hid (gMany kd sy n F = G) := hG
  clear hG
  go_enter Tryd.func15, Tryd.ntmps15
  go_wp2_with fail
  refine (implGraphOf_any kd sy n a cap F 0 _ te ve (hE.below b1) (h.below b1)).mono ?_
  rintro e w2 ⟨va, vc, L, rfl, hL, hown, hb2⟩
  have hlen : Hid (gMany kd sy n F = (L.length : Int)) := by
    show _ = _
    have := congrArg List.length hL
    simp at this
    rw [gMany, this]
  have hfl : Sem.run Tryd.prog (Instr.field 28 (.agg #[.int .i64 (gMo kd sy n F 0), .slice va L.length vc, .int .i64 0, .int .i64 0, .bool false]) 1) w2 = Result.ok (.slice va L.length vc) w2 := by rfl
  go_wp2
  go_ret
  exact ⟨by rw [← HG.out, hlen.out]; rfl, b1.trans (hb2.mono b1.size)⟩

end Go.Proofs.YtlopjljmnadhcaaDoor
