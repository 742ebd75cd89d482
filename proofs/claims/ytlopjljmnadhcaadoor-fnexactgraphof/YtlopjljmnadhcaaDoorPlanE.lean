/- The graph of what is looked for, by the specification. -/
import Derived.Test.YtlopjljmnadhcaaDoorPlanB
import Derived.Test.YtlopjljmnadhcaaDoorWay
namespace Go.Proofs.YtlopjljmnadhcaaDoor
open Go.ChangeShapes Go.WideShapes Go.ChangeAt Go.RowKit
set_option linter.unusedVariables false
set_option maxRecDepth 4000

/-- It is ok, and the mode is one. -/
def gOk (kd sy n : Int) (F : Fo) (m : Int) : Bool := okX kd sy n F && decide (0 ≤ m ∧ m ≤ 4)
def gPl (kd sy n : Int) (F : Fo) (m : Int) : Pl := if gOk kd sy n F m then (planX kd sy n F []).1 else []
def gMo (kd sy n : Int) (F : Fo) (m : Int) : Int := if gOk kd sy n F m then m else 0
/-- What GraphOf hands back: the graph, its parts in memory of the call's own. -/
def GraphPost (w : World) (kd sy n : Int) (F : Fo) (m : Int) (e : Ending) (w' : World) : Prop :=
  ∃ (va : Option Addr) (vc : Nat) (L' : List GC), e = .returned (.agg #[.int .i64 (gMo kd sy n F m), .slice va L'.length vc, .int .i64 0, .int .i64 0, .bool false]) ∧ L'.map (·.g) = (gPl kd sy n F m).map (·.2) ∧ GcOwn w' w.heap.size (.slice va L'.length vc) L' ∧ Below w.heap.size w w'
theorem results_graph {fn : Func} {p : Tmp} (h : fn.results = #[.cell p 28]) (tmps : Array Value) (w : World) (g : Nat) (c0 c1 c2 c3 c4 : Value) (hp : tmps.getD p undef = .pointer (some ⟨g, 0, none⟩)) (hg : GB w g #[c0, c1, c2, c3, c4]) :
    (results fn tmps).run Tryd.prog w = .ok (.agg #[c0, c1, c2, c3, c4]) w := by
  obtain ⟨t, hg⟩ := hg
  have hl := run_loadVar_row (P := Tryd.prog) w g t 28 _ (0, 0) _ hg Tryd.underlying28 rfl (by kernel_rfl)
  have e : (results fn tmps).run Tryd.prog w = ((asAddr (tmps.getD p undef)).run Tryd.prog w).andThen fun a w₁ => (loadVar 28 a).run Tryd.prog w₁ := by
    simp only [results, h]
    simp [Sem.run_bind, Result.andThen]
  rw [e, hp]
  simp [asAddr, hl, Result.andThen]

set_option maxHeartbeats 4000000 in
theorem specGraphOf_any (kd sy n : Int) (a : Option Addr) (cap : Nat) (F : Fo) (m : Int) (w : World) (h : Slc w a F) (hs : F.size ≤ 1048576) :
    Calls Tryd.prog 6 #[.agg #[.int .i64 kd, .int .i64 sy, .int .i64 n, .slice a F.len cap], .int .i64 m] w (GraphPost w kd sy n F m) := by
  obtain ⟨X, hX⟩ : ∃ X, w.heap.size = X := ⟨_, rfl⟩
  obtain ⟨u1, hu1⟩ : ∃ u1, w.alloc (.cells #[.int .i64 kd, .int .i64 sy, .int .i64 n, .slice a F.len cap] 32) = u1 := ⟨_, rfl⟩
  have hX1 := gb_new w #[.int .i64 kd, .int .i64 sy, .int .i64 n, .slice a F.len cap] 32
  have b1 := gBelow_new w (.cells #[.int .i64 kd, .int .i64 sy, .int .i64 n, .slice a F.len cap] 32)
  have z1 : (w.alloc (.cells #[.int .i64 kd, .int .i64 sy, .int .i64 n, .slice a F.len cap] 32)).heap.size = w.heap.size + 1 := by simp
  rw [hu1] at hX1 b1 z1
  rw [hX] at hX1
  obtain ⟨R, hR⟩ : ∃ R, u1.heap.size = R := ⟨_, rfl⟩
  obtain ⟨u2, hu2⟩ : ∃ u2, u1.alloc (.cells #[.int .i64 0, .slice none 0 0, .int .i64 0, .int .i64 0, .bool false] 28) = u2 := ⟨_, rfl⟩
  have hR2 := gb_new u1 #[.int .i64 0, .slice none 0 0, .int .i64 0, .int .i64 0, .bool false] 28
  have b2 := gBelow_new u1 (.cells #[.int .i64 0, .slice none 0 0, .int .i64 0, .int .i64 0, .bool false] 28)
  rw [hu2] at hR2 b2
  rw [hR] at hR2
  have lXR : X < R := by omega
  have hX2 := hX1.below b2
  have bw2 := b1.trans (b2.mono b1.size)
  clear hX1 b1 b2 z1
  have q0 := hX2.at 0
  have q1 := hX2.at 1
  have q2 := hX2.at 2
  have q3 := hX2.at 3
  go_enter Tryd.func6, Tryd.ntmps6
  go_wp2_with fail
  refine (specExOk_any kd sy n a cap F _ (h.below bw2) hs).mono ?_
  rintro e w3 ⟨rfl, hb3⟩
  have b3 := bw2.trans (hb3.mono bw2.size)
  have hX3 := hX2.below hb3
  have hR3 := hR2.below hb3
  clear q0 q1 q2 q3 hu1 hu2
  have x0 := hR3.at 0
  have x1 := hR3.at 1
  have x2 := hR3.at 2
  have x3 := hR3.at 3
  have x4 := hR3.at 4
  have fR := hR3.free
  cases hok : okX kd sy n F
  case false =>
    have hg : gOk kd sy n F m = false := by simp [gOk, hok]
    go_wp2
    have hRz := ((((hR3.set 0 (.int .i64 0)).set 1 (.slice none 0 0)).set 2 (.int .i64 0)).set 3 (.int .i64 0)).set 4 (.bool false)
    have bz := ((((b3.setCell (p := ⟨R, 0, none⟩) (by show _ ≤ R; omega) (.int .i64 0)).setCell (p := ⟨R, 1, none⟩) (by show _ ≤ R; omega) (.slice none 0 0)).setCell (p := ⟨R, 2, none⟩) (by show _ ≤ R; omega) (.int .i64 0)).setCell (p := ⟨R, 3, none⟩) (by show _ ≤ R; omega) (.int .i64 0)).setCell (p := ⟨R, 4, none⟩) (by show _ ≤ R; omega) (.bool false)
    generalize (World.setCell _ ⟨R, 4, none⟩ (.bool false)) = wz at hRz bz ⊢
    refine bodyPost_ret (results_graph (p := 4) rfl _ _ R _ _ _ _ _ rfl hRz) rfl ?_
    exact ⟨none, 0, [], by simp [gMo, hg], by simp [gPl, hg], GcOwn.nil _ _, bz⟩
  have Hok : Hid (okX kd sy n F = true) := hok
  clear hok
  go_wp2_with fail
  refine (mode_any m _).mono ?_
  rintro e w4 ⟨rfl, hb4⟩
  have b4 := b3.trans (hb4.mono b3.size)
  have hX4 := hX3.below hb4
  have hR4 := hR3.below hb4
  clear x0 x1 x2 x3 x4 fR
  have x0 := hR4.at 0
  have x1 := hR4.at 1
  have x2 := hR4.at 2
  have x3 := hR4.at 3
  have x4 := hR4.at 4
  have fR := hR4.free
  cases hm : decide (0 ≤ m ∧ m ≤ 4)
  case false =>
    have hg : gOk kd sy n F m = false := by simp only [gOk, hm, Bool.and_false]
    clear hm
    go_wp2
    have hRz := ((((hR4.set 0 (.int .i64 0)).set 1 (.slice none 0 0)).set 2 (.int .i64 0)).set 3 (.int .i64 0)).set 4 (.bool false)
    have bz := ((((b4.setCell (p := ⟨R, 0, none⟩) (by show _ ≤ R; omega) (.int .i64 0)).setCell (p := ⟨R, 1, none⟩) (by show _ ≤ R; omega) (.slice none 0 0)).setCell (p := ⟨R, 2, none⟩) (by show _ ≤ R; omega) (.int .i64 0)).setCell (p := ⟨R, 3, none⟩) (by show _ ≤ R; omega) (.int .i64 0)).setCell (p := ⟨R, 4, none⟩) (by show _ ≤ R; omega) (.bool false)
    generalize (World.setCell _ ⟨R, 4, none⟩ (.bool false)) = wz at hRz bz ⊢
    refine bodyPost_ret (results_graph (p := 4) rfl _ _ R _ _ _ _ _ rfl hRz) rfl ?_
    exact ⟨none, 0, [], by simp [gMo, hg], by simp [gPl, hg], GcOwn.nil _ _, bz⟩
  have hg : gOk kd sy n F m = true := by simp only [gOk, hm, Hok.out]; rfl
  have hPl : Hid (gPl kd sy n F m = (planX kd sy n F []).1) := by show _ = _; simp [gPl, hg]
  have hMo : Hid (gMo kd sy n F m = m) := by show _ = _; simp [gMo, hg]
  clear hm hg
  have hf5 : formX 5 kd sy n F = true ∧ 1 + F.size ≤ 12 := by have := Hok.out; simpa only [okX, Bool.and_eq_true, decide_eq_true_eq] using this
  have st0 : SpSt w4 w.heap.size (.slice none 0 0) [] (.slice none 0 0) [] := ⟨rfl, GcOwn.nil _ _, World.ownsRow_nil _ _ _ _, fun b hb => by cases hb⟩
  have q0 := hX4.at 0
  have q1 := hX4.at 1
  have q2 := hX4.at 2
  have q3 := hX4.at 3
  go_wp2_with fail
  refine (add_any w 5 kd sy n a cap F [] m (.slice none 0 0) [] (.slice none 0 0) w4 h hf5.1 b4 st0 (by simp; omega)).mono ?_
  rintro e w5 ⟨v5, L5, tv5, rfl, st5, tn5, all5, xs5⟩
  obtain ⟨va5, vc5, rfl⟩ := gOwns_slice st5.own.row
  obtain ⟨ta5, tc5, rfl⟩ := gOwns_slice st5.txt
  have no0 : ∀ b, ¬ SpX (.slice none 0 0) (.slice none 0 0) b := fun b hb => by rcases hb with hb | hb <;> cases hb
  have bb5 : Below w4.heap.size w4 w5 := ⟨tn5.os, tn5.tape, tn5.output, tn5.size, fun b hb => tn5.same b hb (no0 b)⟩
  have b5 := b4.trans (bb5.mono b4.size)
  have hR5 := hR4.below bb5
  clear q0 q1 q2 q3 x0 x1 x2 x3 x4 fR
  obtain ⟨w6, hw6⟩ : ∃ w6, w5.alloc (.cells #[.int .i64 m, .slice va5 L5.length vc5, .int .i64 0, .int .i64 0, .bool false] 28) = w6 := ⟨_, rfl⟩
  subst hw6
  have bb6 := gBelow_new w5 (.cells #[.int .i64 m, .slice va5 L5.length vc5, .int .i64 0, .int .i64 0, .bool false] 28)
  have hR6 := hR5.below bb6
  have x0 := hR6.at 0
  have x1 := hR6.at 1
  have x2 := hR6.at 2
  have x3 := hR6.at 3
  have x4 := hR6.at 4
  have fR := hR6.free
  have hG6 := gb_new w5 #[.int .i64 m, .slice va5 L5.length vc5, .int .i64 0, .int .i64 0, .bool false] 28
  have g0 := hG6.at 0
  have g1 := hG6.at 1
  have g2 := hG6.at 2
  have g3 := hG6.at 3
  have g4 := hG6.at 4
  have st6 := st5.own.below bb6
  have b6 := b5.trans (bb6.mono b5.size)
  go_wp2
  have hRz := ((((hR6.set 0 (.int .i64 m)).set 1 (.slice va5 L5.length vc5)).set 2 (.int .i64 0)).set 3 (.int .i64 0)).set 4 (.bool false)
  have bz := ((((b6.setCell (p := ⟨R, 0, none⟩) (by show _ ≤ R; omega) (.int .i64 m)).setCell (p := ⟨R, 1, none⟩) (by show _ ≤ R; omega) (.slice va5 L5.length vc5)).setCell (p := ⟨R, 2, none⟩) (by show _ ≤ R; omega) (.int .i64 0)).setCell (p := ⟨R, 3, none⟩) (by show _ ≤ R; omega) (.int .i64 0)).setCell (p := ⟨R, 4, none⟩) (by show _ ≤ R; omega) (.bool false)
  have tz : Turn (· = R) (w5.alloc (.cells #[.int .i64 m, .slice va5 L5.length vc5, .int .i64 0, .int .i64 0, .bool false] 28)) _ := ((((Turn.set (X := (· = R)) _ (b := R) rfl 0 (.int .i64 m)).trans (Turn.set (X := (· = R)) _ (b := R) rfl 1 (.slice va5 L5.length vc5))).trans (Turn.set (X := (· = R)) _ (b := R) rfl 2 (.int .i64 0))).trans (Turn.set (X := (· = R)) _ (b := R) rfl 3 (.int .i64 0))).trans (Turn.set (X := (· = R)) _ (b := R) rfl 4 (.bool false))
  generalize (World.setCell _ ⟨R, 4, none⟩ (.bool false)) = wz at hRz bz tz ⊢
  refine bodyPost_ret (results_graph (p := 4) rfl _ _ R _ _ _ _ _ rfl hRz) rfl ?_
  have hRl := hR4.lt
  exact ⟨va5, vc5, L5, by rw [hMo.out], by rw [hPl.out]; exact st5.gs, st6.keep tz.size (fun b hb => tz.same b (st6.blk_lt hb).2 (fun e => by
    have e' : b = R := e
    rcases all5 b (.inl hb) with h1 | h1
    · rcases h1 with h1 | h1
      · rcases h1 with h1 | ⟨y, hy, _⟩
        · cases h1
        · simp at hy
      · cases h1
    · omega)), bz⟩
end Go.Proofs.YtlopjljmnadhcaaDoor
