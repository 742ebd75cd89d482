/- A rule, drawn. -/
import Derived.Test.YtohijenlcfkliaaDoorDrX3
import Derived.Test.YtohijenlcfkliaaDoorDrOp
import Derived.Test.YtohijenlcfkliaaDoorRu
import Derived.Deep.CutRange
import Derived.Deep.DeepCutAuto
namespace Go.Proofs.YtohijenlcfkliaaDoor
open Go.ChangeShapes Go.WideShapes Go.ChangeAt Go.RowKit Go.Deep
set_option linter.unusedVariables false
set_option maxRecDepth 4000
set_option linter.unusedSimpArgs false
/-- The box of a rule. -/
def RBox (w : World) (b : Nat) (cs : Array Value) : Prop := w.heap[b]? = some (.cells cs 36 (0, 0))
def zRule : Array Value := #[.string { data := #[] }, .int .i64 0, .int .i64 0, .int .i64 0, .int .i64 0, .int .i64 0, .slice none 0 0, .int .i64 0, .int .i64 0, .int .i64 0, .int .i64 0, .int .i64 0]
def RuleDraw (w : World) (R p : Nat) (nm : ByteArray) (e : Ending) (w' : World) : Prop :=
  ∃ (x : Ru) (a : Option Addr) (cap : Nat) (S : List Nat) (p' : Nat), e = .returned (ruV x a cap) ∧ x.nm = nm ∧ Rd w' R p' ∧ p ≤ p' ∧ p' ≤ p + 1300 ∧ w.grownBy w' (some R) ∧ OwnAt w' a S x.ks ∧ S.Nodup ∧ (∀ y ∈ S, w.heap.size ≤ y ∧ y < w'.heap.size) ∧ x.ks.len ≤ 3 ∧ x.ks.size ≤ 120 ∧
    (0 ≤ x.pri ∧ x.pri ≤ 9 ∧ 0 ≤ x.mode ∧ x.mode ≤ 4 ∧ 0 ≤ x.kd ∧ x.kd ≤ 7 ∧ 0 ≤ x.sy ∧ x.sy ≤ 4 ∧ 0 ≤ x.n ∧ x.n ≤ 20 ∧ 0 ≤ x.lo ∧ x.lo ≤ 5 ∧ 5 ≤ x.hi ∧ x.hi ≤ 100 ∧ 0 ≤ x.key ∧ x.key < 4 ∧ -1 ≤ x.add ∧ x.add ≤ 9 ∧ -1 ≤ x.ra ∧ x.ra ≤ 4)
theorem after_lt {ops : Array Oper} (h : ((List.range ops.size).all fun i => ((ops[i]?).map fun o => o.after.all fun e => decide (e.on < i)).getD true) = true) : ∀ (i : Nat) (o : Oper), ops[i]? = some o → ∀ e ∈ o.after, e.on < i := by
  intro i o ho e he
  have hi : i < ops.size := (Array.getElem?_eq_some_iff.1 ho).1
  have h1 := List.all_eq_true.1 h i (List.mem_range.2 hi)
  rw [ho] at h1
  simp only [Option.map_some, Option.getD_some] at h1
  simpa using (Array.all_eq_true_iff_forall_mem.1 h1) e he
theorem slot_get {t : Array Value} {j : Nat} {v : Value} (h : t.getD j undef = v) : t[j]?.getD undef = v := by rw [← Array.getD_eq_getD_getElem?]; exact h
def RLst (R : Nat) (l : List Int) (v : Value) (u : World) : Prop := ∃ b, v = .slice (some ⟨b, 0, none⟩) l.length l.length ∧ b ≠ R ∧ b < u.heap.size ∧ Ints u (some ⟨b, 0, none⟩) l
theorem RLst.grown {R : Nat} {l : List Int} {v : Value} {u u' : World} (h : RLst R l v u) (hg : u.grownBy u' (some R)) : RLst R l v u' := by
  obtain ⟨b, hv, hb, hlt, hl, hc⟩ := h
  refine ⟨b, hv, hb, Nat.lt_of_lt_of_le hlt hg.4, hl, fun h0 => ?_⟩
  obtain ⟨b', off, e, hlt', hcc⟩ := hc h0
  cases e
  have hk := hg.5 b hlt (fun e => hb (Option.some.inj e))
  exact ⟨b, 0, rfl, Nat.lt_of_lt_of_le hlt hg.4, fun i hi => (World.cell?_of_block (w := u) hk).trans (hcc i hi)⟩
def Rng (lo hi : Int) (v : Value) : Prop := ∃ x : Int, v = .int .i64 x ∧ lo ≤ x ∧ x ≤ hi
/-- What is known of a rule that was drawn. -/
structure RuP (nm : ByteArray) (kd sy n : Int) (F : Fo) (lo : Int) (x : Ru) : Prop where
  nm : x.nm = nm
  ks : x.ks = F
  kd : x.kd = kd
  sy : x.sy = sy
  n : x.n = n
  lo : x.lo = lo
  num : 0 ≤ x.pri ∧ x.pri ≤ 9 ∧ 0 ≤ x.mode ∧ x.mode ≤ 4 ∧ 5 ≤ x.hi ∧ x.hi ≤ 100 ∧ 0 ≤ x.key ∧ x.key ≤ 3 ∧ -1 ≤ x.add ∧ x.add ≤ 9 ∧ -1 ≤ x.ra ∧ x.ra ≤ 4
def rP (R : Nat) (nm : ByteArray) (kd sy n : Int) (a : Option Addr) (cap : Nat) (F : Fo) (lo : Int) (i : Nat) (v : Value) : Prop :=
  match i with
  | 0 => v = .string nm
  | 1 => v = .pointer (some ⟨R, 0, none⟩)
  | 3 => Rng 0 9 v
  | 4 => v = .pointer (some ⟨R, 0, none⟩)
  | 5 => Rng 0 4 v
  | 6 => v = .agg #[.int .i64 kd, .int .i64 sy, .int .i64 n, .slice a F.len cap]
  | 7 => v = .int .i64 lo
  | 8 => v = .pointer (some ⟨R, 0, none⟩)
  | 10 => Rng 5 100 v
  | 11 => v = .pointer (some ⟨R, 0, none⟩)
  | 12 => Rng 0 3 v
  | 13 => v = .pointer (some ⟨R, 0, none⟩)
  | 15 => Rng (-1) 9 v
  | 16 => v = .pointer (some ⟨R, 0, none⟩)
  | 18 => Rng (-1) 4 v
  | 19 => ∃ x : Ru, v = ruV x a cap ∧ RuP nm kd sy n F lo x
  | _ => True
def rV (R : Nat) (nm : ByteArray) (kd sy n : Int) (a : Option Addr) (cap : Nat) (F : Fo) (lo : Int) (i : Nat) (v : Value) (u : World) : Prop :=
  (i = 2 → RLst R [0, 1, 5, 5, 9] v u) ∧ (i = 9 → RLst R [100, 100, 5] v u) ∧ (i = 14 → RLst R [1, 1, 2, 9, 0, -1] v u) ∧ (i = 17 → RLst R [-1, -1, -1, -1, 3, 4, 2] v u) ∧ rP R nm kd sy n a cap F lo i v
theorem rV_grown {R : Nat} {nm : ByteArray} {kd sy n : Int} {a : Option Addr} {cap : Nat} {F : Fo} {lo : Int} {i : Nat} {v : Value} {u u' : World} (h : rV R nm kd sy n a cap F lo i v u) (hg : u.grownBy u' (some R)) : rV R nm kd sy n a cap F lo i v u' :=
  ⟨fun e => (h.1 e).grown hg, fun e => (h.2.1 e).grown hg, fun e => (h.2.2.1 e).grown hg, fun e => (h.2.2.2.1 e).grown hg, h.2.2.2.2⟩
theorem rV_pure {R : Nat} {nm : ByteArray} {kd sy n : Int} {a : Option Addr} {cap : Nat} {F : Fo} {lo : Int} {i : Nat} {v : Value} {u : World} (h : rP R nm kd sy n a cap F lo i v) (h2 : i ≠ 2) (h9 : i ≠ 9) (h14 : i ≠ 14) (h17 : i ≠ 17) : rV R nm kd sy n a cap F lo i v u :=
  ⟨fun e => absurd e h2, fun e => absurd e h9, fun e => absurd e h14, fun e => absurd e h17, h⟩
def rS (R q : Nat) (w5 : World) (k : Nat) (u : World) : Prop := ∃ q', Rd u R q' ∧ q + 1 ≤ q' ∧ q' + k ≤ q + 23 ∧ w5.grownBy u (some R)
def rFin (R q B : Nat) (w w5 : World) (nm : ByteArray) (kd sy n : Int) (a : Option Addr) (cap : Nat) (F : Fo) (S : List Nat) (lo : Int) (u : World) : Prop :=
  ∃ (x : Ru) (q' : Nat), RuP nm kd sy n F lo x ∧ RBox u B (ruC x a cap) ∧ Rd u R q' ∧ q ≤ q' ∧ q' ≤ q + 23 ∧ w.grownBy u (some R) ∧ OwnAt u a S F ∧ w5.heap.size ≤ u.heap.size
theorem results_rule {fn : Func} {q : Tmp} (h : fn.results = #[.cell q 36]) (tmps : Array Value) (w : World) (g : Nat) (x : Ru) (a : Option Addr) (cap : Nat) (hp : tmps.getD q undef = .pointer (some ⟨g, 0, none⟩)) (hg : RBox w g (ruC x a cap)) :
    (results fn tmps).run Tryd.prog w = .ok (ruV x a cap) w := by
  have hl := run_loadVar_row (P := Tryd.prog) w g 36 36 _ (0, 0) _ hg Tryd.underlying36 rfl (by kernel_rfl)
  have e : (results fn tmps).run Tryd.prog w = ((asAddr (tmps.getD q undef)).run Tryd.prog w).andThen fun a w₁ => (loadVar 36 a).run Tryd.prog w₁ := by
    simp only [results, h]
    simp [Sem.run_bind, Result.andThen]
  rw [e, hp]
  simp [asAddr, hl, Result.andThen]
  rfl
theorem rule_store (x : Ru) (a : Option Addr) (cap : Nat) (u : World) (b : Act) (B : Nat) (pos : String) (aft : Array Edge) (hB : RBox u B zRule) (e4 : b.tmps.getD 4 undef = .pointer (some ⟨B, 0, none⟩)) (e36 : b.tmps.getD 36 undef = ruV x a cap) :
    ∃ u', (execOp b.eval { dst := none, op := Op.store 36 (.tmp 4) (.tmp 36), type := 0, pos := pos, after := aft, guard := none }).run Tryd.prog u = .ok .skip u' ∧ RBox u' B (ruC x a cap) ∧ (∀ k, k ≠ B → u'.heap[k]? = u.heap[k]?) ∧ u.grownBy u' (some B) := by
  have hB : u.heap[B]? = some (.cells #[.string { data := #[] }, .int .i64 0, .int .i64 0, .int .i64 0, .int .i64 0, .int .i64 0, .slice none 0 0, .int .i64 0, .int .i64 0, .int .i64 0, .int .i64 0, .int .i64 0] 36 (0, 0)) := hB
  have e4 := slot_get e4
  have e36 : b.tmps.getD 36 undef = .agg #[.string x.nm, .int .i64 x.pri, .int .i64 x.mode, .int .i64 x.kd, .int .i64 x.sy, .int .i64 x.n, .slice a x.ks.len cap, .int .i64 x.lo, .int .i64 x.hi, .int .i64 x.key, .int .i64 x.add, .int .i64 x.ra] := e36
  have e36 := slot_get e36
  have x0 := xCell hB 0
  have x1 := xCell hB 1
  have x2 := xCell hB 2
  have x3 := xCell hB 3
  have x4 := xCell hB 4
  have x5 := xCell hB 5
  have x6 := xCell hB 6
  have x7 := xCell hB 7
  have x8 := xCell hB 8
  have x9 := xCell hB 9
  have x10 := xCell hB 10
  have x11 := xCell hB 11
  have ff : ∀ o, u.frozen? ⟨B, o, none⟩ = false := fun o => by simp [World.frozen?, hB]
  have k0 := heap_setCell_same _ _ 0 _ _ (.string x.nm) hB
  have k1 := heap_setCell_same _ _ 1 _ _ (.int .i64 x.pri) k0
  have k2 := heap_setCell_same _ _ 2 _ _ (.int .i64 x.mode) k1
  have k3 := heap_setCell_same _ _ 3 _ _ (.int .i64 x.kd) k2
  have k4 := heap_setCell_same _ _ 4 _ _ (.int .i64 x.sy) k3
  have k5 := heap_setCell_same _ _ 5 _ _ (.int .i64 x.n) k4
  have k6 := heap_setCell_same _ _ 6 _ _ (.slice a x.ks.len cap) k5
  have k7 := heap_setCell_same _ _ 7 _ _ (.int .i64 x.lo) k6
  have k8 := heap_setCell_same _ _ 8 _ _ (.int .i64 x.hi) k7
  have k9 := heap_setCell_same _ _ 9 _ _ (.int .i64 x.key) k8
  have k10 := heap_setCell_same _ _ 10 _ _ (.int .i64 x.add) k9
  have k11 := heap_setCell_same _ _ 11 _ _ (.int .i64 x.ra) k10
  refine ⟨((((((((((((u.setCell ⟨B, 0, none⟩ (.string x.nm)).setCell ⟨B, 1, none⟩ (.int .i64 x.pri)).setCell ⟨B, 2, none⟩ (.int .i64 x.mode)).setCell ⟨B, 3, none⟩ (.int .i64 x.kd)).setCell ⟨B, 4, none⟩ (.int .i64 x.sy)).setCell ⟨B, 5, none⟩ (.int .i64 x.n)).setCell ⟨B, 6, none⟩ (.slice a x.ks.len cap)).setCell ⟨B, 7, none⟩ (.int .i64 x.lo)).setCell ⟨B, 8, none⟩ (.int .i64 x.hi)).setCell ⟨B, 9, none⟩ (.int .i64 x.key)).setCell ⟨B, 10, none⟩ (.int .i64 x.add)).setCell ⟨B, 11, none⟩ (.int .i64 x.ra)), ?_, ?_, ?_, ?_⟩
  · simp [execOp, go_sem, e4, e36, x0, x1, x2, x3, x4, x5, x6, x7, x8, x9, x10, x11, ff]
  · refine k11.trans ?_
    simp only [ruC, List.setIfInBounds_toArray, List.set_cons_zero, List.set_cons_succ]
  · intro k hk
    rw [Below.heap_setCell _ _ _ _ hk, Below.heap_setCell _ _ _ _ hk, Below.heap_setCell _ _ _ _ hk, Below.heap_setCell _ _ _ _ hk, Below.heap_setCell _ _ _ _ hk, Below.heap_setCell _ _ _ _ hk, Below.heap_setCell _ _ _ _ hk, Below.heap_setCell _ _ _ _ hk, Below.heap_setCell _ _ _ _ hk, Below.heap_setCell _ _ _ _ hk, Below.heap_setCell _ _ _ _ hk, Below.heap_setCell _ _ _ _ hk]
  · exact (grownBy_setCell (grownBy_setCell (grownBy_setCell (grownBy_setCell (grownBy_setCell (grownBy_setCell (grownBy_setCell (grownBy_setCell (grownBy_setCell (grownBy_setCell (grownBy_setCell (grownBy_setCell (grownBy_refl _ _) _) _) _) _) _) _) _) _) _) _) _) _)
set_option maxHeartbeats 4000000 in
theorem l8Rule_any (R p : Nat) (w : World) (h : Rd w R p) (hp : p ≤ 90000) (nm : ByteArray) : Calls Tryd.prog 28 #[.pointer (some ⟨R, 0, none⟩), .string nm] w (RuleDraw w R p nm) := by
  have hRl := h.lt
  have hb0 := xBelow_new w (.cells zRule 36)
  have h00 : RBox (w.alloc (.cells zRule 36)) w.heap.size zRule := heap_alloc_new _ _
  have hR0 := h.below hb0
  have hg0 : w.grownBy (w.alloc (.cells zRule 36)) (some R) := grown_below' (grownBy_refl _ _) hb0
  unfold zRule at hb0 hR0 hg0 h00
  obtain ⟨w0, hw0⟩ : ∃ w0, w.alloc (.cells #[.string { data := #[] }, .int .i64 0, .int .i64 0, .int .i64 0, .int .i64 0, .int .i64 0, .slice none 0 0, .int .i64 0, .int .i64 0, .int .i64 0, .int .i64 0, .int .i64 0] 36) = w0 := ⟨_, rfl⟩
  rw [hw0] at hb0 h00 hR0 hg0
  have hs0 : w.heap.size < w0.heap.size := (Array.getElem?_eq_some_iff.1 h00).1
  go_enter Tryd.func28, Tryd.ntmps28
  go_wp2_with fail
  refine (l2Some_any R p _ hR0 (by omega)).mono ?_
  rintro e w2 ⟨kd, sy, n, a, cap, F, S, p2, rfl, hR2, hp0, hp1, hg12, hO, hnd, hS, hl3, hz, hk⟩
  have hg2 := grownBy_trans hg0 hg12
  have h02 : RBox w2 w.heap.size _ := (hg12.5 _ hs0 (fun e => by have := Option.some.inj e; omega)).trans h00
  have hbx := xBelow_new w2 (.cells #[.int .i64 kd, .int .i64 sy, .int .i64 n, .slice a F.len cap] 34)
  have hx3 : PBox (w2.alloc (.cells #[.int .i64 kd, .int .i64 sy, .int .i64 n, .slice a F.len cap] 34)) w2.heap.size kd sy n (.slice a F.len cap) := ⟨heap_alloc_new _ _⟩
  have hR3 := hR2.below hbx
  have hO3 := hO.below hbx
  have hg3 := grown_below' hg2 hbx
  clear hw0
  obtain ⟨X, hXe⟩ : ∃ X, w2.heap.size = X := ⟨_, rfl⟩
  go_wp2_with fail
  obtain ⟨w3, hw3⟩ : ∃ w3, w2.alloc (.cells #[.int .i64 kd, .int .i64 sy, .int .i64 n, .slice a F.len cap] 34) = w3 := ⟨_, rfl⟩
  rw [hw3]
  rw [hw3] at hbx hx3 hR3 hO3 hg3
  have h03 : RBox w3 w.heap.size _ := (hbx.block _ (Array.getElem?_eq_some_iff.1 h02).1).trans h02
  have hs2 : w.heap.size < X := by rw [← hXe]; exact (Array.getElem?_eq_some_iff.1 h02).1
  have hS3 : ∀ y ∈ S, w.heap.size + 1 ≤ y ∧ y < X := fun y hy => by have := hS y hy; omega
  rw [hXe] at hx3 hbx
  clear hw3
  refine (pick_any R 2 p2 _ hR3 (by omega) (by omega) (by omega)).mono ?_
  rintro e w4 ⟨c, rfl, _, hc2, hR4, hgp⟩
  have hX3 := hx3.lt
  have hx4 := hx3.grown hgp (fun e => by have := Option.some.inj e; omega)
  have h04 : RBox w4 w.heap.size _ := (hgp.5 _ (by omega) (fun e => by have := Option.some.inj e; omega)).trans h03
  have hg4 := grownBy_trans hg3 hgp
  have hO4 : OwnAt w4 a S F := hO3.of_blocks (fun y hy => hgp.5 y (by have := (hS3 y hy).2; omega) (fun e => by have := Option.some.inj e; have := (hS3 y hy).1; omega))
  have hX4 := hx4.lt
  clear h00 h02 h03 hO hO3 hR0 hR2 hR3 hg0 hg2 hg3 hb0 hbx hx3 hg12 hgp hS
  go_upto_if 11 with fail
  go_cut [] (fun wx => ∃ (kd sy n : Int) (a : Option Addr) (cap : Nat) (F : Fo) (S : List Nat) (q : Nat), PBox wx X kd sy n (.slice a F.len cap) ∧ RBox wx w.heap.size zRule ∧ OwnAt wx a S F ∧ S.Nodup ∧ (∀ y ∈ S, w.heap.size + 1 ≤ y ∧ y < wx.heap.size ∧ y ≠ X) ∧ Rd wx R q ∧ p ≤ q ∧ q ≤ p + 1200 ∧ w.grownBy wx (some R) ∧ F.len ≤ 3 ∧ F.size ≤ 120 ∧ (0 ≤ kd ∧ kd ≤ 7 ∧ 0 ≤ sy ∧ sy ≤ 4 ∧ 0 ≤ n ∧ n ≤ 20))
  case first =>
    by_cases hc : c = 0
    · subst hc
      go_wp2_with fail
      refine ((l2Ex_any 2 (by omega) R (p2 + 1) w4 hR4 (by have := dq_le 2 (by omega); omega)).mono (fun e w' h => h.more (dq_le 2 (by omega)) (dz_le 2 (by omega)))).mono ?_
      rintro e w5 ⟨kd', sy', n', a', cap', F', S', p5, rfl, hR5, hq0, hq1, hg45, hO5, hnd5, hS5, hl5, hz5, hk5⟩
      have hx5 := hx4.grown hg45 (fun e => by have := Option.some.inj e; omega)
      have h05 : RBox w5 w.heap.size _ := (hg45.5 _ (by omega) (fun e => by have := Option.some.inj e; omega)).trans h04
      have hg5 := grownBy_trans hg4 hg45
      have hs5 := hg45.4
      obtain ⟨x0, x1, x2, x3⟩ := hx5.cells
      have f0 := hx5.free 0
      have f1 := hx5.free 1
      have f2 := hx5.free 2
      have f3 := hx5.free 3
      go_wp2
      go_meet
      refine ⟨kd', sy', n', a', cap', F', S', p5, hx5.store kd' sy' n' _, ?_, hO5.of_blocks (fun y hy => ?_), hnd5, fun y hy => ⟨by have := (hS5 y hy).1; omega, by have := (hS5 y hy).2; simpa using this, by have := (hS5 y hy).1; omega⟩, xd_rd_store hR5 (by omega) _ _ _ _, by omega, by omega, xd_store hg5 (by omega) _ _ _ _, hl5, hz5, hk5⟩
      · show _ = _
        rw [Below.heap_setCell _ _ _ _ (by simp; omega), Below.heap_setCell _ _ _ _ (by simp; omega), Below.heap_setCell _ _ _ _ (by simp; omega), Below.heap_setCell _ _ _ _ (by simp; omega)]
        exact h05
      · have hne : y ≠ X := by have := (hS5 y hy).1; omega
        rw [Below.heap_setCell _ _ _ _ hne, Below.heap_setCell _ _ _ _ hne, Below.heap_setCell _ _ _ _ hne, Below.heap_setCell _ _ _ _ hne]
    · have hcb : ((c : Int) == 0) = false := by simp; omega
      go_wp2
      go_meet
      exact ⟨kd, sy, n, a, cap, F, S, p2 + 1, hx4, h04, hO4, hnd, fun y hy => ⟨(hS3 y hy).1, by have := (hS3 y hy).2; omega, by have := (hS3 y hy).2; omega⟩, hR4, by omega, by omega, hg4, hl3, hz, hk⟩
  case rest =>
    clear h04 hO4 hR4 hg4 hx4 hS3 hnd hl3 hz hk hX4
    obtain ⟨kd, sy, n, a, cap, F, S, q, hx, h0, hO, hnd, hS, hR, hq0, hq1, hg, hl3, hz, hk⟩ := hcut
    have hXl := hx.lt
    have hbA := xBelow_new wc (.cells #[.int .i64 0, .int .i64 0, .int .i64 0, .int .i64 1, .int .i64 5] 3)
    have hIA := ints_made wc [0, 0, 0, 1, 5] (by decide) 3
    have hIA : Ints (wc.alloc (.cells #[.int .i64 0, .int .i64 0, .int .i64 0, .int .i64 1, .int .i64 5] 3)) (some ⟨wc.heap.size, 0, none⟩) [0, 0, 0, 1, 5] := hIA
    obtain ⟨wA, hwA⟩ : ∃ wA, wc.alloc (.cells #[.int .i64 0, .int .i64 0, .int .i64 0, .int .i64 1, .int .i64 5] 3) = wA := ⟨_, rfl⟩
    rw [hwA] at hbA hIA
    have hRA := hR.below hbA
    have hxA := hx.below hbA
    have h0A : RBox wA w.heap.size zRule := (hbA.block _ (Array.getElem?_eq_some_iff.1 h0).1).trans h0
    have hOA := hO.below hbA
    have hgA := grown_below' hg hbA
    have hAs := hbA.size
    go_wp2_with fail
    refine (num_any R _ 5 [0, 0, 0, 1, 5] q _ hRA (by omega) hIA (by decide) (by decide) (fun z hz => by cases hz; show wc.heap.size ≠ R; omega)).mono ?_
    rintro e w5 ⟨lo, hlo, rfl, hR5, hg5⟩
    have hlo' : 0 ≤ lo ∧ lo ≤ 5 := by simp at hlo; omega
    clear hwA hIA hlo
    have hx5 := hxA.grown hg5 (fun e => by have := Option.some.inj e; omega)
    have h05 : RBox w5 w.heap.size zRule := (hg5.5 _ (by omega) (fun e => by have := Option.some.inj e; omega)).trans h0A
    have hO5 := hOA.of_blocks (fun y hy => hg5.5 y (by have := (hS y hy).2.1; omega) (fun e => by have := Option.some.inj e; have := (hS y hy).1; omega))
    have hg6 := grownBy_trans hgA hg5
    have hs5 := hg5.4
    have hS5 : ∀ y ∈ S, w.heap.size + 1 ≤ y ∧ y < w5.heap.size ∧ y ≠ X := fun y hy => by have := hS y hy; omega
    clear hx h0 hO hR hg hxA h0A hOA hRA hgA hbA hS hAs hXl hg5
    go_upto_region 5 with fail
    refine wp_region_rinv (by rfl) 20 17 (rV R nm kd sy n a cap F lo) (rS R q w5) (rFin R q w.heap.size w w5 nm kd sy n a cap F S lo) (by rfl) (by rfl) (after_lt (by kernel_rfl)) (fun k hk => ⟨q + 1, hR5.below ((Below.refl _ _).drew), Nat.le_refl _, by omega, xd_grown_drew (grownBy_refl _ _)⟩) ?step ?last ?done
    case step =>
      intro listed b u i o hI hi hl hn ho haf
      obtain ⟨q', hRu, hq1', hq2', hgu⟩ := hI.st hn
      have hls := hI.ls
      have g : ∀ j, j < 20 → listed.getD j false = true → rV R nm kd sy n a cap F lo j (b.tmps.getD (17 + j) undef) u := fun j hj h => hI.val hn j hj h
      have hsame : ∀ k, k + 1 ≤ leftOf (20 + 1) listed → rS R q w5 k u := fun k hk => ⟨q', hRu, hq1', by omega, hgu⟩
      have hsame' : ∀ (u' : World) (q2 : Nat), Rd u' R q2 → q' ≤ q2 → q2 ≤ q' + 1 → u.grownBy u' (some R) → ∀ k, k + 1 ≤ leftOf (20 + 1) listed → rS R q w5 k u' := fun u' q2 h1 h2 h3 h4 k hk => ⟨q2, h1, by omega, by omega, grownBy_trans hgu h4⟩
      have hq9 : q' < 100000 := by have := left_take (n := 20 + 1) (by omega : i < 20 + 1) hl; omega
      have e0 : b.tmps.getD 0 undef = .pointer (some ⟨R, 0, none⟩) := hI.old 0 (by omega)
      have e1 : b.tmps.getD 1 undef = .string nm := hI.old 1 (by omega)
      have e5 : b.tmps.getD 5 undef = .pointer (some ⟨X, 0, none⟩) := hI.old 5 (by omega)
      have e6 : b.tmps.getD 6 undef = .int .i64 lo := hI.old 6 (by omega)
      have cs : i = 0 ∨ i = 1 ∨ i = 2 ∨ i = 3 ∨ i = 4 ∨ i = 5 ∨ i = 6 ∨ i = 7 ∨ i = 8 ∨ i = 9 ∨ i = 10 ∨ i = 11 ∨ i = 12 ∨ i = 13 ∨ i = 14 ∨ i = 15 ∨ i = 16 ∨ i = 17 ∨ i = 18 ∨ i = 19 := by omega
      rcases cs with rfl | rfl | rfl | rfl | rfl | rfl | rfl | rfl | rfl | rfl | rfl | rfl | rfl | rfl | rfl | rfl | rfl | rfl | rfl | rfl
      · have ho' := ho; simp at ho'; subst ho'
        exact wpOp_value ho rfl (run_move rfl) (hI.put (by omega) (by simp) hl (fun _ _ h => h) (rV_pure e1 (by decide) (by decide) (by decide) (by decide)) hsame)
      · have ho' := ho; simp at ho'; subst ho'
        exact wpOp_value ho rfl (run_move rfl) (hI.put (by omega) (by simp) hl (fun _ _ h => h) (rV_pure e0 (by decide) (by decide) (by decide) (by decide)) hsame)
      · have ho' := ho; simp at ho'; subst ho'
        have hbA := xBelow_new u (.cells #[.int .i64 0, .int .i64 1, .int .i64 5, .int .i64 5, .int .i64 9] 3)
        have hIA : Ints (u.alloc (.cells #[.int .i64 0, .int .i64 1, .int .i64 5, .int .i64 5, .int .i64 9] 3)) (some ⟨u.heap.size, 0, none⟩) [0, 1, 5, 5, 9] := ints_made u [0, 1, 5, 5, 9] (by decide) 3
        exact wpOp_value ho rfl (v := .slice (some ⟨u.heap.size, 0, none⟩) 5 5) (w' := u.alloc (.cells #[.int .i64 0, .int .i64 1, .int .i64 5, .int .i64 5, .int .i64 9] 3)) (by simp [execOp, go_sem]) (hI.put (by omega) (by simp) hl (fun _ _ h => rV_grown h (xd_below_by hbA _)) ⟨fun _ => ⟨u.heap.size, rfl, by have := hRu.lt; omega, by rw [World.size_alloc]; omega, hIA⟩, fun e => absurd e (by decide), fun e => absurd e (by decide), fun e => absurd e (by decide), trivial⟩ (hsame' _ q' (hRu.below hbA) (by omega) (by omega) (xd_below_by hbA _)))
      · have ho' := ho; simp at ho'; subst ho'
        have h1 := g 1 (by omega) (haf ⟨1, .data⟩ (by simp) rfl)
        have h2 := g 2 (by omega) (haf ⟨2, .data⟩ (by simp) rfl)
        have hp : b.tmps.getD 18 undef = .pointer (some ⟨R, 0, none⟩) := h1.2.2.2.2
        obtain ⟨bl, hv, hbR, hblt, hI2⟩ := h2.1 rfl
        refine wpOp_call ho rfl (f := 42) (args := #[.pointer (some ⟨R, 0, none⟩), .slice (some ⟨bl, 0, none⟩) 5 5]) ((run_func rfl rfl Tryd.func42 (by kernel_rfl) rfl).trans (by simp; exact ⟨hp, hv⟩)) ?_
        refine (num_any R _ 5 [0, 1, 5, 5, 9] q' u hRu hq9 hI2 (by decide) (by decide) (fun z hz => by cases hz; exact hbR)).mono ?_
        rintro e u' ⟨x, hx, rfl, hR', hg'⟩
        exact ⟨_, rfl, hI.put (by omega) (by simp) hl (fun _ _ h => rV_grown h hg') (rV_pure ⟨x, rfl, by simp at hx; omega, by simp at hx; omega⟩ (by decide) (by decide) (by decide) (by decide)) (hsame' _ (q' + 1) hR' (by omega) (by omega) hg')⟩
      · have ho' := ho; simp at ho'; subst ho'
        exact wpOp_value ho rfl (run_move rfl) (hI.put (by omega) (by simp) hl (fun _ _ h => h) (rV_pure e0 (by decide) (by decide) (by decide) (by decide)) hsame)
      · have ho' := ho; simp at ho'; subst ho'
        have h4 := g 4 (by omega) (haf ⟨4, .data⟩ (by simp) rfl)
        have hp : b.tmps.getD 21 undef = .pointer (some ⟨R, 0, none⟩) := h4.2.2.2.2
        refine wpOp_call ho rfl (f := 40) (args := #[.pointer (some ⟨R, 0, none⟩), .int .i64 5]) ((run_func rfl rfl Tryd.func40 (by kernel_rfl) rfl).trans (by simp; exact ⟨hp, rfl⟩)) ?_
        refine (pick_any R 5 q' u hRu hq9 (by omega) (by omega)).mono ?_
        rintro e u' ⟨c, rfl, _, hc, hR', hg'⟩
        have hc := hc (by omega)
        exact ⟨_, rfl, hI.put (by omega) (by simp) hl (fun _ _ h => rV_grown h hg') (rV_pure ⟨(c : Int), rfl, by omega, by omega⟩ (by decide) (by decide) (by decide) (by decide)) (hsame' _ (q' + 1) hR' (by omega) (by omega) hg')⟩
      · have ho' := ho; simp at ho'; subst ho'
        have hxu := hx5.grown hgu (fun e => by have := Option.some.inj e; omega)
        obtain ⟨x0, x1, x2, x3⟩ := hxu.cells
        have e5' : b.tmps[5]?.getD undef = .pointer (some ⟨X, 0, none⟩) := by rw [← Array.getD_eq_getD_getElem?]; exact e5
        exact wpOp_value ho rfl (v := .agg #[.int .i64 kd, .int .i64 sy, .int .i64 n, .slice a F.len cap]) (w' := u) (by simp [execOp, go_sem, e5', x0, x1, x2, x3]) (hI.put (by omega) (by simp) hl (fun _ _ h => h) (rV_pure rfl (by decide) (by decide) (by decide) (by decide)) hsame)
      · have ho' := ho; simp at ho'; subst ho'
        exact wpOp_value ho rfl (run_move rfl) (hI.put (by omega) (by simp) hl (fun _ _ h => h) (rV_pure e6 (by decide) (by decide) (by decide) (by decide)) hsame)
      · have ho' := ho; simp at ho'; subst ho'
        exact wpOp_value ho rfl (run_move rfl) (hI.put (by omega) (by simp) hl (fun _ _ h => h) (rV_pure e0 (by decide) (by decide) (by decide) (by decide)) hsame)
      · have ho' := ho; simp at ho'; subst ho'
        have hbA := xBelow_new u (.cells #[.int .i64 100, .int .i64 100, .int .i64 5] 3)
        have hIA : Ints (u.alloc (.cells #[.int .i64 100, .int .i64 100, .int .i64 5] 3)) (some ⟨u.heap.size, 0, none⟩) [100, 100, 5] := ints_made u [100, 100, 5] (by decide) 3
        exact wpOp_value ho rfl (v := .slice (some ⟨u.heap.size, 0, none⟩) 3 3) (w' := u.alloc (.cells #[.int .i64 100, .int .i64 100, .int .i64 5] 3)) (by simp [execOp, go_sem]) (hI.put (by omega) (by simp) hl (fun _ _ h => rV_grown h (xd_below_by hbA _)) ⟨fun e => absurd e (by decide), fun _ => ⟨u.heap.size, rfl, by have := hRu.lt; omega, by rw [World.size_alloc]; omega, hIA⟩, fun e => absurd e (by decide), fun e => absurd e (by decide), trivial⟩ (hsame' _ q' (hRu.below hbA) (by omega) (by omega) (xd_below_by hbA _)))
      · have ho' := ho; simp at ho'; subst ho'
        have h8 := g 8 (by omega) (haf ⟨8, .data⟩ (by simp) rfl)
        have h9 := g 9 (by omega) (haf ⟨9, .data⟩ (by simp) rfl)
        have hp : b.tmps.getD 25 undef = .pointer (some ⟨R, 0, none⟩) := h8.2.2.2.2
        obtain ⟨bl, hv, hbR, hblt, hI2⟩ := h9.2.1 rfl
        refine wpOp_call ho rfl (f := 42) (args := #[.pointer (some ⟨R, 0, none⟩), .slice (some ⟨bl, 0, none⟩) 3 3]) ((run_func rfl rfl Tryd.func42 (by kernel_rfl) rfl).trans (by simp; exact ⟨hp, hv⟩)) ?_
        refine (num_any R _ 3 [100, 100, 5] q' u hRu hq9 hI2 (by decide) (by decide) (fun z hz => by cases hz; exact hbR)).mono ?_
        rintro e u' ⟨x, hx, rfl, hR', hg'⟩
        exact ⟨_, rfl, hI.put (by omega) (by simp) hl (fun _ _ h => rV_grown h hg') (rV_pure ⟨x, rfl, by simp at hx; omega, by simp at hx; omega⟩ (by decide) (by decide) (by decide) (by decide)) (hsame' _ (q' + 1) hR' (by omega) (by omega) hg')⟩
      · have ho' := ho; simp at ho'; subst ho'
        exact wpOp_value ho rfl (run_move rfl) (hI.put (by omega) (by simp) hl (fun _ _ h => h) (rV_pure e0 (by decide) (by decide) (by decide) (by decide)) hsame)
      · have ho' := ho; simp at ho'; subst ho'
        have h11 := g 11 (by omega) (haf ⟨11, .data⟩ (by simp) rfl)
        have hp : b.tmps.getD 28 undef = .pointer (some ⟨R, 0, none⟩) := h11.2.2.2.2
        refine wpOp_call ho rfl (f := 40) (args := #[.pointer (some ⟨R, 0, none⟩), .int .i64 4]) ((run_func rfl rfl Tryd.func40 (by kernel_rfl) rfl).trans (by simp; exact ⟨hp, rfl⟩)) ?_
        refine (pick_any R 4 q' u hRu hq9 (by omega) (by omega)).mono ?_
        rintro e u' ⟨c, rfl, _, hc, hR', hg'⟩
        have hc := hc (by omega)
        exact ⟨_, rfl, hI.put (by omega) (by simp) hl (fun _ _ h => rV_grown h hg') (rV_pure ⟨(c : Int), rfl, by omega, by omega⟩ (by decide) (by decide) (by decide) (by decide)) (hsame' _ (q' + 1) hR' (by omega) (by omega) hg')⟩
      · have ho' := ho; simp at ho'; subst ho'
        exact wpOp_value ho rfl (run_move rfl) (hI.put (by omega) (by simp) hl (fun _ _ h => h) (rV_pure e0 (by decide) (by decide) (by decide) (by decide)) hsame)
      · have ho' := ho; simp at ho'; subst ho'
        have hbA := xBelow_new u (.cells #[.int .i64 1, .int .i64 1, .int .i64 2, .int .i64 9, .int .i64 0, .int .i64 (-1)] 3)
        have hIA : Ints (u.alloc (.cells #[.int .i64 1, .int .i64 1, .int .i64 2, .int .i64 9, .int .i64 0, .int .i64 (-1)] 3)) (some ⟨u.heap.size, 0, none⟩) [1, 1, 2, 9, 0, -1] := ints_made u [1, 1, 2, 9, 0, -1] (by decide) 3
        exact wpOp_value ho rfl (v := .slice (some ⟨u.heap.size, 0, none⟩) 6 6) (w' := u.alloc (.cells #[.int .i64 1, .int .i64 1, .int .i64 2, .int .i64 9, .int .i64 0, .int .i64 (-1)] 3)) (by simp [execOp, go_sem]) (hI.put (by omega) (by simp) hl (fun _ _ h => rV_grown h (xd_below_by hbA _)) ⟨fun e => absurd e (by decide), fun e => absurd e (by decide), fun _ => ⟨u.heap.size, rfl, by have := hRu.lt; omega, by rw [World.size_alloc]; omega, hIA⟩, fun e => absurd e (by decide), trivial⟩ (hsame' _ q' (hRu.below hbA) (by omega) (by omega) (xd_below_by hbA _)))
      · have ho' := ho; simp at ho'; subst ho'
        have h13 := g 13 (by omega) (haf ⟨13, .data⟩ (by simp) rfl)
        have h14 := g 14 (by omega) (haf ⟨14, .data⟩ (by simp) rfl)
        have hp : b.tmps.getD 30 undef = .pointer (some ⟨R, 0, none⟩) := h13.2.2.2.2
        obtain ⟨bl, hv, hbR, hblt, hI2⟩ := h14.2.2.1 rfl
        refine wpOp_call ho rfl (f := 42) (args := #[.pointer (some ⟨R, 0, none⟩), .slice (some ⟨bl, 0, none⟩) 6 6]) ((run_func rfl rfl Tryd.func42 (by kernel_rfl) rfl).trans (by simp; exact ⟨hp, hv⟩)) ?_
        refine (num_any R _ 6 [1, 1, 2, 9, 0, -1] q' u hRu hq9 hI2 (by decide) (by decide) (fun z hz => by cases hz; exact hbR)).mono ?_
        rintro e u' ⟨x, hx, rfl, hR', hg'⟩
        exact ⟨_, rfl, hI.put (by omega) (by simp) hl (fun _ _ h => rV_grown h hg') (rV_pure ⟨x, rfl, by simp at hx; omega, by simp at hx; omega⟩ (by decide) (by decide) (by decide) (by decide)) (hsame' _ (q' + 1) hR' (by omega) (by omega) hg')⟩
      · have ho' := ho; simp at ho'; subst ho'
        exact wpOp_value ho rfl (run_move rfl) (hI.put (by omega) (by simp) hl (fun _ _ h => h) (rV_pure e0 (by decide) (by decide) (by decide) (by decide)) hsame)
      · have ho' := ho; simp at ho'; subst ho'
        have hbA := xBelow_new u (.cells #[.int .i64 (-1), .int .i64 (-1), .int .i64 (-1), .int .i64 (-1), .int .i64 3, .int .i64 4, .int .i64 2] 3)
        have hIA : Ints (u.alloc (.cells #[.int .i64 (-1), .int .i64 (-1), .int .i64 (-1), .int .i64 (-1), .int .i64 3, .int .i64 4, .int .i64 2] 3)) (some ⟨u.heap.size, 0, none⟩) [-1, -1, -1, -1, 3, 4, 2] := ints_made u [-1, -1, -1, -1, 3, 4, 2] (by decide) 3
        exact wpOp_value ho rfl (v := .slice (some ⟨u.heap.size, 0, none⟩) 7 7) (w' := u.alloc (.cells #[.int .i64 (-1), .int .i64 (-1), .int .i64 (-1), .int .i64 (-1), .int .i64 3, .int .i64 4, .int .i64 2] 3)) (by simp [execOp, go_sem]) (hI.put (by omega) (by simp) hl (fun _ _ h => rV_grown h (xd_below_by hbA _)) ⟨fun e => absurd e (by decide), fun e => absurd e (by decide), fun e => absurd e (by decide), fun _ => ⟨u.heap.size, rfl, by have := hRu.lt; omega, by rw [World.size_alloc]; omega, hIA⟩, trivial⟩ (hsame' _ q' (hRu.below hbA) (by omega) (by omega) (xd_below_by hbA _)))
      · have ho' := ho; simp at ho'; subst ho'
        have h16 := g 16 (by omega) (haf ⟨16, .data⟩ (by simp) rfl)
        have h17 := g 17 (by omega) (haf ⟨17, .data⟩ (by simp) rfl)
        have hp : b.tmps.getD 33 undef = .pointer (some ⟨R, 0, none⟩) := h16.2.2.2.2
        obtain ⟨bl, hv, hbR, hblt, hI2⟩ := h17.2.2.2.1 rfl
        refine wpOp_call ho rfl (f := 42) (args := #[.pointer (some ⟨R, 0, none⟩), .slice (some ⟨bl, 0, none⟩) 7 7]) ((run_func rfl rfl Tryd.func42 (by kernel_rfl) rfl).trans (by simp; exact ⟨hp, hv⟩)) ?_
        refine (num_any R _ 7 [-1, -1, -1, -1, 3, 4, 2] q' u hRu hq9 hI2 (by decide) (by decide) (fun z hz => by cases hz; exact hbR)).mono ?_
        rintro e u' ⟨x, hx, rfl, hR', hg'⟩
        exact ⟨_, rfl, hI.put (by omega) (by simp) hl (fun _ _ h => rV_grown h hg') (rV_pure ⟨x, rfl, by simp at hx; omega, by simp at hx; omega⟩ (by decide) (by decide) (by decide) (by decide)) (hsame' _ (q' + 1) hR' (by omega) (by omega) hg')⟩
      · have ho' := ho; simp at ho'; subst ho'
        have h0 := (g 0 (by omega) (haf ⟨0, .data⟩ (by simp) rfl)).2.2.2.2
        have h3 := (g 3 (by omega) (haf ⟨3, .data⟩ (by simp) rfl)).2.2.2.2
        have h5 := (g 5 (by omega) (haf ⟨5, .data⟩ (by simp) rfl)).2.2.2.2
        have h6 := (g 6 (by omega) (haf ⟨6, .data⟩ (by simp) rfl)).2.2.2.2
        have h7 := (g 7 (by omega) (haf ⟨7, .data⟩ (by simp) rfl)).2.2.2.2
        have h10 := (g 10 (by omega) (haf ⟨10, .data⟩ (by simp) rfl)).2.2.2.2
        have h12 := (g 12 (by omega) (haf ⟨12, .data⟩ (by simp) rfl)).2.2.2.2
        have h15 := (g 15 (by omega) (haf ⟨15, .data⟩ (by simp) rfl)).2.2.2.2
        have h18 := (g 18 (by omega) (haf ⟨18, .data⟩ (by simp) rfl)).2.2.2.2
        obtain ⟨y3, v3, a3, b3⟩ := h3
        obtain ⟨y5, v5, a5, b5⟩ := h5
        obtain ⟨y10, v10, a10, b10⟩ := h10
        obtain ⟨y12, v12, a12, b12⟩ := h12
        obtain ⟨y15, v15, a15, b15⟩ := h15
        obtain ⟨y18, v18, a18, b18⟩ := h18
        have v0 : b.tmps.getD 17 undef = .string nm := h0
        have v6 : b.tmps.getD 23 undef = .agg #[.int .i64 kd, .int .i64 sy, .int .i64 n, .slice a F.len cap] := h6
        have v7 : b.tmps.getD 24 undef = .int .i64 lo := h7
        rw [Array.getD_eq_getD_getElem?] at v0
        rw [Array.getD_eq_getD_getElem?] at v3
        rw [Array.getD_eq_getD_getElem?] at v5
        rw [Array.getD_eq_getD_getElem?] at v6
        rw [Array.getD_eq_getD_getElem?] at v7
        rw [Array.getD_eq_getD_getElem?] at v10
        rw [Array.getD_eq_getD_getElem?] at v12
        rw [Array.getD_eq_getD_getElem?] at v15
        rw [Array.getD_eq_getD_getElem?] at v18
        exact wpOp_value ho rfl (v := ruV ⟨nm, y3, y5, kd, sy, n, F, lo, y10, y12, y15, y18⟩ a cap) (w' := u) (by simp [execOp, go_sem, ruV, ruC, v0, v3, v5, v6, v7, v10, v12, v15, v18]) (hI.put (by omega) (by simp) hl (fun _ _ h => h) (rV_pure ⟨_, rfl, ⟨rfl, rfl, rfl, rfl, rfl, rfl, ⟨a3, b3, a5, b5, a10, b10, a12, b12, a15, b15, a18, b18⟩⟩⟩ (by decide) (by decide) (by decide) (by decide)) hsame)
    case last =>
      intro listed b u o hI hn ho haf
      obtain ⟨q', hRu, hq1', hq2', hgu⟩ := hI.st hn
      have ho' := ho; simp at ho'; subst ho'
      have h19 := hI.val hn 19 (by omega) (haf ⟨19, .data⟩ (by simp) rfl)
      obtain ⟨x, hv, hx⟩ := h19.2.2.2.2
      have e4 : b.tmps.getD 4 undef = .pointer (some ⟨w.heap.size, 0, none⟩) := hI.old 4 (by omega)
      have hBl : w.heap.size < w5.heap.size := (Array.getElem?_eq_some_iff.1 h05).1
      have hBu : RBox u w.heap.size zRule := (hgu.5 _ hBl (fun e => by have := Option.some.inj e; omega)).trans h05
      obtain ⟨u', hrun, hB', hoth, hg'⟩ := rule_store x a cap u b w.heap.size _ _ hBu e4 hv
      refine wpOp_skip ho rfl hrun ?_
      show RInv _ _ _ _ _ _ _ b u'
      have hus := hgu.4
      have hRl' := hRu.lt
      refine hI.last (fun i hi => ?_) ⟨x, q', hx, hB', hRu.lower (B := R + 1) (by omega) ⟨hg'.1, hg'.2, hg'.3, by have := hg'.4; omega, fun k hk => hoth k (by omega)⟩, by omega, by omega, xd_grown (grownBy_trans hg6 hgu) hg' (fun k e => by cases e; omega), hO5.of_blocks (fun y hy => (hoth y (by have := (hS5 y hy).1; omega)).trans (hgu.5 y (hS5 y hy).2.1 (fun e => by have := Option.some.inj e; have := (hS5 y hy).1; omega))), by have := hg'.4; omega⟩
      have ci : i = 0 ∨ i = 1 ∨ i = 2 ∨ i = 3 ∨ i = 4 ∨ i = 5 ∨ i = 6 ∨ i = 7 ∨ i = 8 ∨ i = 9 ∨ i = 10 ∨ i = 11 ∨ i = 12 ∨ i = 13 ∨ i = 14 ∨ i = 15 ∨ i = 16 ∨ i = 17 ∨ i = 18 ∨ i = 19 := by omega
      rcases ci with rfl | rfl | rfl | rfl | rfl | rfl | rfl | rfl | rfl | rfl | rfl | rfl | rfl | rfl | rfl | rfl | rfl | rfl | rfl | rfl <;> exact haf ⟨_, .phase⟩ (by simp) rfl
    case done =>
      intro b u hbd hbs hbo hF
      obtain ⟨x, q', hx, hB, hRu, hqa, hqb, hgu, hOu, hsu⟩ := hF
      have e4 : b.tmps.getD 4 undef = .pointer (some ⟨w.heap.size, 0, none⟩) := hbo 4 (by omega)
      rename_i K hK
      show K b u
      refine hK b u ?_
      clear hK
      go_wp2
      have hn := hx.num
      have hO : OwnAt u a S x.ks := by rw [hx.ks]; exact hOu
      refine bodyPost_ret (results_rule rfl _ _ w.heap.size x a cap e4 hB) hbd ⟨x, a, cap, S, q', rfl, hx.nm, hRu, by omega, by omega, hgu, hO, hnd, fun y hy => ⟨by have := (hS5 y hy).1; omega, by have := (hS5 y hy).2.1; omega⟩, by rw [hx.ks]; exact hl3, by rw [hx.ks]; exact hz, ?_⟩
      rw [hx.kd, hx.sy, hx.n, hx.lo]
      omega
end Go.Proofs.YtohijenlcfkliaaDoor

