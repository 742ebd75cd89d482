/- Two that are looked for, as the laws draw them: one or nearly. -/
import Derived.Test.YtpokhhplgljmiaaDoorExBd
import Derived.Deep.CutRange
import Derived.Deep.DeepCutAuto
namespace Go.Proofs.YtpokhhplgljmiaaDoor
open Go.ChangeShapes Go.WideShapes Go.ChangeAt Go.RowKit Go.Deep
set_option linter.unusedVariables false
set_option maxRecDepth 4000
set_option linter.unusedSimpArgs false

theorem results_two {fn : Func} {p q : Tmp} (h : fn.results = #[.cell p 25, .cell q 25]) (tmps : Array Value) (w : World) (A B : Nat) (kd sy n : Int) (v : Value) (kd' sy' n' : Int) (v' : Value) (hp : tmps.getD p undef = .pointer (some ⟨A, 0, none⟩)) (hq : tmps.getD q undef = .pointer (some ⟨B, 0, none⟩))
    (hA : PBox w A kd sy n v) (hB : PBox w B kd' sy' n' v') : (results fn tmps).run Tryd.prog w = .ok (.tuple #[.agg #[.int .i64 kd, .int .i64 sy, .int .i64 n, v], .agg #[.int .i64 kd', .int .i64 sy', .int .i64 n', v']]) w := by
  have h1 := run_loadVar_row (P := Tryd.prog) w A 25 25 _ (0, 0) _ hA.row Tryd.underlying25 rfl (by kernel_rfl)
  have h2 := run_loadVar_row (P := Tryd.prog) w B 25 25 _ (0, 0) _ hB.row Tryd.underlying25 rfl (by kernel_rfl)
  rw [Array.getD_eq_getD_getElem?] at hp hq
  simp only [results, h]
  simp [Sem.run_bind, Result.andThen, hp, hq, asAddr, h1, h2]
/-- Four stores into one block leave the others. -/
theorem hs4 (W : World) (A y : Nat) (h : A < y) (v0 v1 v2 v3 : Value) :
    ((((W.setCell ⟨A, 0, none⟩ v0).setCell ⟨A, 1, none⟩ v1).setCell ⟨A, 2, none⟩ v2).setCell ⟨A, 3, none⟩ v3).heap[y]? = W.heap[y]? :=
  (Below.heap_setCell _ _ _ _ (by show y ≠ A; omega)).trans ((Below.heap_setCell _ _ _ _ (by show y ≠ A; omega)).trans ((Below.heap_setCell _ _ _ _ (by show y ≠ A; omega)).trans (Below.heap_setCell _ _ _ _ (by show y ≠ A; omega))))
theorem fin_ab {w W : World} {A B : Nat} {kd sy n kd' sy' n' : Int} {v v' : Value} {p p' : Option Addr} {S S' : List Nat} {F F' : Fo} {a0 a1 a2 b0 b1 b2 : Int} {z z' : Value} (hA : PBox W A a0 a1 a2 z) (hB : PBox W B b0 b1 b2 z') (hAB : A < B) (hwA : w.heap.size ≤ A) (hO : OwnAt W p S F) (hO' : OwnAt W p' S' F') (hS : ∀ y ∈ S, B < y) (hS' : ∀ y ∈ S', B < y) (hb : Below w.heap.size w W) :
    ∃ U, ((((((((W.setCell ⟨A, 0, none⟩ (.int .i64 kd)).setCell ⟨A, 1, none⟩ (.int .i64 sy)).setCell ⟨A, 2, none⟩ (.int .i64 n)).setCell ⟨A, 3, none⟩ (v)).setCell ⟨B, 0, none⟩ (.int .i64 kd')).setCell ⟨B, 1, none⟩ (.int .i64 sy')).setCell ⟨B, 2, none⟩ (.int .i64 n')).setCell ⟨B, 3, none⟩ (v')) = U ∧ PBox U A kd sy n v ∧ PBox U B kd' sy' n' v' ∧ OwnAt U p S F ∧ OwnAt U p' S' F' ∧ Below w.heap.size w U := by
  have hoth : ∀ y, B < y → ((((((((W.setCell ⟨A, 0, none⟩ (.int .i64 kd)).setCell ⟨A, 1, none⟩ (.int .i64 sy)).setCell ⟨A, 2, none⟩ (.int .i64 n)).setCell ⟨A, 3, none⟩ (v)).setCell ⟨B, 0, none⟩ (.int .i64 kd')).setCell ⟨B, 1, none⟩ (.int .i64 sy')).setCell ⟨B, 2, none⟩ (.int .i64 n')).setCell ⟨B, 3, none⟩ (v')).heap[y]? = W.heap[y]? := fun y hy => by
    exact (hs4 _ B y (by omega) _ _ _ _).trans (hs4 _ A y (by omega) _ _ _ _)
  exact ⟨_, rfl, (hA.store kd sy n v).store_other (by omega) _ _ _ _, (hB.store_other (by omega) _ _ _ _).store kd' sy' n' v', hO.of_blocks (fun y hy => hoth y (hS y hy)), hO'.of_blocks (fun y hy => hoth y (hS' y hy)), below_store (below_store hb hwA _ _ _ _) (by omega) _ _ _ _⟩
theorem fin_ba {w W : World} {A B : Nat} {kd sy n kd' sy' n' : Int} {v v' : Value} {p p' : Option Addr} {S S' : List Nat} {F F' : Fo} {a0 a1 a2 b0 b1 b2 : Int} {z z' : Value} (hA : PBox W A a0 a1 a2 z) (hB : PBox W B b0 b1 b2 z') (hAB : A < B) (hwA : w.heap.size ≤ A) (hO : OwnAt W p S F) (hO' : OwnAt W p' S' F') (hS : ∀ y ∈ S, B < y) (hS' : ∀ y ∈ S', B < y) (hb : Below w.heap.size w W) :
    ∃ U, ((((((((W.setCell ⟨B, 0, none⟩ (.int .i64 kd')).setCell ⟨B, 1, none⟩ (.int .i64 sy')).setCell ⟨B, 2, none⟩ (.int .i64 n')).setCell ⟨B, 3, none⟩ (v')).setCell ⟨A, 0, none⟩ (.int .i64 kd)).setCell ⟨A, 1, none⟩ (.int .i64 sy)).setCell ⟨A, 2, none⟩ (.int .i64 n)).setCell ⟨A, 3, none⟩ (v)) = U ∧ PBox U A kd sy n v ∧ PBox U B kd' sy' n' v' ∧ OwnAt U p S F ∧ OwnAt U p' S' F' ∧ Below w.heap.size w U := by
  have hoth : ∀ y, B < y → ((((((((W.setCell ⟨B, 0, none⟩ (.int .i64 kd')).setCell ⟨B, 1, none⟩ (.int .i64 sy')).setCell ⟨B, 2, none⟩ (.int .i64 n')).setCell ⟨B, 3, none⟩ (v')).setCell ⟨A, 0, none⟩ (.int .i64 kd)).setCell ⟨A, 1, none⟩ (.int .i64 sy)).setCell ⟨A, 2, none⟩ (.int .i64 n)).setCell ⟨A, 3, none⟩ (v)).heap[y]? = W.heap[y]? := fun y hy => by
    exact (hs4 _ A y (by omega) _ _ _ _).trans (hs4 _ B y (by omega) _ _ _ _)
  exact ⟨_, rfl, (hA.store_other (by omega) _ _ _ _).store kd sy n v, (hB.store kd' sy' n' v').store_other (by omega) _ _ _ _, hO.of_blocks (fun y hy => hoth y (hS y hy)), hO'.of_blocks (fun y hy => hoth y (hS' y hy)), below_store (below_store hb (by omega) _ _ _ _) hwA _ _ _ _⟩
/-- What the draw of two hands back. -/
def DrawnXX (w : World) (e : Ending) (w' : World) : Prop :=
  ∃ (kd sy n : Int) (p : Option Addr) (c : Nat) (F : Fo) (S : List Nat) (kd' sy' n' : Int) (p' : Option Addr) (c' : Nat) (F' : Fo) (S' : List Nat),
    e = .returned (.tuple #[.agg #[.int .i64 kd, .int .i64 sy, .int .i64 n, .slice p F.len c], .agg #[.int .i64 kd', .int .i64 sy', .int .i64 n', .slice p' F'.len c']]) ∧ (OwnAt w' p S F ∧ S.Nodup ∧ F.len ≤ 3 ∧ F.size ≤ 2000) ∧ (OwnAt w' p' S' F' ∧ S'.Nodup ∧ F'.len ≤ 3 ∧ F'.size ≤ 2000) ∧
    (-1 ≤ kd ∧ kd ≤ 22 ∧ -1 ≤ sy ∧ sy ≤ 22 ∧ -1 ≤ n ∧ n ≤ 22) ∧ (-1 ≤ kd' ∧ kd' ≤ 22 ∧ -1 ≤ sy' ∧ sy' ≤ 22 ∧ -1 ≤ n' ∧ n' ≤ 22) ∧ Below w.heap.size w w'

set_option maxHeartbeats 4000000 in
theorem drawExSame_any (a : Option Addr) (cap : Nat) (l : List Int) (w : World) (h : Bytes w a l) (hc : l.length ≤ cap) :
    Calls Tryd.prog 10 #[.slice a l.length cap] w (DrawnXX w) := by
  have hlen := h.len
  unfold maxLen at hlen
  obtain ⟨w0', hw0'⟩ : ∃ u, w.alloc (.cells #[.int .i64 0, .int .i64 0, .int .i64 0, .slice none 0 0] 25) = u := ⟨_, rfl⟩
  have hb0' := xBelow_new w (.cells #[.int .i64 0, .int .i64 0, .int .i64 0, .slice none 0 0] 25)
  have hA0' : PBox (w.alloc (.cells #[.int .i64 0, .int .i64 0, .int .i64 0, .slice none 0 0] 25)) w.heap.size 0 0 0 (.slice none 0 0) := ⟨heap_alloc_new _ _⟩
  rw [hw0'] at hb0' hA0'
  obtain ⟨w0, hw0⟩ : ∃ u, w0'.alloc (.cells #[.int .i64 0, .int .i64 0, .int .i64 0, .slice none 0 0] 25) = u := ⟨_, rfl⟩
  have hb0 := xBelow_new w0' (.cells #[.int .i64 0, .int .i64 0, .int .i64 0, .slice none 0 0] 25)
  have hB0 : PBox (w0'.alloc (.cells #[.int .i64 0, .int .i64 0, .int .i64 0, .slice none 0 0] 25)) w0'.heap.size 0 0 0 (.slice none 0 0) := ⟨heap_alloc_new _ _⟩
  rw [hw0] at hb0 hB0
  have hA0 := hA0'.below hb0
  have b00 := hb0'.trans (hb0.mono hb0'.size)
  obtain ⟨A, hAe⟩ : ∃ A, w.heap.size = A := ⟨_, rfl⟩
  obtain ⟨B, hBe⟩ : ∃ B, w0'.heap.size = B := ⟨_, rfl⟩
  have lAB : A < B := by rw [← hAe, ← hBe]; exact hA0'.lt
  rw [hAe] at hA0
  rw [hBe] at hB0
  have lB0 := hB0.lt
  clear hA0' hb0 hb0'
  go_enter Tryd.func10, Tryd.ntmps10
  go_wp2_with fail
  refine (l14Open_any _ _ l _ (h.below b00) hc).mono ?_
  rintro e w1 ⟨rfl, hR1, hb1, hs1⟩
  have hA1 := hA0.below hb1
  have hB1 := hB0.below hb1
  have b01 := b00.trans (hb1.mono b00.size)
  clear hw0' hw0 hA0 hB0
  obtain ⟨R, hRe⟩ : ∃ R, w0.heap.size = R := ⟨_, rfl⟩
  rw [hRe] at hR1 hs1 lB0 ⊢
  go_wp2_with fail
  refine (l2Bent_any R 0 _ hR1 (by omega)).mono ?_
  rintro e w2 ⟨kd, sy, n, p, c, F, S, p2, rfl, hR2, hp0, hp2, hg2, hO, hnd, hS, hl3, hz, hk⟩
  have hA2 := hA1.grown hg2 (fun e => by have := Option.some.inj e; omega)
  have hB2 := hB1.grown hg2 (fun e => by have := Option.some.inj e; omega)
  have b02 := xb_below b01 hg2 (by have := b00.size; omega) b01.size
  have hs2 := hg2.4
  obtain ⟨w3, hw3⟩ : ∃ u, w2.alloc (.cells #[.int .i64 kd, .int .i64 sy, .int .i64 n, .slice p F.len c] 25) = u := ⟨_, rfl⟩
  have hb3 := xBelow_new w2 (.cells #[.int .i64 kd, .int .i64 sy, .int .i64 n, .slice p F.len c] 25)
  have hC3 : PBox (w2.alloc (.cells #[.int .i64 kd, .int .i64 sy, .int .i64 n, .slice p F.len c] 25)) w2.heap.size kd sy n (.slice p F.len c) := ⟨heap_alloc_new _ _⟩
  rw [hw3] at hb3 hC3
  obtain ⟨C, hCe⟩ : ∃ C, w2.heap.size = C := ⟨_, rfl⟩
  rw [hCe] at hC3
  have hA3 := hA2.below hb3
  have hB3 := hB2.below hb3
  have hO3 := hO.below hb3
  have b03 := b02.trans (hb3.mono b02.size)
  have hSC : ∀ y ∈ S, R < y ∧ y < C := fun y hy => by have := hS y hy; omega
  have lRC : R < C := by omega
  have hC3l := hC3.lt
  go_wp2_with fail
  refine (l14Open_any _ _ l _ (h.below b03) hc).mono ?_
  rintro e w4 ⟨rfl, hR4, hb4, hs4⟩
  have hA4 := hA3.below hb4
  have hB4 := hB3.below hb4
  have hC4 := hC3.below hb4
  have hO4 := hO3.below hb4
  have b04 := b03.trans (hb4.mono b03.size)
  obtain ⟨Q, hQe⟩ : ∃ Q, w3.heap.size = Q := ⟨_, rfl⟩
  rw [hQe] at hR4 hs4 hC3l ⊢
  clear hw3 hA1 hA2 hA3 hB1 hB2 hB3 hC3 hO hO3 hR1 hR2 hS
  go_wp2_with fail
  refine (l2Bent_any Q 0 _ hR4 (by omega)).mono ?_
  rintro e w5 ⟨kd', sy', n', p', c', F', S', p5, rfl, hR5, hq0, hq5, hg5, hO', hnd', hS', hl3', hz', hk'⟩
  have hA5 := hA4.grown hg5 (fun e => by have := Option.some.inj e; omega)
  have hB5 := hB4.grown hg5 (fun e => by have := Option.some.inj e; omega)
  have hC5 := hC4.grown hg5 (fun e => by have := Option.some.inj e; omega)
  have hO5 : OwnAt w5 p S F := hO4.of_blocks (fun y hy => hg5.5 y (by have := hSC y hy; omega) (fun e => by have := Option.some.inj e; have := hSC y hy; omega))
  have b05 := xb_below b04 hg5 (by have := b03.size; omega) b04.size
  have hs5 := hg5.4
  obtain ⟨w6, hw6⟩ : ∃ u, w5.alloc (.cells #[.int .i64 kd', .int .i64 sy', .int .i64 n', .slice p' F'.len c'] 25) = u := ⟨_, rfl⟩
  have hb6 := xBelow_new w5 (.cells #[.int .i64 kd', .int .i64 sy', .int .i64 n', .slice p' F'.len c'] 25)
  have hD6 : PBox (w5.alloc (.cells #[.int .i64 kd', .int .i64 sy', .int .i64 n', .slice p' F'.len c'] 25)) w5.heap.size kd' sy' n' (.slice p' F'.len c') := ⟨heap_alloc_new _ _⟩
  rw [hw6] at hb6 hD6
  obtain ⟨D, hDe⟩ : ∃ D, w5.heap.size = D := ⟨_, rfl⟩
  rw [hDe] at hD6
  have hA6 := hA5.below hb6
  have hB6 := hB5.below hb6
  have hC6 := hC5.below hb6
  have hO6 := hO5.below hb6
  have hO6' := hO'.below hb6
  have b06 := b05.trans (hb6.mono b05.size)
  have hSD : ∀ y ∈ S', C < y ∧ y < D := fun y hy => by have := hS' y hy; omega
  have lCD : C < D := by omega
  have hbs := h.below b06
  clear hA4 hA5 hB4 hB5 hC4 hC5 hO4 hO5 hO' hR4 hR5 hS' hg5 hg2
  cases l with
  | nil =>
    simp only [List.length_nil] at *
    obtain ⟨x0, x1, x2, x3⟩ := hC6.cells
    obtain ⟨y0, y1, y2, y3⟩ := hD6.cells
    obtain ⟨z0, z1, z2, z3⟩ := hA6.cells
    obtain ⟨t0, t1, t2, t3⟩ := hB6.cells
    have fA := fun i => hA6.free i
    have fB := fun i => hB6.free i
    go_wp2_with fail
    go_region
    all_goals go_wp2
    all_goals
      have hAd : PBox w6 A 0 0 0 (.slice none 0 0) := ⟨hA6.row⟩
      have hBd : PBox w6 B 0 0 0 (.slice none 0 0) := ⟨hB6.row⟩
      have hOd : OwnAt w6 p S F := hO6.of_blocks (fun _ _ => rfl)
      have hOd' : OwnAt w6 p' S' F' := hO6'.of_blocks (fun _ _ => rfl)
      have hbd := b06
      first
        | (obtain ⟨U, hU, k1, k2, k3, k4, k5⟩ := fin_ab (kd := kd) (sy := sy) (n := n) (v := .slice p F.len c) (kd' := kd') (sy' := sy') (n' := n') (v' := .slice p' F'.len c') hAd hBd lAB (by omega) hOd hOd' (fun y hy => by have := hSC y hy; omega) (fun y hy => by have := hSD y hy; omega) hbd
           rw [hU]
           exact bodyPost_ret (results_two rfl _ _ A B kd sy n _ kd' (sy') n' _ rfl rfl ⟨k1.row⟩ ⟨k2.row⟩) rfl ⟨kd, sy, n, p, c, F, S, kd', sy', n', p', c', F', S', rfl, ⟨k3.of_blocks (fun _ _ => rfl), hnd, hl3, hz⟩, ⟨k4.of_blocks (fun _ _ => rfl), hnd', hl3', hz'⟩, ⟨by omega, by omega, by omega, by omega, by omega, by omega⟩, ⟨by omega, by omega, by omega, by omega, by omega, by omega⟩, k5.drew⟩)
        | (obtain ⟨U, hU, k1, k2, k3, k4, k5⟩ := fin_ba (kd := kd) (sy := sy) (n := n) (v := .slice p F.len c) (kd' := kd') (sy' := sy') (n' := n') (v' := .slice p' F'.len c') hAd hBd lAB (by omega) hOd hOd' (fun y hy => by have := hSC y hy; omega) (fun y hy => by have := hSD y hy; omega) hbd
           rw [hU]
           exact bodyPost_ret (results_two rfl _ _ A B kd sy n _ kd' (sy') n' _ rfl rfl ⟨k1.row⟩ ⟨k2.row⟩) rfl ⟨kd, sy, n, p, c, F, S, kd', sy', n', p', c', F', S', rfl, ⟨k3.of_blocks (fun _ _ => rfl), hnd, hl3, hz⟩, ⟨k4.of_blocks (fun _ _ => rfl), hnd', hl3', hz'⟩, ⟨by omega, by omega, by omega, by omega, by omega, by omega⟩, ⟨by omega, by omega, by omega, by omega, by omega, by omega⟩, k5.drew⟩)
  | cons b0 bs =>
    obtain ⟨N, hN⟩ : ∃ N, (b0 :: bs).length = N := ⟨_, rfl⟩
    have hN0 : 0 < N := by rw [← hN]; simp
    obtain ⟨b, off, rfl, hbl, hcc⟩ := hbs.cells (by simp)
    obtain ⟨e0, e1, e2⟩ := hcc 0 (by simp)
    simp only [List.getElem_cons_zero, Nat.add_zero] at e0
    rw [hN] at hc hlen ⊢
    have hN0' : (0 : Int) < (N : Int) := by omega
    clear hN hcc
    by_cases hr : b0.tmod 2 = 1
    · have hr' : (b0.tmod 2 == 1) = true := by simpa using hr
      have hA7 := hA6.other D 1 (by omega) (.int .i64 (sy' + 1))
      have hB7 := hB6.other D 1 (by omega) (.int .i64 (sy' + 1))
      have hC7 := hC6.other D 1 (by omega) (.int .i64 (sy' + 1))
      have hD7 := hD6.put1 (sy' + 1)
      have hO7 : OwnAt (w6.setCell ⟨D, 1, none⟩ (.int .i64 (sy' + 1))) p S F := hO6.of_blocks (fun y hy => Below.heap_setCell _ _ _ _ (by have := hSC y hy; show y ≠ D; omega))
      have hO7' : OwnAt (w6.setCell ⟨D, 1, none⟩ (.int .i64 (sy' + 1))) p' S' F' := hO6'.of_blocks (fun y hy => Below.heap_setCell _ _ _ _ (by have := hSD y hy; show y ≠ D; omega))
      have b07 : Below w.heap.size w (w6.setCell ⟨D, 1, none⟩ (.int .i64 (sy' + 1))) := b06.setCell (by show _ ≤ D; omega) _
      obtain ⟨w7, hw7⟩ : ∃ u, w6.setCell ⟨D, 1, none⟩ (.int .i64 (sy' + 1)) = u := ⟨_, rfl⟩
      have d1 := hD6.cells.2.1
      have fD := hD6.free 1
      rw [hw7] at hA7 hB7 hC7 hD7 hO7 hO7' b07
      obtain ⟨x0, x1, x2, x3⟩ := hC7.cells
      obtain ⟨y0, y1, y2, y3⟩ := hD7.cells
      obtain ⟨z0, z1, z2, z3⟩ := hA7.cells
      obtain ⟨t0, t1, t2, t3⟩ := hB7.cells
      have fA := fun i => hA7.free i
      have fB := fun i => hB7.free i
      go_wp2_with fail
      go_region
      all_goals go_wp2
      all_goals
        have hAd : PBox w7 A 0 0 0 (.slice none 0 0) := ⟨hA7.row⟩
        have hBd : PBox w7 B 0 0 0 (.slice none 0 0) := ⟨hB7.row⟩
        have hOd : OwnAt w7 p S F := hO7.of_blocks (fun _ _ => rfl)
        have hOd' : OwnAt w7 p' S' F' := hO7'.of_blocks (fun _ _ => rfl)
        have hbd := b07
        first
          | (obtain ⟨U, hU, k1, k2, k3, k4, k5⟩ := fin_ab (kd := kd) (sy := sy) (n := n) (v := .slice p F.len c) (kd' := kd') (sy' := sy' + 1) (n' := n') (v' := .slice p' F'.len c') hAd hBd lAB (by omega) hOd hOd' (fun y hy => by have := hSC y hy; omega) (fun y hy => by have := hSD y hy; omega) hbd
             rw [hU]
             exact bodyPost_ret (results_two rfl _ _ A B kd sy n _ kd' (sy' + 1) n' _ rfl rfl ⟨k1.row⟩ ⟨k2.row⟩) rfl ⟨kd, sy, n, p, c, F, S, kd', sy' + 1, n', p', c', F', S', rfl, ⟨k3.of_blocks (fun _ _ => rfl), hnd, hl3, hz⟩, ⟨k4.of_blocks (fun _ _ => rfl), hnd', hl3', hz'⟩, ⟨by omega, by omega, by omega, by omega, by omega, by omega⟩, ⟨by omega, by omega, by omega, by omega, by omega, by omega⟩, k5.drew⟩)
          | (obtain ⟨U, hU, k1, k2, k3, k4, k5⟩ := fin_ba (kd := kd) (sy := sy) (n := n) (v := .slice p F.len c) (kd' := kd') (sy' := sy' + 1) (n' := n') (v' := .slice p' F'.len c') hAd hBd lAB (by omega) hOd hOd' (fun y hy => by have := hSC y hy; omega) (fun y hy => by have := hSD y hy; omega) hbd
             rw [hU]
             exact bodyPost_ret (results_two rfl _ _ A B kd sy n _ kd' (sy' + 1) n' _ rfl rfl ⟨k1.row⟩ ⟨k2.row⟩) rfl ⟨kd, sy, n, p, c, F, S, kd', sy' + 1, n', p', c', F', S', rfl, ⟨k3.of_blocks (fun _ _ => rfl), hnd, hl3, hz⟩, ⟨k4.of_blocks (fun _ _ => rfl), hnd', hl3', hz'⟩, ⟨by omega, by omega, by omega, by omega, by omega, by omega⟩, ⟨by omega, by omega, by omega, by omega, by omega, by omega⟩, k5.drew⟩)
    · have hr' : (b0.tmod 2 == 1) = false := by simpa using hr
      obtain ⟨x0, x1, x2, x3⟩ := hC6.cells
      obtain ⟨y0, y1, y2, y3⟩ := hD6.cells
      obtain ⟨z0, z1, z2, z3⟩ := hA6.cells
      obtain ⟨t0, t1, t2, t3⟩ := hB6.cells
      have fA := fun i => hA6.free i
      have fB := fun i => hB6.free i
      go_wp2_with fail
      go_region
      all_goals go_wp2
      all_goals
        have hAd : PBox w6 A 0 0 0 (.slice none 0 0) := ⟨hA6.row⟩
        have hBd : PBox w6 B 0 0 0 (.slice none 0 0) := ⟨hB6.row⟩
        have hOd : OwnAt w6 p S F := hO6.of_blocks (fun _ _ => rfl)
        have hOd' : OwnAt w6 p' S' F' := hO6'.of_blocks (fun _ _ => rfl)
        have hbd := b06
        first
          | (obtain ⟨U, hU, k1, k2, k3, k4, k5⟩ := fin_ab (kd := kd) (sy := sy) (n := n) (v := .slice p F.len c) (kd' := kd') (sy' := sy') (n' := n') (v' := .slice p' F'.len c') hAd hBd lAB (by omega) hOd hOd' (fun y hy => by have := hSC y hy; omega) (fun y hy => by have := hSD y hy; omega) hbd
             rw [hU]
             exact bodyPost_ret (results_two rfl _ _ A B kd sy n _ kd' (sy') n' _ rfl rfl ⟨k1.row⟩ ⟨k2.row⟩) rfl ⟨kd, sy, n, p, c, F, S, kd', sy', n', p', c', F', S', rfl, ⟨k3.of_blocks (fun _ _ => rfl), hnd, hl3, hz⟩, ⟨k4.of_blocks (fun _ _ => rfl), hnd', hl3', hz'⟩, ⟨by omega, by omega, by omega, by omega, by omega, by omega⟩, ⟨by omega, by omega, by omega, by omega, by omega, by omega⟩, k5.drew⟩)
          | (obtain ⟨U, hU, k1, k2, k3, k4, k5⟩ := fin_ba (kd := kd) (sy := sy) (n := n) (v := .slice p F.len c) (kd' := kd') (sy' := sy') (n' := n') (v' := .slice p' F'.len c') hAd hBd lAB (by omega) hOd hOd' (fun y hy => by have := hSC y hy; omega) (fun y hy => by have := hSD y hy; omega) hbd
             rw [hU]
             exact bodyPost_ret (results_two rfl _ _ A B kd sy n _ kd' (sy') n' _ rfl rfl ⟨k1.row⟩ ⟨k2.row⟩) rfl ⟨kd, sy, n, p, c, F, S, kd', sy', n', p', c', F', S', rfl, ⟨k3.of_blocks (fun _ _ => rfl), hnd, hl3, hz⟩, ⟨k4.of_blocks (fun _ _ => rfl), hnd', hl3', hz'⟩, ⟨by omega, by omega, by omega, by omega, by omega, by omega⟩, ⟨by omega, by omega, by omega, by omega, by omega, by omega⟩, k5.drew⟩)
end Go.Proofs.YtpokhhplgljmiaaDoor
