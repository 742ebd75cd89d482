/- Rules of the laws' draws: one, and a list. -/
import Derived.Test.YtohijenlcfkliaaDoorRuD2
namespace Go.Proofs.YtohijenlcfkliaaDoor
open Go.ChangeShapes Go.WideShapes Go.ChangeAt Go.RowKit Go.Deep
set_option linter.unusedVariables false
set_option maxRecDepth 4000

theorem rd_below {w w1 w2 : World} {B R : Nat} (hb : Below B w w1) (hg : w1.grownBy w2 (some R)) (hR : B ≤ R) (hs : B ≤ w1.heap.size) : Below B w w2 :=
  ⟨hg.1.trans hb.os, hg.2.trans hb.tape, hg.3.trans hb.output, Nat.le_trans hb.size hg.4, fun b hl => (hg.5 b (by omega) (fun e => by have := Option.some.inj e; omega)).trans (hb.block b hl)⟩
theorem rbox_put {w : World} {A : Nat} {cs : Array Value} (h : RBox w A cs) (hs : cs.size = 12) (x : Ru) (a : Option Addr) (c : Nat) : RBox (((((((((((((w.setCell ⟨A, 0, none⟩ (.string x.nm)).setCell ⟨A, 1, none⟩ (.int .i64 x.pri)).setCell ⟨A, 2, none⟩ (.int .i64 x.mode)).setCell ⟨A, 3, none⟩ (.int .i64 x.kd)).setCell ⟨A, 4, none⟩ (.int .i64 x.sy)).setCell ⟨A, 5, none⟩ (.int .i64 x.n)).setCell ⟨A, 6, none⟩ (.slice a x.ks.len c)).setCell ⟨A, 7, none⟩ (.int .i64 x.lo)).setCell ⟨A, 8, none⟩ (.int .i64 x.hi)).setCell ⟨A, 9, none⟩ (.int .i64 x.key)).setCell ⟨A, 10, none⟩ (.int .i64 x.add)).setCell ⟨A, 11, none⟩ (.int .i64 x.ra))) A (ruC x a c) := by
  obtain ⟨cl⟩ := cs
  match cl, hs with
  | [c0, c1, c2, c3, c4, c5, c6, c7, c8, c9, c10, c11], _ =>
    have k0 := heap_setCell_same _ _ 0 _ _ (.string x.nm) h
    have k1 := heap_setCell_same _ _ 1 _ _ (.int .i64 x.pri) k0
    have k2 := heap_setCell_same _ _ 2 _ _ (.int .i64 x.mode) k1
    have k3 := heap_setCell_same _ _ 3 _ _ (.int .i64 x.kd) k2
    have k4 := heap_setCell_same _ _ 4 _ _ (.int .i64 x.sy) k3
    have k5 := heap_setCell_same _ _ 5 _ _ (.int .i64 x.n) k4
    have k6 := heap_setCell_same _ _ 6 _ _ (.slice a x.ks.len c) k5
    have k7 := heap_setCell_same _ _ 7 _ _ (.int .i64 x.lo) k6
    have k8 := heap_setCell_same _ _ 8 _ _ (.int .i64 x.hi) k7
    have k9 := heap_setCell_same _ _ 9 _ _ (.int .i64 x.key) k8
    have k10 := heap_setCell_same _ _ 10 _ _ (.int .i64 x.add) k9
    have k11 := heap_setCell_same _ _ 11 _ _ (.int .i64 x.ra) k10
    refine k11.trans ?_
    simp only [ruC, List.setIfInBounds_toArray, List.set_cons_zero, List.set_cons_succ]
theorem rbox_oth {w : World} {A : Nat} (x : Ru) (a : Option Addr) (c : Nat) : ∀ b, b ≠ A → (((((((((((((w.setCell ⟨A, 0, none⟩ (.string x.nm)).setCell ⟨A, 1, none⟩ (.int .i64 x.pri)).setCell ⟨A, 2, none⟩ (.int .i64 x.mode)).setCell ⟨A, 3, none⟩ (.int .i64 x.kd)).setCell ⟨A, 4, none⟩ (.int .i64 x.sy)).setCell ⟨A, 5, none⟩ (.int .i64 x.n)).setCell ⟨A, 6, none⟩ (.slice a x.ks.len c)).setCell ⟨A, 7, none⟩ (.int .i64 x.lo)).setCell ⟨A, 8, none⟩ (.int .i64 x.hi)).setCell ⟨A, 9, none⟩ (.int .i64 x.key)).setCell ⟨A, 10, none⟩ (.int .i64 x.add)).setCell ⟨A, 11, none⟩ (.int .i64 x.ra))).heap[b]? = w.heap[b]? := by
  intro b hb
  rw [Below.heap_setCell _ _ _ _ hb, Below.heap_setCell _ _ _ _ hb, Below.heap_setCell _ _ _ _ hb, Below.heap_setCell _ _ _ _ hb, Below.heap_setCell _ _ _ _ hb, Below.heap_setCell _ _ _ _ hb, Below.heap_setCell _ _ _ _ hb, Below.heap_setCell _ _ _ _ hb, Below.heap_setCell _ _ _ _ hb, Below.heap_setCell _ _ _ _ hb, Below.heap_setCell _ _ _ _ hb, Below.heap_setCell _ _ _ _ hb]
theorem rbox_below {w w' : World} {A : Nat} (h : Below A w w') (x : Ru) (a : Option Addr) (c : Nat) : Below A w (((((((((((((w'.setCell ⟨A, 0, none⟩ (.string x.nm)).setCell ⟨A, 1, none⟩ (.int .i64 x.pri)).setCell ⟨A, 2, none⟩ (.int .i64 x.mode)).setCell ⟨A, 3, none⟩ (.int .i64 x.kd)).setCell ⟨A, 4, none⟩ (.int .i64 x.sy)).setCell ⟨A, 5, none⟩ (.int .i64 x.n)).setCell ⟨A, 6, none⟩ (.slice a x.ks.len c)).setCell ⟨A, 7, none⟩ (.int .i64 x.lo)).setCell ⟨A, 8, none⟩ (.int .i64 x.hi)).setCell ⟨A, 9, none⟩ (.int .i64 x.key)).setCell ⟨A, 10, none⟩ (.int .i64 x.add)).setCell ⟨A, 11, none⟩ (.int .i64 x.ra))) :=
  ((((((((((((h.setCell (p := ⟨A, 0, none⟩) (Nat.le_refl _) (.string x.nm)).setCell (p := ⟨A, 1, none⟩) (Nat.le_refl _) (.int .i64 x.pri)).setCell (p := ⟨A, 2, none⟩) (Nat.le_refl _) (.int .i64 x.mode)).setCell (p := ⟨A, 3, none⟩) (Nat.le_refl _) (.int .i64 x.kd)).setCell (p := ⟨A, 4, none⟩) (Nat.le_refl _) (.int .i64 x.sy)).setCell (p := ⟨A, 5, none⟩) (Nat.le_refl _) (.int .i64 x.n)).setCell (p := ⟨A, 6, none⟩) (Nat.le_refl _) (.slice a x.ks.len c)).setCell (p := ⟨A, 7, none⟩) (Nat.le_refl _) (.int .i64 x.lo)).setCell (p := ⟨A, 8, none⟩) (Nat.le_refl _) (.int .i64 x.hi)).setCell (p := ⟨A, 9, none⟩) (Nat.le_refl _) (.int .i64 x.key)).setCell (p := ⟨A, 10, none⟩) (Nat.le_refl _) (.int .i64 x.add)).setCell (p := ⟨A, 11, none⟩) (Nat.le_refl _) (.int .i64 x.ra))

set_option maxHeartbeats 4000000 in
theorem drawRuleOk_any (a : Option Addr) (cap : Nat) (l : List Int) (w : World) (h : Bytes w a l) (hc : l.length ≤ cap) :
    Calls Tryd.prog 13 #[.slice a l.length cap] w fun e w' => ∃ (x : Ru) (b : Option Addr) (c : Nat), e = .returned (ruV x b c) ∧ RuIn w' b x ∧ RuBnd x ∧ Below w.heap.size w w' := by
  have hb0 := xBelow_new w (.cells zRule 36)
  have h00 : RBox (w.alloc (.cells zRule 36)) w.heap.size zRule := heap_alloc_new _ _
  unfold zRule at hb0 h00
  obtain ⟨w0, hw0⟩ : ∃ w0, w.alloc (.cells #[.string { data := #[] }, .int .i64 0, .int .i64 0, .int .i64 0, .int .i64 0, .int .i64 0, .slice none 0 0, .int .i64 0, .int .i64 0, .int .i64 0, .int .i64 0, .int .i64 0] 36) = w0 := ⟨_, rfl⟩
  rw [hw0] at hb0 h00
  have hs0 : w.heap.size < w0.heap.size := (Array.getElem?_eq_some_iff.1 h00).1
  go_enter Tryd.func13, Tryd.ntmps13
  go_wp2_with fail
  refine (l14Open_any _ _ l _ (h.below hb0) hc).mono ?_
  rintro e w1 ⟨rfl, hR1, hb1, hs1⟩
  have h01 : RBox w1 w.heap.size _ := (hb1.block _ hs0).trans h00
  have b01 := hb0.trans (hb1.mono hb0.size)
  clear hw0 h00 hb0
  obtain ⟨R, hRe⟩ : ∃ R, w0.heap.size = R := ⟨_, rfl⟩
  rw [hRe] at hR1 hs0 hs1 hb1 ⊢
  have hR1l := hR1.lt
  go_wp2_with fail
  refine (l8Bent_any R 0 _ hR1 (by omega)).mono ?_
  rintro e w2 ⟨v, q, p2, rfl, hR2, hp0, hp2, hg2, hO2, hq4, hB⟩
  obtain ⟨va, vc, rfl, hvc, hvm⟩ := hO2.slice
  unfold maxLen at hvm
  have h02 : RBox w2 w.heap.size _ := (hg2.5 _ (by omega) (fun e => by have := Option.some.inj e; omega)).trans h01
  have b02 := rd_below b01 hg2 (by omega) b01.size
  by_cases h0 : q.length = 0
  · have h0b : ((q.length : Int) == 0) = true := by simp [h0]
    clear hvc
    go_wp2_with fail
    refine (l8Rule_any R p2 _ hR2 (by omega) _).mono ?_
    rintro e w3 ⟨x, xa, xc, S, p3, rfl, hnm, hR3, _, _, hg3, hOx, _, hSx, hl3, hz3, _⟩
    have h03 : RBox w3 w.heap.size _ := (hg3.5 _ (by have := hg2.4; omega) (fun e => by have := Option.some.inj e; omega)).trans h02
    have b03 := rd_below b02 hg3 (by omega) b02.size
    have hxn : x.nm.size ≤ 7 := by rw [hnm]; decide
    clear hnm
    have x0 := xCell h03 0
    have x1 := xCell h03 1
    have x2 := xCell h03 2
    have x3 := xCell h03 3
    have x4 := xCell h03 4
    have x5 := xCell h03 5
    have x6 := xCell h03 6
    have x7 := xCell h03 7
    have x8 := xCell h03 8
    have x9 := xCell h03 9
    have x10 := xCell h03 10
    have x11 := xCell h03 11
    have ff : ∀ o, w3.frozen? ⟨w.heap.size, o, none⟩ = false := fun o => by simp [World.frozen?, show w3.heap[w.heap.size]? = _ from h03]
    unfold ruV ruC
    go_wp2
    refine bodyPost_ret (results_rule rfl _ _ w.heap.size x xa xc rfl (rbox_put h03 rfl x xa xc)) rfl ⟨x, xa, xc, rfl, ⟨(hOx.of_blocks (fun y hy => rbox_oth x xa xc y (by have := (hSx y hy).1; have := hg2.4; omega))).slc (by unfold maxLen; omega), by unfold maxLen; omega⟩, ⟨by omega, hxn⟩, rbox_below b03 x xa xc⟩
  · have hz : ((q.length : Int) == 0) = false := by simpa using h0
    have hq0 : 0 < q.length := by omega
    obtain ⟨g, hg, hgl, ht⟩ := hO2.at hq0
    obtain ⟨k1, k2, T, hT, hTb⟩ := hO2.kids _ (List.getElem_mem hq0)
    have hB0 := hB _ (List.getElem_mem hq0)
    subst hg
    obtain ⟨n, hn⟩ : ∃ n, q.length = n := ⟨_, rfl⟩
    have hn0 : 0 < n := by omega
    generalize q[0] = y at ht k1 k2 hT hB0
    rw [hn] at hz hvc ⊢
    clear hn h0 hq0 hq4
    obtain ⟨q0, q1, q2, q3, q4, q5, q6, q7, q8, q9, q10, q11⟩ := ht
    simp only [Nat.zero_mul, Nat.zero_add] at q0 q1 q2 q3 q4 q5 q6 q7 q8 q9 q10 q11
    obtain ⟨x, a', c'⟩ := y
    simp only at q0 q1 q2 q3 q4 q5 q6 q7 q8 q9 q10 q11 k1 k2 hT hB0
    have x0 := xCell h02 0
    have x1 := xCell h02 1
    have x2 := xCell h02 2
    have x3 := xCell h02 3
    have x4 := xCell h02 4
    have x5 := xCell h02 5
    have x6 := xCell h02 6
    have x7 := xCell h02 7
    have x8 := xCell h02 8
    have x9 := xCell h02 9
    have x10 := xCell h02 10
    have x11 := xCell h02 11
    have ff : ∀ o, w2.frozen? ⟨w.heap.size, o, none⟩ = false := fun o => by simp [World.frozen?, show w2.heap[w.heap.size]? = _ from h02]
    go_wp2
    refine bodyPost_ret (results_rule rfl _ _ w.heap.size x a' c' rfl (rbox_put h02 rfl x a' c')) rfl ⟨x, a', c', rfl, ⟨(hT.of_blocks (fun b hb => rbox_oth x a' c' b (by have := (hTb b hb).1; omega))).slc k1, k2⟩, hB0, rbox_below b02 x a' c'⟩

set_option maxHeartbeats 1000000 in
theorem drawRulesOk_any (a : Option Addr) (cap : Nat) (l : List Int) (w : World) (h : Bytes w a l) (hc : l.length ≤ cap) :
    Calls Tryd.prog 14 #[.slice a l.length cap] w fun e w' => ∃ (v : Value) (q : List RH), e = .returned v ∧ RuOwn w' w.heap.size v q ∧ q.length ≤ 4 ∧ (∀ y ∈ q, RuBnd y.x) ∧ Below w.heap.size w w' := by
  go_enter Tryd.func14, Tryd.ntmps14
  go_wp2_with fail
  refine (l14Open_any _ _ l _ h hc).mono ?_
  rintro e w1 ⟨rfl, hR1, hb1, hs1⟩
  go_wp2_with fail
  refine (l8Bent_any _ 0 _ hR1 (by omega)).mono ?_
  rintro e w2 ⟨v, q, p2, rfl, hR2, hp0, hp2, hg2, hO2, hq4, hB⟩
  go_wp2
  go_ret
  exact ⟨v, q, rfl, hO2.low (by omega), hq4, hB, rd_below hb1 hg2 (Nat.le_refl _) hb1.size⟩

/-- A rule that is not ok has no line. -/
theorem ruleLine_bad (x : Ru) (a : Option Addr) (c : Nat) (w : World) (t : TypeId) (v : Value) (hE : ErrAt w t v) (h : RuIn w a x) (hx : ruOkB x = false) :
    Calls Tryd.prog 17 #[ruV x a c] w fun e w' => e = .returned (.string { data := #[] }) ∧ Below w.heap.size w w' := by
  have b0 := xBelow_new w (.cells (ruC x a c) 36)
  have hA0 := bx_new w (ruC x a c) 36
  obtain ⟨w0, hw0⟩ : ∃ w0, w.alloc (.cells (ruC x a c) 36) = w0 := ⟨_, rfl⟩
  rw [hw0] at b0 hA0
  have hi := h.below b0
  have hE0 := hE.below b0
  obtain ⟨q0, q1, q2, q3, q4, q5, q6, q7, q8, q9, q10, q11⟩ := hA0.twelve
  simp only [Nat.zero_add] at q0 q1 q2 q3 q4 q5 q6 q7 q8 q9 q10 q11
  unfold ruV
  unfold ruC at hw0 ⊢
  go_enter Tryd.func17, Tryd.ntmps17
  go_wp2_with fail
  refine (implRuleOk_any x a c _ t v hE0 hi).mono ?_
  rintro e w1 ⟨rfl, hb1⟩
  rw [hx]
  go_wp2
  go_ret
  exact ⟨rfl, b0.trans (hb1.mono b0.size)⟩
end Go.Proofs.YtohijenlcfkliaaDoor
