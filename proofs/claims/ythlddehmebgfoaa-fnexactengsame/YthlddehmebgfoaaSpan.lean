/- What waits, two lists of places: the laws' helpers, both SpanOk. -/
import Derived.Test.YthlddehmebgfoaaTwo
namespace Go.Proofs.Ythlddehmebgfoaa
open Go.ChangeShapes Go.WideShapes Go.ChangeAt Go.RowKit Go.Deep
set_option linter.unusedVariables false
set_option maxRecDepth 4000

section
variable {H : Type} {enc : TypeId × Value → H} {W : World}
theorem open_span {base : Nat} {v0 : Value} {d0 : DataW H} {p0 : List MemPlace} (hv : Value.okWide Try.prog W .any base 125 v0) (h0 : DataW.Trod enc Try.prog W 0 (fun _ => true) true 125 v0 d0 p0) :
    ∃ (a : Option Addr) (cap : Nat) (l : List Occ) (a' : Option Addr) (cap' : Nat) (l' : List Occ), v0 = .agg #[.slice a l.length cap, .slice a' l'.length cap'] ∧ Occs W a l ∧ (∀ o ∈ l, o.Wf) ∧ Occs W a' l' ∧ ∀ o ∈ l', o.Wf := by
  have k3 : Try.prog.cellsOf 125 = 2 := by kernel_rfl
  obtain ⟨cs, rfl, hsz⟩ := okWide_struct Try.underlying125 hv
  rw [k3] at hsz
  obtain ⟨c0, c1, rfl⟩ := Go.Joins.array2 hsz
  obtain ⟨fuel, hf⟩ := h0
  obtain ⟨y0, y1, m, _, _, t0, t1⟩ := trod_struct2 Try.underlying125 hf
  have ks : Try.prog.cellsOf 121 = 1 := by kernel_rfl
  obtain ⟨a, cap, l, e0, hl, hw⟩ := open_occs_trod t0
  obtain ⟨a', cap', l', e1, hl', hw'⟩ := open_occs_trod t1
  simp [ks, Value.cells] at e0 e1
  exact ⟨a, cap, l, a', cap', l', by rw [e0, e1], hl, hw, hl', hw'⟩
end

def spanSize (l l' : List Occ) : Nat := occsSize l + occsSize l'

set_option maxHeartbeats 400000 in
theorem szSpan_any (a a' : Option Addr) (cap cap' : Nat) (l l' : List Occ) (left : Int) (w : World) (h : Occs w a l) (h' : Occs w a' l') (h0 : 0 ≤ left) (h1 : left ≤ 1048576) :
    Calls Try.prog 87 #[.agg #[.slice a l.length cap, .slice a' l'.length cap'], .int .i64 left] w fun e w' => e = .returned (.int .i64 (szDown left (spanSize l l'))) ∧ Below w.heap.size w w' := by
  have hA0 := box2_new w (.slice a l.length cap) (.slice a' l'.length cap') 125
  have b0 := oBelow_new w (.cells #[.slice a l.length cap, .slice a' l'.length cap'] 125)
  obtain ⟨w0, hw0⟩ : ∃ w0, w.alloc (.cells #[.slice a l.length cap, .slice a' l'.length cap'] 125) = w0 := ⟨_, rfl⟩
  rw [hw0] at hA0 b0
  obtain ⟨p0, p1⟩ := hA0.cells
  by_cases hl : left - occsSize l < 0
  · have hz : szDown left (spanSize l l') = -1 := if_pos (by unfold spanSize; omega)
    have hz1 : szDown left (occsSize l) = -1 := if_pos hl
    rw [hz]
    go_enter Try.func87, Try.ntmps87
    go_wp2_with fail
    refine (szOccS_any _ _ l _ _ (h.below b0) h0 h1).mono ?_
    rintro e w1 ⟨rfl, hb1⟩
    rw [hz1]
    go_wp2
    go_ret
    exact ⟨rfl, b0.trans (hb1.mono b0.size)⟩
  · have hz1 : szDown left (occsSize l) = left - occsSize l := if_neg hl
    have hge : ¬ (left - (occsSize l : Int) < 0) := hl
    by_cases hl' : left - occsSize l - occsSize l' < 0
    · have hz : szDown left (spanSize l l') = -1 := if_pos (by unfold spanSize; omega)
      have hz2 : szDown (left - occsSize l) (occsSize l') = -1 := if_pos hl'
      rw [hz]
      go_enter Try.func87, Try.ntmps87
      go_wp2_with fail
      refine (szOccS_any _ _ l _ _ (h.below b0) h0 h1).mono ?_
      rintro e w1 ⟨rfl, hb1⟩
      rw [hz1]
      have b1 := b0.trans (hb1.mono b0.size)
      clear p0 p1
      obtain ⟨p0, p1⟩ := (hA0.below hb1).cells
      go_wp2_with fail
      refine (szOccS_any _ _ l' _ _ (h'.below b1) (by omega) (by omega)).mono ?_
      rintro e w2 ⟨rfl, hb2⟩
      rw [hz2]
      go_wp2
      go_ret
      exact ⟨rfl, b1.trans (hb2.mono b1.size)⟩
    · have hz : szDown left (spanSize l l') = left - occsSize l - occsSize l' := by
        unfold szDown spanSize
        rw [if_neg (by omega)]; omega
      have hz2 : szDown (left - occsSize l) (occsSize l') = left - occsSize l - occsSize l' := if_neg hl'
      have hge' : ¬ (left - (occsSize l : Int) - (occsSize l' : Int) < 0) := hl'
      rw [hz]
      clear hz
      go_enter Try.func87, Try.ntmps87
      go_wp2_with fail
      refine (szOccS_any _ _ l _ _ (h.below b0) h0 h1).mono ?_
      rintro e w1 ⟨rfl, hb1⟩
      rw [hz1]
      have b1 := b0.trans (hb1.mono b0.size)
      clear p0 p1
      obtain ⟨p0, p1⟩ := (hA0.below hb1).cells
      go_wp2_with fail
      refine (szOccS_any _ _ l' _ _ (h'.below b1) (by omega) (by omega)).mono ?_
      rintro e w2 ⟨rfl, hb2⟩
      rw [hz2]
      go_wp2
      go_ret
      exact ⟨rfl, b1.trans (hb2.mono b1.size)⟩

set_option maxHeartbeats 1000000 in
theorem toSpan_any (a a' : Option Addr) (cap cap' : Nat) (l l' : List Occ) (w : World) (h : Occs w a l) (h' : Occs w a' l') (hn : occsSize l ≤ 1048576) (hn' : occsSize l' ≤ 1048576) :
    Calls Try.prog 90 #[.agg #[.slice a l.length cap, .slice a' l'.length cap']] w (CopyP w l l') := by
  have hA0 := box2_new w (.slice a l.length cap) (.slice a' l'.length cap') 125
  have b00 := oBelow_new w (.cells #[.slice a l.length cap, .slice a' l'.length cap'] 125)
  have hs00 : (w.alloc (.cells #[.slice a l.length cap, .slice a' l'.length cap'] 125)).heap.size = w.heap.size + 1 := by simp
  obtain ⟨w0, hw0⟩ : ∃ w0, w.alloc (.cells #[.slice a l.length cap, .slice a' l'.length cap'] 125) = w0 := ⟨_, rfl⟩
  rw [hw0] at hA0 b00 hs00
  have hR1 : (w0.alloc (.cells #[.slice none 0 0, .slice none 0 0] 93)).heap[w0.heap.size]? = some (.cells #[.slice none 0 0, .slice none 0 0] 93 (0, 0)) := heap_alloc_new _ _
  have b01 := oBelow_new w0 (.cells #[.slice none 0 0, .slice none 0 0] 93)
  have hs01 : (w0.alloc (.cells #[.slice none 0 0, .slice none 0 0] 93)).heap.size = w0.heap.size + 1 := by simp
  obtain ⟨v1, hv1⟩ : ∃ v1, w0.alloc (.cells #[.slice none 0 0, .slice none 0 0] 93) = v1 := ⟨_, rfl⟩
  rw [hv1] at hR1 b01 hs01
  have hB1 : (v1.alloc (.cells #[.slice none 0 0, .slice none 0 0] 93)).heap[v1.heap.size]? = some (.cells #[.slice none 0 0, .slice none 0 0] 93 (0, 0)) := heap_alloc_new _ _
  have b02 := oBelow_new v1 (.cells #[.slice none 0 0, .slice none 0 0] 93)
  have hs02 : (v1.alloc (.cells #[.slice none 0 0, .slice none 0 0] 93)).heap.size = v1.heap.size + 1 := by simp
  obtain ⟨w1, hw1⟩ : ∃ w1, v1.alloc (.cells #[.slice none 0 0, .slice none 0 0] 93) = w1 := ⟨_, rfl⟩
  rw [hw1] at hB1 b02 hs02
  have b1 := (b00.trans (b01.mono b00.size)).trans (b02.mono (by omega))
  have hR1' := (b02.block _ (by omega)).trans hR1
  have hA1 := (hA0.below b01).below b02
  have e1 : v1.heap.size = w.heap.size + 1 + 1 := by omega
  rw [e1] at hB1
  rw [hs00] at hR1'
  obtain ⟨p0, p1⟩ := hA1.cells
  go_enter Try.func90, Try.ntmps90
  go_wp2_with fail
  refine (toOccS_any _ _ l _ (h.below b1) hn).mono ?_
  rintro e w2 ⟨L2, rfl, hL2, hr2, hb2⟩
  have e2 : w1.heap.size = w.heap.size + 1 + 1 + 1 := by omega
  rw [e2] at hr2
  have b2 := b1.trans (hb2.mono b1.size)
  clear p0 p1
  have hR2 : w2.heap[w.heap.size + 1]? = _ := (hb2.block _ (by omega)).trans hR1'
  have hB2 : w2.heap[w.heap.size + 1 + 1]? = some (.cells #[.slice none 0 0, .slice none 0 0] 93 (0, 0)) := (hb2.block _ (by omega)).trans hB1
  have c20 := oCell hB2 0
  have c21 := oCell hB2 1
  have f2 : ∀ o, w2.frozen? ⟨w.heap.size + 1 + 1, o, none⟩ = false := fun o => by simp [World.frozen?, hB2]
  obtain ⟨w3, hw3⟩ : ∃ w3, w2.setCell ⟨w.heap.size + 1 + 1, 0, none⟩ (.slice (some ⟨w.heap.size + 1 + 1 + 1, 0, none⟩) l.length l.length) = w3 := ⟨_, rfl⟩
  have hB3 : w3.heap[w.heap.size + 1 + 1]? = some (.cells #[.slice (some ⟨w.heap.size + 1 + 1 + 1, 0, none⟩) l.length l.length, .slice none 0 0] 93 (0, 0)) := by
    rw [← hw3]; exact heap_setCell_same _ _ _ _ _ _ hB2
  have hs3 : w3.heap.size = w2.heap.size := by rw [← hw3]; simp
  have ho3 : ∀ x, x ≠ w.heap.size + 1 + 1 → w3.heap[x]? = w2.heap[x]? := fun x hx => by rw [← hw3]; exact Below.heap_setCell _ _ _ _ (fun e => hx e)
  have b3 : Below w.heap.size w w3 := by rw [← hw3]; exact b2.setCell (by show _ ≤ w.heap.size + 1 + 1; omega) _
  have hs2 := hb2.size
  have hR3 := (ho3 (w.heap.size + 1) (by omega)).trans hR2
  have hA3 : Box2 w3 w.heap.size (.slice a l.length cap) (.slice a' l'.length cap') := by
    obtain ⟨t, f, hx⟩ := hA1.below hb2
    exact ⟨t, f, (ho3 _ (by omega)).trans hx⟩
  have hr3 : OccRow w3 (w.heap.size + 1 + 1 + 1) (w.heap.size + 1 + 1 + 1) L2 := hr2.stay (ho3 _ (by omega)) (fun x hx hp => ho3 _ (by have := (hr2.inner_ne x hx hp).1; omega)) (by omega)
  obtain ⟨p0, p1⟩ := hA3.cells
  go_wp2_with fail
  refine (toOccS_any _ _ l' _ (h'.below b3) hn').mono ?_
  rintro e w4 ⟨L4, rfl, hL4, hr4, hb4⟩
  have b4 := b3.trans (hb4.mono b3.size)
  clear p0 p1
  have hs4 := hb4.size
  have hR4 := (hb4.block (w.heap.size + 1) (by omega)).trans hR3
  have hB4 : w4.heap[w.heap.size + 1 + 1]? = some (.cells #[.slice (some ⟨w.heap.size + 1 + 1 + 1, 0, none⟩) l.length l.length, .slice none 0 0] 93 (0, 0)) := (hb4.block _ (by omega)).trans hB3
  have d0 := oCell hB4 0
  have d1 := oCell hB4 1
  have r0 := oCell hR4 0
  have r1 := oCell hR4 1
  have f4 : ∀ o, w4.frozen? ⟨w.heap.size + 1 + 1, o, none⟩ = false := fun o => by simp [World.frozen?, hB4]
  have g4 : ∀ o, w4.frozen? ⟨w.heap.size + 1, o, none⟩ = false := fun o => by simp [World.frozen?, hR4]
  go_wp2
  obtain ⟨w5, hw5⟩ : ∃ w5, ((w4.setCell ⟨w.heap.size + 1 + 1, 1, none⟩ (.slice (some ⟨w3.heap.size, 0, none⟩) l'.length l'.length)).setCell ⟨w.heap.size + 1, 0, none⟩ (.slice (some ⟨w.heap.size + 1 + 1 + 1, 0, none⟩) l.length l.length)).setCell ⟨w.heap.size + 1, 1, none⟩ (.slice (some ⟨w3.heap.size, 0, none⟩) l'.length l'.length) = w5 := ⟨_, rfl⟩
  have ho5 : ∀ x, x ≠ w.heap.size + 1 + 1 → x ≠ w.heap.size + 1 → w5.heap[x]? = w4.heap[x]? := by
    intro x hx hy
    rw [← hw5, Below.heap_setCell _ _ _ _ (fun e => hy e), Below.heap_setCell _ _ _ _ (fun e => hy e), Below.heap_setCell _ _ _ _ (fun e => hx e)]
  have hs5 : w5.heap.size = w4.heap.size := by rw [← hw5]; simp
  have hf1 : OccRow w5 (w.heap.size + 1 + 1 + 1) (w.heap.size + 1 + 1 + 1) L2 := by
    refine (hr3.below hb4).stay (ho5 _ (by omega) (by omega)) (fun x hx hp => ?_) (by omega)
    have := (hr3.inner_ne x hx hp).1
    exact ho5 _ (by omega) (by omega)
  have hf2 : OccRow w5 w3.heap.size w3.heap.size L4 := by
    refine hr4.stay (ho5 _ (by omega) (by omega)) (fun x hx hp => ?_) (by omega)
    have := (hr4.inner_ne x hx hp).1
    exact ho5 _ (by omega) (by omega)
  have hf3 : Below w.heap.size w w5 := by
    rw [← hw5]
    exact ((b4.setCell (by show _ ≤ w.heap.size + 1 + 1; omega) _).setCell (by show _ ≤ w.heap.size + 1; omega) _).setCell (by show _ ≤ w.heap.size + 1; omega) _
  rw [← hs3, hw5]
  have x0 : w5.cell? ⟨w.heap.size + 1, 0, none⟩ = some (.slice (some ⟨w.heap.size + 1 + 1 + 1, 0, none⟩) l.length l.length) := by rw [← hw5]; simp [go_sem, r0]
  have x1 : w5.cell? ⟨w.heap.size + 1, 1, none⟩ = some (.slice (some ⟨w3.heap.size, 0, none⟩) l'.length l'.length) := by rw [← hw5]; simp [go_sem, r1]
  have hlow := hf1.low (B' := w.heap.size) (by omega)
  clear hw5
  refine bodyPost_ret (v := .agg #[.slice (some ⟨w.heap.size + 1 + 1 + 1, 0, none⟩) l.length l.length, .slice (some ⟨w3.heap.size, 0, none⟩) l'.length l'.length]) (by simp [results, Try.results90, go_sem, x0, x1]) rfl
    ⟨_, _, w3.heap.size, L2, L4, rfl, hL2, hL4, hlow, hr3.lt, hr3.inner, hf2, by omega, hf3⟩

def spanEqB (l l' m m' : List Occ) : Bool := occsEqB l m && occsEqB l' m'
theorem spanEqB_self (l l' : List Occ) : spanEqB l l' l l' = true := by simp [spanEqB, occsEqB_self]

set_option maxHeartbeats 1000000 in
theorem eqSpan_any (a a' c c' : Option Addr) (cap cap' cq cq' : Nat) (l l' m m' : List Occ) (w : World) (h : Occs w a l) (h' : Occs w a' l') (g : Occs w c m) (g' : Occs w c' m') :
    Calls Try.prog 93 #[.agg #[.slice a l.length cap, .slice a' l'.length cap'], .agg #[.slice c m.length cq, .slice c' m'.length cq']] w
      fun e w' => e = .returned (.bool (spanEqB l l' m m')) ∧ Below w.heap.size w w' := by
  have hA0 := box2_new w (.slice a l.length cap) (.slice a' l'.length cap') 93
  have b00 := oBelow_new w (.cells #[.slice a l.length cap, .slice a' l'.length cap'] 93)
  obtain ⟨w0, hw0⟩ : ∃ w0, w.alloc (.cells #[.slice a l.length cap, .slice a' l'.length cap'] 93) = w0 := ⟨_, rfl⟩
  rw [hw0] at hA0 b00
  have hC1 := box2_new w0 (.slice c m.length cq) (.slice c' m'.length cq') 93
  have b01 := oBelow_new w0 (.cells #[.slice c m.length cq, .slice c' m'.length cq'] 93)
  have hs00 : w0.heap.size = w.heap.size + 1 := by rw [← hw0]; simp
  obtain ⟨w1, hw1⟩ : ∃ w1, w0.alloc (.cells #[.slice c m.length cq, .slice c' m'.length cq'] 93) = w1 := ⟨_, rfl⟩
  rw [hw1] at hC1 b01
  have hA1 := hA0.below b01
  have b1 := b00.trans (b01.mono b00.size)
  obtain ⟨p0, p1⟩ := hA1.cells
  obtain ⟨q0, q1⟩ := hC1.cells
  rw [hs00] at q0 q1
  cases h1 : occsEqB l m
  · have hx : spanEqB l l' m m' = false := by simp [spanEqB, h1]
    rw [hx]
    go_enter Try.func93, Try.ntmps93
    go_wp2_with fail
    refine (eqOccS_any _ _ _ _ l m _ (h.below b1) (g.below b1)).mono ?_
    rintro e w2 ⟨rfl, hb2⟩
    rw [h1]
    go_wp2
    go_ret
    exact ⟨rfl, b1.trans (hb2.mono b1.size)⟩
  · have hx : Hid (spanEqB l l' m m' = occsEqB l' m') := by show _ = _; simp [spanEqB, h1]
    go_enter Try.func93, Try.ntmps93
    go_wp2_with fail
    refine (eqOccS_any _ _ _ _ l m _ (h.below b1) (g.below b1)).mono ?_
    rintro e w2 ⟨rfl, hb2⟩
    rw [h1]
    have b2 := b1.trans (hb2.mono b1.size)
    clear p0 p1 q0 q1
    obtain ⟨p0, p1⟩ := (hA1.below hb2).cells
    obtain ⟨q0, q1⟩ := (hC1.below hb2).cells
    rw [hs00] at q0 q1
    go_wp2_with fail
    refine (eqOccS_any _ _ _ _ l' m' _ (h'.below b2) (g'.below b2)).mono ?_
    rintro e w3 ⟨rfl, hb3⟩
    have b3 := b2.trans (hb3.mono b2.size)
    cases h2 : occsEqB l' m'
    all_goals
      go_wp2
      go_ret
      exact ⟨ret_bool (by rw [hx.out, h2]), b3⟩

def spanOkB (l l' : List Occ) : Bool := occsOkB l && occsOkB l'

end Go.Proofs.Ythlddehmebgfoaa
