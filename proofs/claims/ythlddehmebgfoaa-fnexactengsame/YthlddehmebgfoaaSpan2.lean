/- What waits: both PairSame. -/
/- What waits: both SpanSame. -/
import Derived.Test.YthlddehmebgfoaaPair
import Derived.Test.YthlddehmebgfoaaOccs3
import Derived.Test.YthlddehmebgfoaaSpan
namespace Go.Proofs.Ythlddehmebgfoaa
open Go.ChangeShapes Go.WideShapes Go.ChangeAt Go.RowKit
set_option linter.unusedVariables false
set_option maxRecDepth 4000

set_option maxHeartbeats 1000000 in
theorem implPairSame_any (a a' c c' : Option Addr) (cap cap' cq cq' : Nat) (l l' m m' : List Occ) (w : World) (h : Occs w a l) (h' : Occs w a' l') (g : Occs w c m) (g' : Occs w c' m') :
    Calls Try.prog 67 #[.agg #[.slice a l.length cap, .slice a' l'.length cap'], .agg #[.slice c m.length cq, .slice c' m'.length cq']] w
      fun e w' => e = .returned (.bool (pairEqB l l' m m')) ∧ Below w.heap.size w w' := by
  have hA0 := box2_new w (.slice a l.length cap) (.slice a' l'.length cap') 91
  have b00 := oBelow_new w (.cells #[.slice a l.length cap, .slice a' l'.length cap'] 91)
  obtain ⟨w0, hw0⟩ : ∃ w0, w.alloc (.cells #[.slice a l.length cap, .slice a' l'.length cap'] 91) = w0 := ⟨_, rfl⟩
  rw [hw0] at hA0 b00
  have hC1 := box2_new w0 (.slice c m.length cq) (.slice c' m'.length cq') 91
  have b01 := oBelow_new w0 (.cells #[.slice c m.length cq, .slice c' m'.length cq'] 91)
  have hs00 : w0.heap.size = w.heap.size + 1 := by rw [← hw0]; simp
  obtain ⟨w1, hw1⟩ : ∃ w1, w0.alloc (.cells #[.slice c m.length cq, .slice c' m'.length cq'] 91) = w1 := ⟨_, rfl⟩
  rw [hw1] at hC1 b01
  have hA1 := hA0.below b01
  have b1 := b00.trans (b01.mono b00.size)
  obtain ⟨p0, p1⟩ := hA1.cells
  obtain ⟨q0, q1⟩ := hC1.cells
  rw [hs00] at q0 q1
  cases h1 : occsEqB l m
  · have hx : pairEqB l l' m m' = false := by simp [pairEqB, h1]
    rw [hx]
    go_enter Try.func67, Try.ntmps67
    go_wp2_with fail
    refine (implOccsSame_any _ _ _ _ l m _ (h.below b1) (g.below b1)).mono ?_
    rintro e w2 ⟨rfl, hb2⟩
    rw [h1]
    go_wp2
    go_ret
    exact ⟨rfl, b1.trans (hb2.mono b1.size)⟩
  · have hx : Hid (pairEqB l l' m m' = occsEqB l' m') := by show _ = _; simp [pairEqB, h1]
    go_enter Try.func67, Try.ntmps67
    go_wp2_with fail
    refine (implOccsSame_any _ _ _ _ l m _ (h.below b1) (g.below b1)).mono ?_
    rintro e w2 ⟨rfl, hb2⟩
    rw [h1]
    have b2 := b1.trans (hb2.mono b1.size)
    clear p0 p1 q0 q1
    obtain ⟨p0, p1⟩ := (hA1.below hb2).cells
    obtain ⟨q0, q1⟩ := (hC1.below hb2).cells
    rw [hs00] at q0 q1
    go_wp2_with fail
    refine (implOccsSame_any _ _ _ _ l' m' _ (h'.below b2) (g'.below b2)).mono ?_
    rintro e w3 ⟨rfl, hb3⟩
    have b3 := b2.trans (hb3.mono b2.size)
    go_wp2
    go_ret
    exact ⟨ret_bool (by rw [hx.out]), b3⟩

set_option maxHeartbeats 1000000 in
theorem specPairSame_any (a a' c c' : Option Addr) (cap cap' cq cq' : Nat) (l l' m m' : List Occ) (w : World) (h : Occs w a l) (h' : Occs w a' l') (g : Occs w c m) (g' : Occs w c' m') (hf : ∀ o ∈ l, o.Wf) (hf' : ∀ o ∈ l', o.Wf) (hg : ∀ o ∈ m, o.Wf) (hg' : ∀ o ∈ m', o.Wf) :
    Calls Try.prog 60 #[.agg #[.slice a l.length cap, .slice a' l'.length cap'], .agg #[.slice c m.length cq, .slice c' m'.length cq']] w
      fun e w' => e = .returned (.bool (pairEqB l l' m m')) ∧ Below w.heap.size w w' := by
  have hA0 := box2_new w (.slice a l.length cap) (.slice a' l'.length cap') 91
  have b00 := oBelow_new w (.cells #[.slice a l.length cap, .slice a' l'.length cap'] 91)
  obtain ⟨w0, hw0⟩ : ∃ w0, w.alloc (.cells #[.slice a l.length cap, .slice a' l'.length cap'] 91) = w0 := ⟨_, rfl⟩
  rw [hw0] at hA0 b00
  have hC1 := box2_new w0 (.slice c m.length cq) (.slice c' m'.length cq') 91
  have b01 := oBelow_new w0 (.cells #[.slice c m.length cq, .slice c' m'.length cq'] 91)
  have hs00 : w0.heap.size = w.heap.size + 1 := by rw [← hw0]; simp
  obtain ⟨w1, hw1⟩ : ∃ w1, w0.alloc (.cells #[.slice c m.length cq, .slice c' m'.length cq'] 91) = w1 := ⟨_, rfl⟩
  rw [hw1] at hC1 b01
  have hA1 := hA0.below b01
  have b1 := b00.trans (b01.mono b00.size)
  obtain ⟨p0, p1⟩ := hA1.cells
  obtain ⟨q0, q1⟩ := hC1.cells
  rw [hs00] at q0 q1
  cases h1 : occsEqB l m
  · have hx : pairEqB l l' m m' = false := by simp [pairEqB, h1]
    rw [hx]
    go_enter Try.func60, Try.ntmps60
    go_wp2_with fail
    refine (specOccsSame_any _ _ _ _ l m _ (h.below b1) (g.below b1) hf hg).mono ?_
    rintro e w2 ⟨rfl, hb2⟩
    rw [h1]
    go_wp2
    go_ret
    exact ⟨rfl, b1.trans (hb2.mono b1.size)⟩
  · have hx : Hid (pairEqB l l' m m' = occsEqB l' m') := by show _ = _; simp [pairEqB, h1]
    go_enter Try.func60, Try.ntmps60
    go_wp2_with fail
    refine (specOccsSame_any _ _ _ _ l m _ (h.below b1) (g.below b1) hf hg).mono ?_
    rintro e w2 ⟨rfl, hb2⟩
    rw [h1]
    have b2 := b1.trans (hb2.mono b1.size)
    clear p0 p1 q0 q1
    obtain ⟨p0, p1⟩ := (hA1.below hb2).cells
    obtain ⟨q0, q1⟩ := (hC1.below hb2).cells
    rw [hs00] at q0 q1
    go_wp2_with fail
    refine (specOccsSame_any _ _ _ _ l' m' _ (h'.below b2) (g'.below b2) hf' hg').mono ?_
    rintro e w3 ⟨rfl, hb3⟩
    have b3 := b2.trans (hb3.mono b2.size)
    go_wp2
    go_ret
    exact ⟨ret_bool (by rw [hx.out]), b3⟩
end Go.Proofs.Ythlddehmebgfoaa
namespace Go.Proofs.Ythlddehmebgfoaa
open Go.ChangeShapes Go.WideShapes Go.ChangeAt Go.RowKit
set_option linter.unusedVariables false
set_option maxRecDepth 4000

set_option maxHeartbeats 1000000 in
theorem implSpanSame_any (a a' c c' : Option Addr) (cap cap' cq cq' : Nat) (l l' m m' : List Occ) (w : World) (h : Occs w a l) (h' : Occs w a' l') (g : Occs w c m) (g' : Occs w c' m') :
    Calls Try.prog 68 #[.agg #[.slice a l.length cap, .slice a' l'.length cap'], .agg #[.slice c m.length cq, .slice c' m'.length cq']] w
      fun e w' => e = .returned (.bool (spanEqB l l' m m')) ∧ Below w.heap.size w w' := by
  have hA0 := box2_new w (.slice a l.length cap) (.slice a' l'.length cap') 93
  have b00 := oBelow_new w (.cells #[.slice a l.length cap, .slice a' l'.length cap'] 93)
  obtain ⟨w0, hw0⟩ : ∃ w0, w.alloc (.cells #[.slice a l.length cap, .slice a' l'.length cap'] 93) = w0 := ⟨_, rfl⟩
  rw [hw0] at hA0 b00
  have hC1 := box2_new w0 (.slice c m.length cq) (.slice c' m'.length cq') 93
  have b01 := oBelow_new w0 (.cells #[.slice c m.length cq, .slice c' m'.length cq'] 93)
  have hs00 : w0.heap.size = w.heap.size + 1 := by rw [← hw0]; simp
  obtain ⟨w1, hw1⟩ : ∃ w1, w0.alloc (.cells #[.slice c m.length cq, .slice c' m'.length cq'] 93) = w1 := ⟨_, rfl⟩
  rw [hw1] at hC1 b01
  have hA1 := hA0.below b01
  have b1 := b00.trans (b01.mono b00.size)
  obtain ⟨p0, p1⟩ := hA1.cells
  obtain ⟨q0, q1⟩ := hC1.cells
  rw [hs00] at q0 q1
  cases h1 : occsEqB l m
  · have hx : spanEqB l l' m m' = false := by simp [spanEqB, h1]
    rw [hx]
    go_enter Try.func68, Try.ntmps68
    go_wp2_with fail
    refine (implOccsSame_any _ _ _ _ l m _ (h.below b1) (g.below b1)).mono ?_
    rintro e w2 ⟨rfl, hb2⟩
    rw [h1]
    go_wp2
    go_ret
    exact ⟨rfl, b1.trans (hb2.mono b1.size)⟩
  · have hx : Hid (spanEqB l l' m m' = occsEqB l' m') := by show _ = _; simp [spanEqB, h1]
    go_enter Try.func68, Try.ntmps68
    go_wp2_with fail
    refine (implOccsSame_any _ _ _ _ l m _ (h.below b1) (g.below b1)).mono ?_
    rintro e w2 ⟨rfl, hb2⟩
    rw [h1]
    have b2 := b1.trans (hb2.mono b1.size)
    clear p0 p1 q0 q1
    obtain ⟨p0, p1⟩ := (hA1.below hb2).cells
    obtain ⟨q0, q1⟩ := (hC1.below hb2).cells
    rw [hs00] at q0 q1
    go_wp2_with fail
    refine (implOccsSame_any _ _ _ _ l' m' _ (h'.below b2) (g'.below b2)).mono ?_
    rintro e w3 ⟨rfl, hb3⟩
    have b3 := b2.trans (hb3.mono b2.size)
    go_wp2
    go_ret
    exact ⟨ret_bool (by rw [hx.out]), b3⟩

set_option maxHeartbeats 1000000 in
theorem specSpanSame_any (a a' c c' : Option Addr) (cap cap' cq cq' : Nat) (l l' m m' : List Occ) (w : World) (h : Occs w a l) (h' : Occs w a' l') (g : Occs w c m) (g' : Occs w c' m') (hf : ∀ o ∈ l, o.Wf) (hf' : ∀ o ∈ l', o.Wf) (hg : ∀ o ∈ m, o.Wf) (hg' : ∀ o ∈ m', o.Wf) :
    Calls Try.prog 61 #[.agg #[.slice a l.length cap, .slice a' l'.length cap'], .agg #[.slice c m.length cq, .slice c' m'.length cq']] w
      fun e w' => e = .returned (.bool (spanEqB l l' m m')) ∧ Below w.heap.size w w' := by
  have hA0 := box2_new w (.slice a l.length cap) (.slice a' l'.length cap') 93
  have b00 := oBelow_new w (.cells #[.slice a l.length cap, .slice a' l'.length cap'] 93)
  obtain ⟨w0, hw0⟩ : ∃ w0, w.alloc (.cells #[.slice a l.length cap, .slice a' l'.length cap'] 93) = w0 := ⟨_, rfl⟩
  rw [hw0] at hA0 b00
  have hC1 := box2_new w0 (.slice c m.length cq) (.slice c' m'.length cq') 93
  have b01 := oBelow_new w0 (.cells #[.slice c m.length cq, .slice c' m'.length cq'] 93)
  have hs00 : w0.heap.size = w.heap.size + 1 := by rw [← hw0]; simp
  obtain ⟨w1, hw1⟩ : ∃ w1, w0.alloc (.cells #[.slice c m.length cq, .slice c' m'.length cq'] 93) = w1 := ⟨_, rfl⟩
  rw [hw1] at hC1 b01
  have hA1 := hA0.below b01
  have b1 := b00.trans (b01.mono b00.size)
  obtain ⟨p0, p1⟩ := hA1.cells
  obtain ⟨q0, q1⟩ := hC1.cells
  rw [hs00] at q0 q1
  cases h1 : occsEqB l m
  · have hx : spanEqB l l' m m' = false := by simp [spanEqB, h1]
    rw [hx]
    go_enter Try.func61, Try.ntmps61
    go_wp2_with fail
    refine (specOccsSame_any _ _ _ _ l m _ (h.below b1) (g.below b1) hf hg).mono ?_
    rintro e w2 ⟨rfl, hb2⟩
    rw [h1]
    go_wp2
    go_ret
    exact ⟨rfl, b1.trans (hb2.mono b1.size)⟩
  · have hx : Hid (spanEqB l l' m m' = occsEqB l' m') := by show _ = _; simp [spanEqB, h1]
    go_enter Try.func61, Try.ntmps61
    go_wp2_with fail
    refine (specOccsSame_any _ _ _ _ l m _ (h.below b1) (g.below b1) hf hg).mono ?_
    rintro e w2 ⟨rfl, hb2⟩
    rw [h1]
    have b2 := b1.trans (hb2.mono b1.size)
    clear p0 p1 q0 q1
    obtain ⟨p0, p1⟩ := (hA1.below hb2).cells
    obtain ⟨q0, q1⟩ := (hC1.below hb2).cells
    rw [hs00] at q0 q1
    go_wp2_with fail
    refine (specOccsSame_any _ _ _ _ l' m' _ (h'.below b2) (g'.below b2) hf' hg').mono ?_
    rintro e w3 ⟨rfl, hb3⟩
    have b3 := b2.trans (hb3.mono b2.size)
    go_wp2
    go_ret
    exact ⟨ret_bool (by rw [hx.out]), b3⟩
end Go.Proofs.Ythlddehmebgfoaa
