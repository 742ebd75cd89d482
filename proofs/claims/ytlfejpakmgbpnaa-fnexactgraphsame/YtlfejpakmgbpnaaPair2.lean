/- What waits: both PairSame. -/
import Derived.Test.YtlfejpakmgbpnaaPair
import Derived.Test.YtlfejpakmgbpnaaOccs3
namespace Go.Proofs.Ytlfejpakmgbpnaa
open Go.ChangeShapes Go.WideShapes Go.ChangeAt Go.RowKit
set_option linter.unusedVariables false
set_option maxRecDepth 4000

set_option maxHeartbeats 1000000 in
theorem implPairSame_any (a a' c c' : Option Addr) (cap cap' cq cq' : Nat) (l l' m m' : List Occ) (w : World) (h : Occs w a l) (h' : Occs w a' l') (g : Occs w c m) (g' : Occs w c' m') :
    Calls Try.prog 21 #[.agg #[.slice a l.length cap, .slice a' l'.length cap'], .agg #[.slice c m.length cq, .slice c' m'.length cq']] w
      fun e w' => e = .returned (.bool (pairEqB l l' m m')) ∧ Below w.heap.size w w' := by
  have hA0 := box2_new w (.slice a l.length cap) (.slice a' l'.length cap') 37
  have b00 := oBelow_new w (.cells #[.slice a l.length cap, .slice a' l'.length cap'] 37)
  obtain ⟨w0, hw0⟩ : ∃ w0, w.alloc (.cells #[.slice a l.length cap, .slice a' l'.length cap'] 37) = w0 := ⟨_, rfl⟩
  rw [hw0] at hA0 b00
  have hC1 := box2_new w0 (.slice c m.length cq) (.slice c' m'.length cq') 37
  have b01 := oBelow_new w0 (.cells #[.slice c m.length cq, .slice c' m'.length cq'] 37)
  have hs00 : w0.heap.size = w.heap.size + 1 := by rw [← hw0]; simp
  obtain ⟨w1, hw1⟩ : ∃ w1, w0.alloc (.cells #[.slice c m.length cq, .slice c' m'.length cq'] 37) = w1 := ⟨_, rfl⟩
  rw [hw1] at hC1 b01
  have hA1 := hA0.below b01
  have b1 := b00.trans (b01.mono b00.size)
  obtain ⟨p0, p1⟩ := hA1.cells
  obtain ⟨q0, q1⟩ := hC1.cells
  rw [hs00] at q0 q1
  cases h1 : occsEqB l m
  · have hx : pairEqB l l' m m' = false := by simp [pairEqB, h1]
    rw [hx]
    go_enter Try.func21, Try.ntmps21
    go_wp2_with fail
    refine (implOccsSame_any _ _ _ _ l m _ (h.below b1) (g.below b1)).mono ?_
    rintro e w2 ⟨rfl, hb2⟩
    rw [h1]
    go_wp2
    go_ret
    exact ⟨rfl, b1.trans (hb2.mono b1.size)⟩
  · have hx : Hid (pairEqB l l' m m' = occsEqB l' m') := by show _ = _; simp [pairEqB, h1]
    go_enter Try.func21, Try.ntmps21
    go_wp2_with fail
    refine (implOccsSame_any _ _ _ _ l m _ (h.below b1) (g.below b1)).mono ?_
    rintro e w2 ⟨rfl, hb2⟩
    rw [h1]
    have b2 := b1.trans (hb2.mono b1.size)
    clear p0 p1 q0 q1
    obtain ⟨p0, p1⟩ := (hA1.below hb2).cells
    obtain ⟨q0, q1⟩ := (hC1.below hb2).cells
    rw [hs00] at q0 q1
    go_wp2_with fail
    refine (implOccsSame_any _ _ _ _ l' m' _ (h'.below b2) (g'.below b2)).mono ?_
    rintro e w3 ⟨rfl, hb3⟩
    have b3 := b2.trans (hb3.mono b2.size)
    go_wp2
    go_ret
    exact ⟨ret_bool (by rw [hx.out]), b3⟩

set_option maxHeartbeats 1000000 in
theorem specPairSame_any (a a' c c' : Option Addr) (cap cap' cq cq' : Nat) (l l' m m' : List Occ) (w : World) (h : Occs w a l) (h' : Occs w a' l') (g : Occs w c m) (g' : Occs w c' m') (hf : ∀ o ∈ l, o.Wf) (hf' : ∀ o ∈ l', o.Wf) (hg : ∀ o ∈ m, o.Wf) (hg' : ∀ o ∈ m', o.Wf) :
    Calls Try.prog 16 #[.agg #[.slice a l.length cap, .slice a' l'.length cap'], .agg #[.slice c m.length cq, .slice c' m'.length cq']] w
      fun e w' => e = .returned (.bool (pairEqB l l' m m')) ∧ Below w.heap.size w w' := by
  have hA0 := box2_new w (.slice a l.length cap) (.slice a' l'.length cap') 37
  have b00 := oBelow_new w (.cells #[.slice a l.length cap, .slice a' l'.length cap'] 37)
  obtain ⟨w0, hw0⟩ : ∃ w0, w.alloc (.cells #[.slice a l.length cap, .slice a' l'.length cap'] 37) = w0 := ⟨_, rfl⟩
  rw [hw0] at hA0 b00
  have hC1 := box2_new w0 (.slice c m.length cq) (.slice c' m'.length cq') 37
  have b01 := oBelow_new w0 (.cells #[.slice c m.length cq, .slice c' m'.length cq'] 37)
  have hs00 : w0.heap.size = w.heap.size + 1 := by rw [← hw0]; simp
  obtain ⟨w1, hw1⟩ : ∃ w1, w0.alloc (.cells #[.slice c m.length cq, .slice c' m'.length cq'] 37) = w1 := ⟨_, rfl⟩
  rw [hw1] at hC1 b01
  have hA1 := hA0.below b01
  have b1 := b00.trans (b01.mono b00.size)
  obtain ⟨p0, p1⟩ := hA1.cells
  obtain ⟨q0, q1⟩ := hC1.cells
  rw [hs00] at q0 q1
  cases h1 : occsEqB l m
  · have hx : pairEqB l l' m m' = false := by simp [pairEqB, h1]
    rw [hx]
    go_enter Try.func16, Try.ntmps16
    go_wp2_with fail
    refine (specOccsSame_any _ _ _ _ l m _ (h.below b1) (g.below b1) hf hg).mono ?_
    rintro e w2 ⟨rfl, hb2⟩
    rw [h1]
    go_wp2
    go_ret
    exact ⟨rfl, b1.trans (hb2.mono b1.size)⟩
  · have hx : Hid (pairEqB l l' m m' = occsEqB l' m') := by show _ = _; simp [pairEqB, h1]
    go_enter Try.func16, Try.ntmps16
    go_wp2_with fail
    refine (specOccsSame_any _ _ _ _ l m _ (h.below b1) (g.below b1) hf hg).mono ?_
    rintro e w2 ⟨rfl, hb2⟩
    rw [h1]
    have b2 := b1.trans (hb2.mono b1.size)
    clear p0 p1 q0 q1
    obtain ⟨p0, p1⟩ := (hA1.below hb2).cells
    obtain ⟨q0, q1⟩ := (hC1.below hb2).cells
    rw [hs00] at q0 q1
    go_wp2_with fail
    refine (specOccsSame_any _ _ _ _ l' m' _ (h'.below b2) (g'.below b2) hf' hg').mono ?_
    rintro e w3 ⟨rfl, hb3⟩
    have b3 := b2.trans (hb3.mono b2.size)
    go_wp2
    go_ret
    exact ⟨ret_bool (by rw [hx.out]), b3⟩
end Go.Proofs.Ytlfejpakmgbpnaa
