/- Graphs in which nothing waits and nothing is due: the graphs compared. -/
import Derived.Test.YtlopjljmnadhcaaDoorPlanH
namespace Go.Proofs.YtlopjljmnadhcaaDoor
open Go.ChangeShapes Go.WideShapes Go.ChangeAt Go.RowKit
set_option linter.unusedVariables false
set_option maxRecDepth 4000

def grC (m : Int) (a : Option Addr) (n cap : Nat) : Array Value := #[.int .i64 m, .slice a n cap, .int .i64 0, .int .i64 0, .bool false]
def gcsEqB (m : Int) (l : List GC) (m' : Int) (l' : List GC) : Bool := decide (m = m') && gnsEqB l l'
theorem gcsEqB_iff (m : Int) (l : List GC) (m' : Int) (l' : List GC) : gcsEqB m l m' l' = true ↔ m = m' ∧ l.map (·.g) = l'.map (·.g) := by simp [gcsEqB, gnsEqB_iff]
set_option maxHeartbeats 2000000 in
theorem eqGraph_gc (m : Int) (a : Option Addr) (cap : Nat) (l : List GC) (m' : Int) (a' : Option Addr) (cap' : Nat) (l' : List GC) (w : World) (h : Gcs w a l) (h' : Gcs w a' l') :
    Calls Tryd.prog 9 #[.agg (grC m a l.length cap), .agg (grC m' a' l'.length cap')] w fun e w' => e = .returned (.bool (gcsEqB m l m' l')) ∧ Below w.heap.size w w' := by
  obtain ⟨G, hG⟩ : ∃ G, gcsEqB m l m' l' = G := ⟨_, rfl⟩
  rw [hG]
  have HG : Hid (gcsEqB m l m' l' = G) := hG
  clear hG
  unfold grC
  obtain ⟨w0, hw0⟩ : ∃ w0, w.alloc (.cells #[.int .i64 m, .slice a l.length cap, .int .i64 0, .int .i64 0, .bool false] 28) = w0 := ⟨_, rfl⟩
  have hA0 := gb_new w #[.int .i64 m, .slice a l.length cap, .int .i64 0, .int .i64 0, .bool false] 28
  have b0 := gBelow_new w (.cells #[.int .i64 m, .slice a l.length cap, .int .i64 0, .int .i64 0, .bool false] 28)
  rw [hw0] at hA0 b0
  obtain ⟨w1, hw1⟩ : ∃ w1, w0.alloc (.cells #[.int .i64 m', .slice a' l'.length cap', .int .i64 0, .int .i64 0, .bool false] 28) = w1 := ⟨_, rfl⟩
  have hB1 := gb_new w0 #[.int .i64 m', .slice a' l'.length cap', .int .i64 0, .int .i64 0, .bool false] 28
  have b01 := gBelow_new w0 (.cells #[.int .i64 m', .slice a' l'.length cap', .int .i64 0, .int .i64 0, .bool false] 28)
  rw [hw1] at hB1 b01
  have hA1 := hA0.below b01
  have b1 := b0.trans (b01.mono b0.size)
  clear b0 b01 hA0
  have q0 := hA1.at 0
  have q1 := hA1.at 1
  have r0 := hB1.at 0
  have r1 := hB1.at 1
  by_cases h0 : m = m'
  case neg =>
    have n0 : (m != m') = true := by simpa using h0
    have hf : gcsEqB m l m' l' = false := by simp [gcsEqB, h0]
    clear h0
    go_enter Tryd.func9, Tryd.ntmps9
    go_wp2
    go_ret
    exact ⟨ret_bool (by rw [← HG.out, hf]), b1⟩
  have n0 : (m != m') = false := by simpa using h0
  have H0 : Hid (m = m') := h0
  clear h0
  go_enter Tryd.func9, Tryd.ntmps9
  go_wp2_with fail
  refine (eqNodeS_gc _ _ _ _ l l' _ (h.below b1) (h'.below b1)).mono ?_
  rintro e w2 ⟨rfl, hb2⟩
  have b2 := b1.trans (hb2.mono b1.size)
  have hA2 := hA1.below hb2
  have hB2 := hB1.below hb2
  clear q0 q1 r0 r1
  cases g1 : gnsEqB l l'
  case false =>
    have hf : gcsEqB m l m' l' = false := by simp [gcsEqB, g1]
    clear g1
    go_wp2
    go_ret
    exact ⟨ret_bool (by rw [← HG.out, hf]), b2⟩
  have hf : gcsEqB m l m' l' = true := by simp [gcsEqB, H0.out, g1]
  clear g1
  have q2 := hA2.at 2
  have q3 := hA2.at 3
  have q4 := hA2.at 4
  have r2 := hB2.at 2
  have r3 := hB2.at 3
  have r4 := hB2.at 4
  go_wp2
  go_ret
  exact ⟨ret_bool (by rw [← HG.out, hf]), b2⟩
end Go.Proofs.YtlopjljmnadhcaaDoor
