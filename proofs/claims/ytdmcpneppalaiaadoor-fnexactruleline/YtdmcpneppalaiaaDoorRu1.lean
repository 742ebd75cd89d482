/- How much there is of rules: the laws' own count. -/
import Derived.Test.YtdmcpneppalaiaaDoorRu
import Derived.Test.YtdmcpneppalaiaaDoorEx1
namespace Go.Proofs.YtdmcpneppalaiaaDoor
open Go.ChangeShapes Go.WideShapes Go.ChangeAt Go.RowKit Go.Deep
set_option linter.unusedVariables false
set_option maxRecDepth 4000

def ruSize (x : Ru) : Nat := x.nm.size + x.ks.size
def rusTotal : List Ru → Nat
  | [] => 0
  | x :: r => ruSize x + rusTotal r
theorem rusTotal_step {l : List Ru} {k : Nat} (h : k < l.length) : rusTotal (l.drop k) = ruSize l[k] + rusTotal (l.drop (k + 1)) := by rw [List.drop_eq_getElem_cons h]; rfl
theorem rusTotal_end {l : List Ru} {k : Nat} (h : ¬ k < l.length) : rusTotal (l.drop k) = 0 := by rw [List.drop_eq_nil_of_le (by omega)]; rfl
theorem rusTotal_get : ∀ {l : List Ru} {k : Nat} (h : k < l.length), ruSize l[k] ≤ rusTotal l
  | x :: r, 0, _ => by simp [rusTotal]
  | x :: r, k + 1, h => by have := rusTotal_get (l := r) (k := k) (by simpa using h); simp [rusTotal]; omega
def rusSize (l : List Ru) : Nat := l.length + rusTotal l

set_option maxHeartbeats 1000000 in
theorem szRule_any (x : Ru) (a : Option Addr) (c : Nat) (left : Int) (w : World) (h : RuIn w a x) (h0 : 0 ≤ left) (h1 : left ≤ 1048576) :
    Calls Tryd.prog 4 #[ruV x a c, .int .i64 left] w fun e w' => e = .returned (.int .i64 (szLeft left (ruSize x))) ∧ Below w.heap.size w w' := by
  obtain ⟨G, hG⟩ : ∃ G, szLeft left (ruSize x) = G := ⟨_, rfl⟩
  rw [hG]
  have hse : Hid (ruSize x = x.nm.size + x.ks.size) := rfl
  have HG : Hid (szLeft left (ruSize x) = G) := hG
  clear hG
  have hnm := h.nm
  unfold maxLen at hnm
  obtain ⟨w0, hw0⟩ : ∃ w0, w.alloc (.cells (ruC x a c) 26) = w0 := ⟨_, rfl⟩
  have hA0 := bx_new w (ruC x a c) 26
  have b0 := xBelow_new w (.cells (ruC x a c) 26)
  rw [hw0] at hA0 b0
  obtain ⟨q0, q1, q2, q3, q4, q5, q6, q7, q8, q9, q10, q11⟩ := hA0.twelve
  simp only [Nat.zero_add] at q0 q1 q2 q3 q4 q5 q6 q7 q8 q9 q10 q11
  have hi0 := h.below b0
  unfold ruV
  unfold ruC at hw0 ⊢
  by_cases l1 : left - x.nm.size < 0
  · go_enter Tryd.func4, Tryd.ntmps4
    go_wp2
    go_ret
    exact ⟨by rw [← HG.out, show szLeft left (ruSize x) = -1 from if_pos (by have := hse.out; omega)]; rfl, b0⟩
  · have g1 : ¬ (left - (x.nm.size : Int) < 0) := l1
    go_enter Tryd.func4, Tryd.ntmps4
    go_wp2_with fail
    refine (szEx_any x.kd x.sy x.n a c x.ks _ _ hi0.ks (by omega) (by omega)).mono ?_
    rintro e w1 ⟨rfl, hb1⟩
    have b1 := b0.trans (hb1.mono b0.size)
    by_cases l2 : left - x.nm.size - x.ks.size < 0
    · have hz : szLeft (left - x.nm.size) x.ks.size = -1 := if_pos l2
      rw [hz]
      go_wp2
      go_ret
      exact ⟨by rw [← HG.out, show szLeft left (ruSize x) = -1 from if_pos (by have := hse.out; omega)]; rfl, b1⟩
    · have hz : szLeft (left - x.nm.size) x.ks.size = left - x.nm.size - x.ks.size := if_neg l2
      rw [hz]
      have g2 : ¬ (left - (x.nm.size : Int) - (x.ks.size : Int) < 0) := l2
      go_wp2
      go_ret
      exact ⟨by rw [← HG.out, show szLeft left (ruSize x) = left - x.nm.size - x.ks.size from by unfold szLeft; have := hse.out; rw [if_neg (by omega)]; omega]; rfl, b1⟩

end Go.Proofs.YtdmcpneppalaiaaDoor
