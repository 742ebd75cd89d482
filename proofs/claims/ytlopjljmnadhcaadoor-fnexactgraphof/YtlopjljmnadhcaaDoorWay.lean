/- The ways to pair: which numbers are modes. -/
import Derived.Test.YtlopjljmnadhcaaDoorEv
namespace Go.Proofs.YtlopjljmnadhcaaDoor
open Go.ChangeShapes Go.WideShapes Go.ChangeAt Go.RowKit
set_option linter.unusedVariables false
set_option maxRecDepth 4000

/-- A way to pair, if there is one. -/
def WayPost (ok : Bool) (w : World) (e : Ending) (w' : World) : Prop := ∃ v, e = .returned (.tuple #[v, .bool ok]) ∧ Below w.heap.size w w'
set_option maxHeartbeats 1000000 in
theorem pairWay_any (m : Int) (w : World) : Calls Tryd.prog 21 #[.int .i64 m] w (WayPost (decide (0 ≤ m ∧ m ≤ 4)) w) := by
  rcases (show m = 0 ∨ m = 1 ∨ m = 2 ∨ m = 3 ∨ m = 4 ∨ (m ≠ 0 ∧ m ≠ 1 ∧ m ≠ 2 ∧ m ≠ 3 ∧ m ≠ 4) by omega) with rfl | rfl | rfl | rfl | rfl | ⟨h0, h1, h2, h3, h4⟩
  iterate 5
    · go_enter Tryd.func21, Tryd.ntmps21
      go_wp2
      go_ret2
      exact ⟨_, rfl, Below.refl _ _⟩
  · have hx : decide (0 ≤ m ∧ m ≤ 4) = false := by simp; omega
    rw [hx]
    have b0 : (m == 0) = false := by simpa using h0
    have b1 : (m == 1) = false := by simpa using h1
    have b2 : (m == 2) = false := by simpa using h2
    have b3 : (m == 3) = false := by simpa using h3
    have b4 : (m == 4) = false := by simpa using h4
    clear hx h0 h1 h2 h3 h4
    go_enter Tryd.func21, Tryd.ntmps21
    go_wp2
    go_ret2
    exact ⟨_, rfl, Below.refl _ _⟩

set_option maxHeartbeats 400000 in
theorem mode_any (m : Int) (w : World) : Calls Tryd.prog 18 #[.int .i64 m] w fun e w' => e = .returned (.bool (decide (0 ≤ m ∧ m ≤ 4))) ∧ Below w.heap.size w w' := by
  by_cases h0 : 0 ≤ m
  · by_cases h5 : m < 5
    · have hx : decide (0 ≤ m ∧ m ≤ 4) = true := by simp; omega
      rw [hx]
      go_enter Tryd.func18, Tryd.ntmps18
      go_wp2
      go_ret
      exact ⟨rfl, Below.refl _ _⟩
    · have hx : decide (0 ≤ m ∧ m ≤ 4) = false := by simp; omega
      rw [hx]
      go_enter Tryd.func18, Tryd.ntmps18
      go_wp2
      go_ret
      exact ⟨rfl, Below.refl _ _⟩
  · have hx : decide (0 ≤ m ∧ m ≤ 4) = false := by simp; omega
    rw [hx]
    go_enter Tryd.func18, Tryd.ntmps18
    go_wp2
    go_ret
    exact ⟨rfl, Below.refl _ _⟩
end Go.Proofs.YtlopjljmnadhcaaDoor
