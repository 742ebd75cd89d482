/- The ways to pair: which numbers are modes. -/
import Derived.Test.YtdmcpneppalaiaaDoorEv
namespace Go.Proofs.YtdmcpneppalaiaaDoor
open Go.ChangeShapes Go.WideShapes Go.ChangeAt Go.RowKit
set_option linter.unusedVariables false
set_option maxRecDepth 4000

/-- A way to pair, if there is one. -/
def WayPost (ok : Bool) (w : World) (e : Ending) (w' : World) : Prop := ∃ v, e = .returned (.tuple #[v, .bool ok]) ∧ Below w.heap.size w w'
set_option maxHeartbeats 400000 in
theorem mode_any (m : Int) (w : World) : Calls Tryd.prog 24 #[.int .i64 m] w fun e w' => e = .returned (.bool (decide (0 ≤ m ∧ m ≤ 4))) ∧ Below w.heap.size w w' := by
  by_cases h0 : 0 ≤ m
  · by_cases h5 : m < 5
    · have hx : decide (0 ≤ m ∧ m ≤ 4) = true := by simp; omega
      rw [hx]
      go_enter Tryd.func24, Tryd.ntmps24
      go_wp2
      go_ret
      exact ⟨rfl, Below.refl _ _⟩
    · have hx : decide (0 ≤ m ∧ m ≤ 4) = false := by simp; omega
      rw [hx]
      go_enter Tryd.func24, Tryd.ntmps24
      go_wp2
      go_ret
      exact ⟨rfl, Below.refl _ _⟩
  · have hx : decide (0 ≤ m ∧ m ≤ 4) = false := by simp; omega
    rw [hx]
    go_enter Tryd.func24, Tryd.ntmps24
    go_wp2
    go_ret
    exact ⟨rfl, Below.refl _ _⟩
end Go.Proofs.YtdmcpneppalaiaaDoor
