/- The ways to pair: which numbers are modes. -/
/- The list of all parts: what the program's exList answers. -/
import Derived.Test.YtohijenlcfkliaaDoorEv
import Derived.Test.YtohijenlcfkliaaDoorExM1
namespace Go.Proofs.YtohijenlcfkliaaDoor
open Go.ChangeShapes Go.WideShapes Go.ChangeAt Go.RowKit
set_option linter.unusedVariables false
set_option maxRecDepth 4000

/-- A way to pair, if there is one. -/
def WayPost (ok : Bool) (w : World) (e : Ending) (w' : World) : Prop := ∃ v, e = .returned (.tuple #[v, .bool ok]) ∧ Below w.heap.size w w'
set_option maxHeartbeats 400000 in
theorem mode_any (m : Int) (w : World) : Calls Tryd.prog 33 #[.int .i64 m] w fun e w' => e = .returned (.bool (decide (0 ≤ m ∧ m ≤ 4))) ∧ Below w.heap.size w w' := by
  by_cases h0 : 0 ≤ m
  · by_cases h5 : m < 5
    · have hx : decide (0 ≤ m ∧ m ≤ 4) = true := by simp; omega
      rw [hx]
      go_enter Tryd.func33, Tryd.ntmps33
      go_wp2
      go_ret
      exact ⟨rfl, Below.refl _ _⟩
    · have hx : decide (0 ≤ m ∧ m ≤ 4) = false := by simp; omega
      rw [hx]
      go_enter Tryd.func33, Tryd.ntmps33
      go_wp2
      go_ret
      exact ⟨rfl, Below.refl _ _⟩
  · have hx : decide (0 ≤ m ∧ m ≤ 4) = false := by simp; omega
    rw [hx]
    go_enter Tryd.func33, Tryd.ntmps33
    go_wp2
    go_ret
    exact ⟨rfl, Below.refl _ _⟩
end Go.Proofs.YtohijenlcfkliaaDoor
namespace Go.Proofs.YtohijenlcfkliaaDoor
open Go.ChangeShapes Go.WideShapes Go.ChangeAt Go.RowKit
set_option linter.unusedVariables false

set_option maxHeartbeats 1000000 in
/-- The deferred function, where nothing has panicked. -/
theorem exListD_calm (Bl : Nat) (w : World) : CallsDIn Fence.wide 8 Tryd.prog 62 #[.pointer (some ⟨Bl, 0, none⟩)] .returning w fun e u' w' => u' = .returning ∧ (∃ x, e = .returned x) ∧ w' = w := by
  refine callsDIn_of_wpSIn Tryd.func62 rfl trivial fun c₀ cs hu => ?_
  apply wpSIn_seq
  apply wpSIn_region
  simp [wpOpsSIn, go_sem, recoverD, hu, Tryd.ntmps62, Exit.thenS]
  refine wpSIn_cond (t := false) (by simp [Act.eval, Array.replicate]) ?_
  refine wpSIn_of_wpIn rfl (wpIn_wide.2 (wp_skip ?_))
  exact ⟨rfl, .returning, by rw [← hu], _, results_none rfl _ _ _, rfl, ⟨_, rfl⟩, rfl⟩

set_option maxHeartbeats 1000000 in
/-- The deferred function, where a panic goes by: it is taken up, and the list is none. -/
theorem exListD_panic (Bl : Nat) (t : TypeId) (v x : Value) (w : World) (hb : Boxed w Bl 32 x) : CallsDIn Fence.wide 8 Tryd.prog 62 #[.pointer (some ⟨Bl, 0, none⟩)] (.panicking [{ v := .iface t v, recovered := false }]) w
    fun e u' w' => u' = .panicking [{ v := .iface t v, recovered := true }] ∧ (∃ x, e = .returned x) ∧ w' = w.setCell ⟨Bl, 0, none⟩ (.slice none 0 0) := by
  have c0 := hb.cell
  have c1 := hb.frozen
  refine callsDIn_of_wpSIn Tryd.func62 rfl trivial fun c₀ cs hu => ?_
  apply wpSIn_seq
  apply wpSIn_region
  simp [wpOpsSIn, go_sem, recoverD, hu, Tryd.ntmps62, Exit.thenS]
  refine wpSIn_cond (t := true) (by simp [Act.eval, Array.replicate]) ?_
  simp only [if_true]
  apply wpSIn_region
  simp [wpOpsSIn, go_sem, c0, c1]
  exact ⟨rfl, _, rfl, _, results_none rfl _ _ _, rfl, ⟨_, rfl⟩, rfl⟩

end Go.Proofs.YtohijenlcfkliaaDoor
