/- The list of all parts: what the program's exList answers. -/
import Derived.Test.YtpokhhplgljmiaaDoorExM1
namespace Go.Proofs.YtpokhhplgljmiaaDoor
open Go.ChangeShapes Go.WideShapes Go.ChangeAt Go.RowKit
set_option linter.unusedVariables false

set_option maxHeartbeats 1000000 in
/-- The deferred function, where nothing has panicked. -/
theorem exListD_calm (Bl : Nat) (w : World) : CallsDIn Fence.wide 8 Tryd.prog 31 #[.pointer (some ⟨Bl, 0, none⟩)] .returning w fun e u' w' => u' = .returning ∧ (∃ x, e = .returned x) ∧ w' = w := by
  refine callsDIn_of_wpSIn Tryd.func31 rfl trivial fun c₀ cs hu => ?_
  apply wpSIn_seq
  apply wpSIn_region
  simp [wpOpsSIn, go_sem, recoverD, hu, Tryd.ntmps31, Exit.thenS]
  refine wpSIn_cond (t := false) (by simp [Act.eval, Array.replicate]) ?_
  refine wpSIn_of_wpIn rfl (wpIn_wide.2 (wp_skip ?_))
  exact ⟨rfl, .returning, by rw [← hu], _, results_none rfl _ _ _, rfl, ⟨_, rfl⟩, rfl⟩

set_option maxHeartbeats 1000000 in
/-- The deferred function, where a panic goes by: it is taken up, and the list is none. -/
theorem exListD_panic (Bl : Nat) (t : TypeId) (v x : Value) (w : World) (hb : Boxed w Bl 23 x) : CallsDIn Fence.wide 8 Tryd.prog 31 #[.pointer (some ⟨Bl, 0, none⟩)] (.panicking [{ v := .iface t v, recovered := false }]) w
    fun e u' w' => u' = .panicking [{ v := .iface t v, recovered := true }] ∧ (∃ x, e = .returned x) ∧ w' = w.setCell ⟨Bl, 0, none⟩ (.slice none 0 0) := by
  have c0 := hb.cell
  have c1 := hb.frozen
  refine callsDIn_of_wpSIn Tryd.func31 rfl trivial fun c₀ cs hu => ?_
  apply wpSIn_seq
  apply wpSIn_region
  simp [wpOpsSIn, go_sem, recoverD, hu, Tryd.ntmps31, Exit.thenS]
  refine wpSIn_cond (t := true) (by simp [Act.eval, Array.replicate]) ?_
  simp only [if_true]
  apply wpSIn_region
  simp [wpOpsSIn, go_sem, c0, c1]
  exact ⟨rfl, _, rfl, _, results_none rfl _ _ _, rfl, ⟨_, rfl⟩, rfl⟩

end Go.Proofs.YtpokhhplgljmiaaDoor
