/- The laws' draws of chapter 3: a list for its text. -/
import Derived.Test.YtjaneedmhekheaaDoorDraw7
namespace Go.Proofs.YtjaneedmhekheaaDoor
open Go.ChangeShapes Go.WideShapes Go.ChangeAt Go.RowKit
set_option linter.unusedVariables false
set_option maxRecDepth 4000
set_option maxHeartbeats 1000000 in
theorem drawOccsText_any (a : Option Addr) (cap : Nat) (l : List Int) (w : World) (h : Bytes w a l) (hc : l.length ≤ cap) :
    Calls Tryd.prog 22 #[.slice a l.length cap] w fun e w' => ∃ (a' : Option Addr) (c' : Nat) (m : List Occ), e = .returned (.slice a' (List.length m) c') ∧ m.length ≤ 7 ∧ Occs w' a' m ∧ (∀ o ∈ m, o.Wd) ∧ Below w.heap.size w w' := by
  go_enter Tryd.func22, Tryd.ntmps22
  go_wp2_with fail
  refine (l14Open_any _ _ l _ h hc).mono ?_
  rintro e w1 ⟨rfl, hR1, hb1, hs1⟩
  go_wp2_with fail
  refine (l3Bent_any _ 0 _ hR1 (by omega)).mono ?_
  rintro e w2 ⟨a2, c2, p2, m, rfl, hm, hocc, hage, hR2, hp2, hg2, hwd, _⟩
  go_wp2
  go_ret
  exact ⟨a2, c2, m, rfl, hm, hocc w2 (Nat.le_refl _) (fun _ _ _ => rfl), hwd, below_grown hb1 hg2 (Nat.le_refl _) hb1.size⟩
end Go.Proofs.YtjaneedmhekheaaDoor
