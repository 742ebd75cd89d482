/- What the program says of the type string. -/
import Derived.Test.YtdmcpneppalaiaaDoorRows
import Derived.WalkKit
import Derived.ProofKit
namespace Go.Proofs.YtdmcpneppalaiaaDoor
open Go.ChangeShapes Go.WideShapes Go.ChangeAt Go.RowKit

theorem info_str : (Tryd.prog.info? 9).map (fun i => (i.zero, i.size, i.bytes)) = some (some (.string ByteArray.empty), 1, 16) := by kernel_rfl
theorem info_str_parts : ∃ i, Tryd.prog.info? 9 = some i ∧ i.zero = some (.string ByteArray.empty) ∧ i.size = 1 ∧ i.bytes = 16 := by
  have hi := info_str
  cases h : Tryd.prog.info? 9 with
  | none => rw [h] at hi; simp at hi
  | some i => rw [h] at hi; simp at hi; exact ⟨i, rfl, hi⟩
theorem new_str (w : World) (p : ByteArray) (t : TypeId) : ∀ j u, ([.string p] : List Value)[j]? = some u → (w.alloc (.cells #[.string p] t)).cell? ((⟨w.heap.size, 0, none⟩ : Addr).add j) = some u := by
  intro j u hj
  match j, hj with
  | 0, hj => simp at hj; subst hj; simp [Addr.add]
end Go.Proofs.YtdmcpneppalaiaaDoor
