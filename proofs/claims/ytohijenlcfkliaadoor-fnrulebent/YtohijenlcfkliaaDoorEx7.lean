/- What the specification's ExSyms answers. -/
import Derived.Test.YtohijenlcfkliaaDoorEx6
import Derived.Test.YtohijenlcfkliaaDoorInts
namespace Go.Proofs.YtohijenlcfkliaaDoor
open Go.ChangeShapes Go.WideShapes Go.ChangeAt Go.RowKit
set_option linter.unusedVariables false

/-- One of a list names s. -/
def nameF (s : Int) : Fo → Bool
  | .nil => false
  | .cons kd sy _ k r => (if kd = 1 then decide (sy = s) else nameF s k) || nameF s r
def nameX (s kd sy : Int) (F : Fo) : Bool := if kd = 1 then decide (sy = s) else nameF s F
theorem nameF_step {s : Int} {F : Fo} {k : Nat} {kd sy n : Int} {kids : Fo} (h : F.drop k = .cons kd sy n kids (F.drop (k + 1))) : nameF s (F.drop k) = (nameX s kd sy kids || nameF s (F.drop (k + 1))) := by
  rw [h]; rfl
theorem nameF_end {s : Int} {F : Fo} {k : Nat} (h : F.len ≤ k) : nameF s (F.drop k) = false := by
  rw [Fo.drop_end k F h]; rfl

theorem owns_below {w w' : World} {B : Nat} {e : TypeId} {z : Nat} {v : Value} {n : Nat} {xs : List Value} (h : w.ownsRow B e z v n xs) (hb : Below w.heap.size w w') : w'.ownsRow B e z v n xs :=
  h.kept (row := none) ⟨hb.os, hb.tape, hb.output, hb.size, fun i hi _ => hb.block i hi⟩ (by cases v.ownBlock <;> simp)

/-- What it names, up to k. -/
def symsTo (kd sy : Int) (F : Fo) (k : Nat) : List Int := ((List.range k).map Int.ofNat).filter fun s => nameX s kd sy F
def symsX (kd sy n : Int) (F : Fo) : List Int := if okX kd sy n F then symsTo kd sy F 5 else []
theorem symsTo_yes {kd sy : Int} {F : Fo} {k : Nat} (h : nameX k kd sy F = true) : symsTo kd sy F (k + 1) = symsTo kd sy F k ++ [(k : Int)] := by
  simp [symsTo, List.range_succ, h]
theorem symsTo_no {kd sy : Int} {F : Fo} {k : Nat} (h : nameX k kd sy F = false) : symsTo kd sy F (k + 1) = symsTo kd sy F k := by
  simp [symsTo, List.range_succ, h]
theorem symsTo_len (kd sy : Int) (F : Fo) (k : Nat) : (symsTo kd sy F k).length ≤ k := by
  have := List.length_filter_le (fun s => nameX s kd sy F) ((List.range k).map Int.ofNat)
  simpa [symsTo] using this

end Go.Proofs.YtohijenlcfkliaaDoor
