/- How much there is of rules: the laws' own count. -/
/- Rules are copied by the laws: what is looked for in rows of the call's own. -/
import Derived.Test.YtohijenlcfkliaaDoorRu
import Derived.Test.YtohijenlcfkliaaDoorEx1
import Derived.Test.YtohijenlcfkliaaDoorEx4
namespace Go.Proofs.YtohijenlcfkliaaDoor
open Go.ChangeShapes Go.WideShapes Go.ChangeAt Go.RowKit Go.Deep
set_option linter.unusedVariables false
set_option maxRecDepth 4000

def ruSize (x : Ru) : Nat := x.nm.size + x.ks.size
def rusTotal : List Ru → Nat
  | [] => 0
  | x :: r => ruSize x + rusTotal r
theorem rusTotal_step {l : List Ru} {k : Nat} (h : k < l.length) : rusTotal (l.drop k) = ruSize l[k] + rusTotal (l.drop (k + 1)) := by rw [List.drop_eq_getElem_cons h]; rfl
theorem rusTotal_end {l : List Ru} {k : Nat} (h : ¬ k < l.length) : rusTotal (l.drop k) = 0 := by rw [List.drop_eq_nil_of_le (by omega)]; rfl
theorem rusTotal_get : ∀ {l : List Ru} {k : Nat} (h : k < l.length), ruSize l[k] ≤ rusTotal l
  | x :: r, 0, _ => by simp [rusTotal]
  | x :: r, k + 1, h => by have := rusTotal_get (l := r) (k := k) (by simpa using h); simp [rusTotal]; omega
def rusSize (l : List Ru) : Nat := l.length + rusTotal l

end Go.Proofs.YtohijenlcfkliaaDoor
namespace Go.Proofs.YtohijenlcfkliaaDoor
open Go.ChangeShapes Go.WideShapes Go.ChangeAt Go.RowKit Go.Deep
set_option linter.unusedVariables false
set_option maxRecDepth 4000

theorem RowOwn.keeps {w w' : World} {B b : Nat} {S : List Nat} {F : Fo} (h : RowOwn w B b S F) (k : Keeps B w w') : RowOwn w' B b S F :=
  h.of_blocks fun x hx => k.2 x (h.ge x hx) (h.lt x hx)

/-- What the copy of a rule hands back. -/
def CopyR (w : World) (x : Ru) (e : Ending) (w' : World) : Prop := ∃ b S, e = .returned (ruV x (some ⟨b, 0, none⟩) x.ks.len) ∧ RowOwn w' w.heap.size b S x.ks ∧ Below w.heap.size w w'

end Go.Proofs.YtohijenlcfkliaaDoor
