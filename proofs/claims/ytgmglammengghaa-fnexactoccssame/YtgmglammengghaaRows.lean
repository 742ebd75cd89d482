/-
  No cell of these rows narrows 'for every input' (looked for: loops, veiled, ifaces, maps, wideKeys, modest, calm, conditions, laid).
  DERIVED. THE GIVEN ROWS OF THIS SEAT. 3 by the template 'for every input the law returns true; each argument reads behind the call as it read before'; 0 by the template 'total and deterministic' (their statements: YtgmglammengghaaTotals.lean).
  GIVEN WITH THE SEED: the statements are not yours to turn. If you find one false, say at which input.
  Laid BY PROGRAM, IN A SANDBOX (cutbox-rows.mjs): the forced cells as the released guide's own fill.sh prints them over the translation 3d39b7f667ae41d4… (all of the seat's roots in one cut). By AI agents, Wed Nov 11 2026. No macro, syntax, notation, axiom, sorry.
-/
import Derived.Test.YtgmglammengghaaChecked
import GoSem.Claim
import GoSem.ClaimJoined
import GoSem.ClaimMapViews
import Derived.JoinedTies
import Derived.KernelRfl
namespace Go.Proofs.Ytgmglammengghaa
/- THE CELL 'sum', in the pinned program and in every row, IS THE sha256 OF THE DUMP (.gsa) THAT YtgmglammengghaaProg.lean LOADS. Nothing in Lean hashes anything: it is a label: what it is worth is what the hold of that sum in a sandbox is worth. -/
noncomputable def Try.pinned : Pinned := { name := "ytgmglammengghaa", sum := "3d39b7f667ae41d4dde515d71bf3a185329dcfad2b33dfed15a9d8c293ddcc94", checked := Try.checked }
namespace Rows
def none {H : Type} : Left H := { results := [], args := [] }

/-- 'laws.FnExactOccOk': WHATEVER THE INPUT: true; the input reads as it did. -/
def fnExactOccOkSpec : ChangeSpec := { name := "fnExactOccOk", fn := fun _ => fun
  | [d] => { results := [.lit (.bool true)], args := [d] }
  | _ => none }
def fnExactOccOkRow : OpenClaim := { program := "ytgmglammengghaa", sum := "3d39b7f667ae41d4dde515d71bf3a185329dcfad2b33dfed15a9d8c293ddcc94", func := "loop.example/bellman/laws.FnExactOccOk", spec := "fnExactOccOk", apart := false }
def FnExactOccOkSaid : Prop := fnExactOccOkRow.holds Try.pinned (OpenSpec.ofChange fnExactOccOkSpec)

/-- ITS FALSE NEIGHBOUR: 'it returns false'. Refute it at one input. -/
def fnExactOccOkWrong : ChangeSpec := { name := "fnExactOccOk", fn := fun _ => fun
  | [d] => { results := [.lit (.bool false)], args := [d] }
  | _ => none }
def FnExactOccOkWrongFalsely : Prop := fnExactOccOkRow.holds Try.pinned (OpenSpec.ofChange fnExactOccOkWrong)

/-- 'laws.FnExactOccsOk': WHATEVER THE INPUT: true; the input reads as it did. -/
def fnExactOccsOkSpec : ChangeSpec := { name := "fnExactOccsOk", fn := fun _ => fun
  | [d] => { results := [.lit (.bool true)], args := [d] }
  | _ => none }
def fnExactOccsOkRow : OpenClaim := { program := "ytgmglammengghaa", sum := "3d39b7f667ae41d4dde515d71bf3a185329dcfad2b33dfed15a9d8c293ddcc94", func := "loop.example/bellman/laws.FnExactOccsOk", spec := "fnExactOccsOk", apart := false }
def FnExactOccsOkSaid : Prop := fnExactOccsOkRow.holds Try.pinned (OpenSpec.ofChange fnExactOccsOkSpec)

/-- ITS FALSE NEIGHBOUR: 'it returns false'. Refute it at one input. -/
def fnExactOccsOkWrong : ChangeSpec := { name := "fnExactOccsOk", fn := fun _ => fun
  | [d] => { results := [.lit (.bool false)], args := [d] }
  | _ => none }
def FnExactOccsOkWrongFalsely : Prop := fnExactOccsOkRow.holds Try.pinned (OpenSpec.ofChange fnExactOccsOkWrong)

/-- 'laws.FnExactOccsSame': WHATEVER THE INPUT: true; the input reads as it did. -/
def fnExactOccsSameSpec : ChangeSpec := { name := "fnExactOccsSame", fn := fun _ => fun
  | [d1, d2] => { results := [.lit (.bool true)], args := [d1, d2] }
  | _ => none }
def fnExactOccsSameRow : OpenClaim := { program := "ytgmglammengghaa", sum := "3d39b7f667ae41d4dde515d71bf3a185329dcfad2b33dfed15a9d8c293ddcc94", func := "loop.example/bellman/laws.FnExactOccsSame", spec := "fnExactOccsSame", unfollowed := true, recurses := true, apart := false }
def FnExactOccsSameSaid : Prop := fnExactOccsSameRow.holds Try.pinned (OpenSpec.ofChange fnExactOccsSameSpec)

/-- ITS FALSE NEIGHBOUR: 'it returns false'. Refute it at one input. -/
def fnExactOccsSameWrong : ChangeSpec := { name := "fnExactOccsSame", fn := fun _ => fun
  | [d1, d2] => { results := [.lit (.bool false)], args := [d1, d2] }
  | _ => none }
def FnExactOccsSameWrongFalsely : Prop := fnExactOccsSameRow.holds Try.pinned (OpenSpec.ofChange fnExactOccsSameWrong)

/- THE SECOND FORM. 'bulk': how many values and letters a reading holds, each counted each time it is reached (what is shared counts as often as it is met; a slice's spare places count too). A statement '..UptoSaid' is the law's where the arguments, and the package variables that the reading takes, are together of bulk at most 1048576: NARROWER than '..Said'. Prove '..Said' where nothing that the law and all that it calls make is longer than what came in: it says more and counts as full. Else prove '..UptoSaid'. A law counts once. -/
mutual
def uptoBulk {H : Type} : DataW H → Nat
  | .lit (.string bytes) => bytes.length + 1
  | .lit _ => 1
  | .nil => 1
  | .ptr d => uptoBulk d + 1
  | .slice elems spare => uptoBulkAll elems + uptoBulkAll spare + 1
  | .agg parts => uptoBulkAll parts + 1
  | .iface _ d => uptoBulk d + 1
  | .map entries => uptoBulkEntries entries + 1
  | .held _ => 1
def uptoBulkAll {H : Type} : List (DataW H) → Nat
  | [] => 0
  | d :: r => uptoBulk d + uptoBulkAll r
def uptoBulkEntries {H : Type} : List (Lit × DataW H) → Nat
  | [] => 0
  | x :: r => uptoBulkEntry x + uptoBulkEntries r
def uptoBulkEntry {H : Type} : Lit × DataW H → Nat
  | (.string bytes, d) => bytes.length + uptoBulk d + 1
  | (_, d) => uptoBulk d + 1
 end
def uptoSmall : (H : Type) → List (DataW H) → Bool := fun _ ds => decide (uptoBulkAll ds ≤ 1048576)
def OpenSpec.upto (s : _root_.Go.ChangeSpec) : _root_.Go.OpenSpec := { _root_.Go.OpenSpec.ofChange s with cond := some uptoSmall }

/-- 'laws.FnExactOccOk', WHERE WHAT IT READS IS OF BULK AT MOST 1048576: true; the input reads as it did. -/
def fnExactOccOkUptoRow : OpenClaim := { program := "ytgmglammengghaa", sum := "3d39b7f667ae41d4dde515d71bf3a185329dcfad2b33dfed15a9d8c293ddcc94", func := "loop.example/bellman/laws.FnExactOccOk", spec := "fnExactOccOk", apart := false, narrowed := true }
def FnExactOccOkUptoSaid : Prop := fnExactOccOkUptoRow.holds Try.pinned (OpenSpec.upto fnExactOccOkSpec)

/-- 'laws.FnExactOccsOk', WHERE WHAT IT READS IS OF BULK AT MOST 1048576: true; the input reads as it did. -/
def fnExactOccsOkUptoRow : OpenClaim := { program := "ytgmglammengghaa", sum := "3d39b7f667ae41d4dde515d71bf3a185329dcfad2b33dfed15a9d8c293ddcc94", func := "loop.example/bellman/laws.FnExactOccsOk", spec := "fnExactOccsOk", apart := false, narrowed := true }
def FnExactOccsOkUptoSaid : Prop := fnExactOccsOkUptoRow.holds Try.pinned (OpenSpec.upto fnExactOccsOkSpec)

/-- 'laws.FnExactOccsSame', WHERE WHAT IT READS IS OF BULK AT MOST 1048576: true; the input reads as it did. -/
def fnExactOccsSameUptoRow : OpenClaim := { program := "ytgmglammengghaa", sum := "3d39b7f667ae41d4dde515d71bf3a185329dcfad2b33dfed15a9d8c293ddcc94", func := "loop.example/bellman/laws.FnExactOccsSame", spec := "fnExactOccsSame", unfollowed := true, recurses := true, apart := false, narrowed := true }
def FnExactOccsSameUptoSaid : Prop := fnExactOccsSameUptoRow.holds Try.pinned (OpenSpec.upto fnExactOccsSameSpec)

end Rows
end Go.Proofs.Ytgmglammengghaa
