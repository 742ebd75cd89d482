/-
  NARROWER THAN 'FOR EVERY INPUT', by the rows' own cells (each row's printed sentence says how): FnExactExOk: loops, ifaces, laid · FnExactExMany: loops, ifaces, laid · FnExactExSyms: loops, ifaces, laid.
  DERIVED. THE GIVEN ROWS OF THIS SEAT. 3 by the template 'for every input the law returns true; each argument reads behind the call as it read before'; 0 by the template 'total and deterministic' (their statements: YtibolmlnbojokaaDoorTotals.lean).
  GIVEN WITH THE SEED: the statements are not yours to turn. If you find one false, say at which input.
  Laid BY PROGRAM, IN A SANDBOX (cutbox-rows.mjs): the forced cells as the released guide's own fill.sh prints them over the translation 7dfdefd84df7aed6… (all of the seat's roots in one cut). By AI agents, Wed Nov 11 2026. No macro, syntax, notation, axiom, sorry.
-/
import Derived.Test.YtibolmlnbojokaaDoorChecked
import GoSem.Claim
import GoSem.ClaimJoined
import GoSem.ClaimMapViews
import Derived.JoinedTies
import Derived.KernelRfl
namespace Go.Proofs.YtibolmlnbojokaaDoor
/- THE CELL 'sum', in the pinned program and in every row, IS THE sha256 OF THE DUMP (.gsa) THAT YtibolmlnbojokaaDoorProg.lean LOADS. Nothing in Lean hashes anything: it is a label: what it is worth is what the hold of that sum in a sandbox is worth. -/
noncomputable def Tryd.pinned : Pinned := { name := "ytibolmlnbojokaadoor", sum := "7dfdefd84df7aed69b6abf9e371ca1e272077a8cf46249abe1ee1dd4a37cc610", checked := Tryd.checked }
namespace Rows
def none {H : Type} : Left H := { results := [], args := [] }

/- WHAT THE LISTED PACKAGE-LEVEL VARIABLES READ AS WHEN THE CALL BEGINS. Each datum BY PROGRAM (the guide's laid-datum.mjs) off the statement by which the dump's own 'gosem.cut.vars' lays the variable. In a bare row this is a premise. The card (YtibolmlnbojokaaDoorCards.lean) ties it to the program's text. -/
def laid_loop_example_bellman_impl_errExNone {H : Type} : DataW H := .iface "*errors.errorString" (.ptr (.agg [.lit (.string [110, 111, 116, 104, 105, 110, 103, 32, 116, 104, 97, 116, 32, 105, 115, 32, 108, 111, 111, 107, 101, 100, 32, 102, 111, 114])]))

/-- 'laws.FnExactExOk': WHATEVER THE INPUT: true; the input reads as it did. -/
def fnExactExOkSpec : ChangeSpec := { name := "fnExactExOk", vars := ["loop.example/bellman/impl.errExNone"], fn := fun _ => fun
  | [d, g1] => { results := [.lit (.bool true)], args := [d], vars := [g1] }
  | _ => none }
def fnExactExOkRow : OpenClaim := { program := "ytibolmlnbojokaadoor", sum := "7dfdefd84df7aed69b6abf9e371ca1e272077a8cf46249abe1ee1dd4a37cc610", func := "loop.example/bellman/laws.FnExactExOk", spec := "fnExactExOk", unfollowed := true, recurses := true, named := ["loop.example/bellman/impl.errExNone"], ifaces := true, loops := true, apart := false, laid := [("loop.example/bellman/impl.errExNone", laid_loop_example_bellman_impl_errExNone)] }
def FnExactExOkSaid : Prop := fnExactExOkRow.holds Tryd.pinned (OpenSpec.ofChange fnExactExOkSpec)

/-- ITS FALSE NEIGHBOUR: 'it returns false'. Refute it at one input. -/
def fnExactExOkWrong : ChangeSpec := { name := "fnExactExOk", vars := ["loop.example/bellman/impl.errExNone"], fn := fun _ => fun
  | [d, g1] => { results := [.lit (.bool false)], args := [d], vars := [g1] }
  | _ => none }
def FnExactExOkWrongFalsely : Prop := fnExactExOkRow.holds Tryd.pinned (OpenSpec.ofChange fnExactExOkWrong)

/-- 'laws.FnExactExMany': WHATEVER THE INPUT: true; the input reads as it did. -/
def fnExactExManySpec : ChangeSpec := { name := "fnExactExMany", vars := ["loop.example/bellman/impl.errExNone"], fn := fun _ => fun
  | [d, g1] => { results := [.lit (.bool true)], args := [d], vars := [g1] }
  | _ => none }
def fnExactExManyRow : OpenClaim := { program := "ytibolmlnbojokaadoor", sum := "7dfdefd84df7aed69b6abf9e371ca1e272077a8cf46249abe1ee1dd4a37cc610", func := "loop.example/bellman/laws.FnExactExMany", spec := "fnExactExMany", unfollowed := true, recurses := true, named := ["loop.example/bellman/impl.errExNone"], ifaces := true, loops := true, apart := false, laid := [("loop.example/bellman/impl.errExNone", laid_loop_example_bellman_impl_errExNone)] }
def FnExactExManySaid : Prop := fnExactExManyRow.holds Tryd.pinned (OpenSpec.ofChange fnExactExManySpec)

/-- ITS FALSE NEIGHBOUR: 'it returns false'. Refute it at one input. -/
def fnExactExManyWrong : ChangeSpec := { name := "fnExactExMany", vars := ["loop.example/bellman/impl.errExNone"], fn := fun _ => fun
  | [d, g1] => { results := [.lit (.bool false)], args := [d], vars := [g1] }
  | _ => none }
def FnExactExManyWrongFalsely : Prop := fnExactExManyRow.holds Tryd.pinned (OpenSpec.ofChange fnExactExManyWrong)

/-- 'laws.FnExactExSyms': WHATEVER THE INPUT: true; the input reads as it did. -/
def fnExactExSymsSpec : ChangeSpec := { name := "fnExactExSyms", vars := ["loop.example/bellman/impl.errExNone"], fn := fun _ => fun
  | [d, g1] => { results := [.lit (.bool true)], args := [d], vars := [g1] }
  | _ => none }
def fnExactExSymsRow : OpenClaim := { program := "ytibolmlnbojokaadoor", sum := "7dfdefd84df7aed69b6abf9e371ca1e272077a8cf46249abe1ee1dd4a37cc610", func := "loop.example/bellman/laws.FnExactExSyms", spec := "fnExactExSyms", unfollowed := true, recurses := true, named := ["loop.example/bellman/impl.errExNone"], ifaces := true, loops := true, apart := false, laid := [("loop.example/bellman/impl.errExNone", laid_loop_example_bellman_impl_errExNone)] }
def FnExactExSymsSaid : Prop := fnExactExSymsRow.holds Tryd.pinned (OpenSpec.ofChange fnExactExSymsSpec)

/-- ITS FALSE NEIGHBOUR: 'it returns false'. Refute it at one input. -/
def fnExactExSymsWrong : ChangeSpec := { name := "fnExactExSyms", vars := ["loop.example/bellman/impl.errExNone"], fn := fun _ => fun
  | [d, g1] => { results := [.lit (.bool false)], args := [d], vars := [g1] }
  | _ => none }
def FnExactExSymsWrongFalsely : Prop := fnExactExSymsRow.holds Tryd.pinned (OpenSpec.ofChange fnExactExSymsWrong)

/- THE SECOND FORM. 'bulk': how many values and letters a reading holds, each counted each time it is reached (what is shared counts as often as it is met; a slice's spare places count too). A statement '..UptoSaid' is the law's where the arguments, and the package variables that the reading takes, are together of bulk at most 1048576: NARROWER than '..Said'. Prove '..Said' where nothing that the law and all that it calls make is longer than what came in: it says more and counts as full. Else prove '..UptoSaid'. A law counts once. -/
mutual
def uptoBulk {H : Type} : DataW H → Nat
  | .lit (.string bytes) => bytes.length + 1
  | .lit _ => 1
  | .nil => 1
  | .ptr d => uptoBulk d + 1
  | .slice elems spare => uptoBulkAll elems + uptoBulkAll spare + 1
  | .agg parts => uptoBulkAll parts + 1
  | .iface _ d => uptoBulk d + 1
  | .map entries => uptoBulkEntries entries + 1
  | .held _ => 1
def uptoBulkAll {H : Type} : List (DataW H) → Nat
  | [] => 0
  | d :: r => uptoBulk d + uptoBulkAll r
def uptoBulkEntries {H : Type} : List (Lit × DataW H) → Nat
  | [] => 0
  | x :: r => uptoBulkEntry x + uptoBulkEntries r
def uptoBulkEntry {H : Type} : Lit × DataW H → Nat
  | (.string bytes, d) => bytes.length + uptoBulk d + 1
  | (_, d) => uptoBulk d + 1
 end
def uptoSmall : (H : Type) → List (DataW H) → Bool := fun _ ds => decide (uptoBulkAll ds ≤ 1048576)
def OpenSpec.upto (s : _root_.Go.ChangeSpec) : _root_.Go.OpenSpec := { _root_.Go.OpenSpec.ofChange s with cond := some uptoSmall }

/-- 'laws.FnExactExOk', WHERE WHAT IT READS IS OF BULK AT MOST 1048576: true; the input reads as it did. -/
def fnExactExOkUptoRow : OpenClaim := { program := "ytibolmlnbojokaadoor", sum := "7dfdefd84df7aed69b6abf9e371ca1e272077a8cf46249abe1ee1dd4a37cc610", func := "loop.example/bellman/laws.FnExactExOk", spec := "fnExactExOk", unfollowed := true, recurses := true, named := ["loop.example/bellman/impl.errExNone"], ifaces := true, loops := true, apart := false, laid := [("loop.example/bellman/impl.errExNone", laid_loop_example_bellman_impl_errExNone)], narrowed := true }
def FnExactExOkUptoSaid : Prop := fnExactExOkUptoRow.holds Tryd.pinned (OpenSpec.upto fnExactExOkSpec)

/-- 'laws.FnExactExMany', WHERE WHAT IT READS IS OF BULK AT MOST 1048576: true; the input reads as it did. -/
def fnExactExManyUptoRow : OpenClaim := { program := "ytibolmlnbojokaadoor", sum := "7dfdefd84df7aed69b6abf9e371ca1e272077a8cf46249abe1ee1dd4a37cc610", func := "loop.example/bellman/laws.FnExactExMany", spec := "fnExactExMany", unfollowed := true, recurses := true, named := ["loop.example/bellman/impl.errExNone"], ifaces := true, loops := true, apart := false, laid := [("loop.example/bellman/impl.errExNone", laid_loop_example_bellman_impl_errExNone)], narrowed := true }
def FnExactExManyUptoSaid : Prop := fnExactExManyUptoRow.holds Tryd.pinned (OpenSpec.upto fnExactExManySpec)

/-- 'laws.FnExactExSyms', WHERE WHAT IT READS IS OF BULK AT MOST 1048576: true; the input reads as it did. -/
def fnExactExSymsUptoRow : OpenClaim := { program := "ytibolmlnbojokaadoor", sum := "7dfdefd84df7aed69b6abf9e371ca1e272077a8cf46249abe1ee1dd4a37cc610", func := "loop.example/bellman/laws.FnExactExSyms", spec := "fnExactExSyms", unfollowed := true, recurses := true, named := ["loop.example/bellman/impl.errExNone"], ifaces := true, loops := true, apart := false, laid := [("loop.example/bellman/impl.errExNone", laid_loop_example_bellman_impl_errExNone)], narrowed := true }
def FnExactExSymsUptoSaid : Prop := fnExactExSymsUptoRow.holds Tryd.pinned (OpenSpec.upto fnExactExSymsSpec)

end Rows
end Go.Proofs.YtibolmlnbojokaaDoor
