/-
  NARROWER THAN 'FOR EVERY INPUT', by the rows' own cells (each row's printed sentence says how): FnExBent: ifaces, laid · FnExMany: ifaces, laid.
  DERIVED. THE GIVEN ROWS OF THIS SEAT. 2 by the template 'for every input the law returns true; each argument reads behind the call as it read before'; 0 by the template 'total and deterministic' (their statements: YtpokhhplgljmiaaDoorTotals.lean).
  GIVEN WITH THE SEED: the statements are not yours to turn. If you find one false, say at which input.
  Laid BY PROGRAM, IN A SANDBOX (cutbox-rows.mjs): the forced cells as the released guide's own fill.sh prints them over the translation e550b0d6356215a2… (all of the seat's roots in one cut). By AI agents, Wed Nov 11 2026. No macro, syntax, notation, axiom, sorry.
-/
import Derived.Test.YtpokhhplgljmiaaDoorChecked
import GoSem.Claim
import GoSem.ClaimJoined
import GoSem.ClaimMapViews
import Derived.JoinedTies
import Derived.KernelRfl
namespace Go.Proofs.YtpokhhplgljmiaaDoor
/- THE CELL 'sum', in the pinned program and in every row, IS THE sha256 OF THE DUMP (.gsa) THAT YtpokhhplgljmiaaDoorProg.lean LOADS. Nothing in Lean hashes anything: it is a label: what it is worth is what the hold of that sum in a sandbox is worth. -/
noncomputable def Tryd.pinned : Pinned := { name := "ytpokhhplgljmiaadoor", sum := "e550b0d6356215a2f148edf69aebb9ea603cd1d43a9ceadbf82d34531daedeb9", checked := Tryd.checked }
namespace Rows
def none {H : Type} : Left H := { results := [], args := [] }

/- WHAT THE LISTED PACKAGE-LEVEL VARIABLES READ AS WHEN THE CALL BEGINS. Each datum BY PROGRAM (the guide's laid-datum.mjs) off the statement by which the dump's own 'gosem.cut.vars' lays the variable. In a bare row this is a premise. The card (YtpokhhplgljmiaaDoorCards.lean) ties it to the program's text. -/
def laid_loop_example_bellman_impl_errExNone {H : Type} : DataW H := .iface "*errors.errorString" (.ptr (.agg [.lit (.string [110, 111, 116, 104, 105, 110, 103, 32, 116, 104, 97, 116, 32, 105, 115, 32, 108, 111, 111, 107, 101, 100, 32, 102, 111, 114])]))

/-- 'laws.FnExBent': WHATEVER THE INPUT: true; the input reads as it did. -/
def fnExBentSpec : ChangeSpec := { name := "fnExBent", vars := ["loop.example/bellman/impl.errExNone"], fn := fun _ => fun
  | [d, g1] => { results := [.lit (.bool true)], args := [d], vars := [g1] }
  | _ => none }
def fnExBentRow : OpenClaim := { program := "ytpokhhplgljmiaadoor", sum := "e550b0d6356215a2f148edf69aebb9ea603cd1d43a9ceadbf82d34531daedeb9", func := "loop.example/bellman/laws.FnExBent", spec := "fnExBent", inPlace := ["internal/abi.NoEscape", "internal/bytealg.MakeNoZero"], unfollowed := true, recurses := true, named := ["loop.example/bellman/impl.errExNone"], ifaces := true, plainKeys := false, apart := false, laid := [("loop.example/bellman/impl.errExNone", laid_loop_example_bellman_impl_errExNone)] }
def FnExBentSaid : Prop := fnExBentRow.holds Tryd.pinned (OpenSpec.ofChange fnExBentSpec)

/-- ITS FALSE NEIGHBOUR: 'it returns false'. Refute it at one input. -/
def fnExBentWrong : ChangeSpec := { name := "fnExBent", vars := ["loop.example/bellman/impl.errExNone"], fn := fun _ => fun
  | [d, g1] => { results := [.lit (.bool false)], args := [d], vars := [g1] }
  | _ => none }
def FnExBentWrongFalsely : Prop := fnExBentRow.holds Tryd.pinned (OpenSpec.ofChange fnExBentWrong)

/-- 'laws.FnExMany': WHATEVER THE INPUT: true; the input reads as it did. -/
def fnExManySpec : ChangeSpec := { name := "fnExMany", vars := ["loop.example/bellman/impl.errExNone"], fn := fun _ => fun
  | [d, g1] => { results := [.lit (.bool true)], args := [d], vars := [g1] }
  | _ => none }
def fnExManyRow : OpenClaim := { program := "ytpokhhplgljmiaadoor", sum := "e550b0d6356215a2f148edf69aebb9ea603cd1d43a9ceadbf82d34531daedeb9", func := "loop.example/bellman/laws.FnExMany", spec := "fnExMany", unfollowed := true, recurses := true, named := ["loop.example/bellman/impl.errExNone"], ifaces := true, plainKeys := false, apart := false, laid := [("loop.example/bellman/impl.errExNone", laid_loop_example_bellman_impl_errExNone)] }
def FnExManySaid : Prop := fnExManyRow.holds Tryd.pinned (OpenSpec.ofChange fnExManySpec)

/-- ITS FALSE NEIGHBOUR: 'it returns false'. Refute it at one input. -/
def fnExManyWrong : ChangeSpec := { name := "fnExMany", vars := ["loop.example/bellman/impl.errExNone"], fn := fun _ => fun
  | [d, g1] => { results := [.lit (.bool false)], args := [d], vars := [g1] }
  | _ => none }
def FnExManyWrongFalsely : Prop := fnExManyRow.holds Tryd.pinned (OpenSpec.ofChange fnExManyWrong)

/- THE SECOND FORM. 'bulk': how many values and letters a reading holds, each counted each time it is reached (what is shared counts as often as it is met; a slice's spare places count too). A statement '..UptoSaid' is the law's where the arguments, and the package variables that the reading takes, are together of bulk at most 1048576: NARROWER than '..Said'. Prove '..Said' where nothing that the law and all that it calls make is longer than what came in: it says more and counts as full. Else prove '..UptoSaid'. A law counts once. -/
mutual
def uptoBulk {H : Type} : DataW H → Nat
  | .lit (.string bytes) => bytes.length + 1
  | .lit _ => 1
  | .nil => 1
  | .ptr d => uptoBulk d + 1
  | .slice elems spare => uptoBulkAll elems + uptoBulkAll spare + 1
  | .agg parts => uptoBulkAll parts + 1
  | .iface _ d => uptoBulk d + 1
  | .map entries => uptoBulkEntries entries + 1
  | .held _ => 1
def uptoBulkAll {H : Type} : List (DataW H) → Nat
  | [] => 0
  | d :: r => uptoBulk d + uptoBulkAll r
def uptoBulkEntries {H : Type} : List (Lit × DataW H) → Nat
  | [] => 0
  | x :: r => uptoBulkEntry x + uptoBulkEntries r
def uptoBulkEntry {H : Type} : Lit × DataW H → Nat
  | (.string bytes, d) => bytes.length + uptoBulk d + 1
  | (_, d) => uptoBulk d + 1
 end
def uptoSmall : (H : Type) → List (DataW H) → Bool := fun _ ds => decide (uptoBulkAll ds ≤ 1048576)
def OpenSpec.upto (s : _root_.Go.ChangeSpec) : _root_.Go.OpenSpec := { _root_.Go.OpenSpec.ofChange s with cond := some uptoSmall }

/-- 'laws.FnExBent', WHERE WHAT IT READS IS OF BULK AT MOST 1048576: true; the input reads as it did. -/
def fnExBentUptoRow : OpenClaim := { program := "ytpokhhplgljmiaadoor", sum := "e550b0d6356215a2f148edf69aebb9ea603cd1d43a9ceadbf82d34531daedeb9", func := "loop.example/bellman/laws.FnExBent", spec := "fnExBent", inPlace := ["internal/abi.NoEscape", "internal/bytealg.MakeNoZero"], unfollowed := true, recurses := true, named := ["loop.example/bellman/impl.errExNone"], ifaces := true, plainKeys := false, apart := false, laid := [("loop.example/bellman/impl.errExNone", laid_loop_example_bellman_impl_errExNone)], narrowed := true }
def FnExBentUptoSaid : Prop := fnExBentUptoRow.holds Tryd.pinned (OpenSpec.upto fnExBentSpec)

/-- 'laws.FnExMany', WHERE WHAT IT READS IS OF BULK AT MOST 1048576: true; the input reads as it did. -/
def fnExManyUptoRow : OpenClaim := { program := "ytpokhhplgljmiaadoor", sum := "e550b0d6356215a2f148edf69aebb9ea603cd1d43a9ceadbf82d34531daedeb9", func := "loop.example/bellman/laws.FnExMany", spec := "fnExMany", unfollowed := true, recurses := true, named := ["loop.example/bellman/impl.errExNone"], ifaces := true, plainKeys := false, apart := false, laid := [("loop.example/bellman/impl.errExNone", laid_loop_example_bellman_impl_errExNone)], narrowed := true }
def FnExManyUptoSaid : Prop := fnExManyUptoRow.holds Tryd.pinned (OpenSpec.upto fnExManySpec)

end Rows
end Go.Proofs.YtpokhhplgljmiaaDoor
