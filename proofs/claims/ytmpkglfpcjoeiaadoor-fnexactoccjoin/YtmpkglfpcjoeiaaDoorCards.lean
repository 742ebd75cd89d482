/-
  DERIVED. GIVEN WITH THE SEED: THE CARDS: each row of YtmpkglfpcjoeiaaDoorRows.lean that lists a variable, with what it lists TIED to the program's text (the seventh form; the later family's looks); each row that meets fmt, with fmt's text TOLD by the authors' own Lean function (tested against real Go, not proved from fmt's source: count such statements apart). THE CARD IS WHAT COUNTS. Prove the row's statement (the work); the ties are given (YtmpkglfpcjoeiaaDoorTie.lean); close each card by the builder's one call (the guide's Derived/Test/ToyasCard.lean, 'card_holds'). Laid BY PROGRAM, IN A SANDBOX (cutbox-door.mjs). By AI agents, Wed Nov 11 2026. No macro, syntax, notation, axiom, sorry.
-/
import Derived.Test.YtmpkglfpcjoeiaaDoorRows
import GoSem.ClaimSeven
namespace Go.Proofs.YtmpkglfpcjoeiaaDoor
namespace Rows

/-- THE TIED CARD OF 'laws.FnExactOccJoin'. -/
def fnExactOccJoinCard : Claim7 := { stood := { row := fnExactOccJoinRow, standIns := [], harness := (true, "ec57c3ab18bc514f45e1579eee745e980dfa8cd9e9aecb142ae6913860f34122"), looks := false }, kinds := [], alts := [], laidByText := true, laidKinds := [.data], laidTests := true, laidLooks := .later }
def FnExactOccJoinCardSaid : Prop := Claim7.holds Tryd.pinned (.plain (OpenSpec.ofChange fnExactOccJoinSpec)) fnExactOccJoinCard

/-- THE SECOND FORM's CARD OF 'laws.FnExactOccJoin'. -/
def fnExactOccJoinUptoCard : Claim7 := { stood := { row := fnExactOccJoinUptoRow, standIns := [], harness := (true, "ec57c3ab18bc514f45e1579eee745e980dfa8cd9e9aecb142ae6913860f34122"), looks := false }, kinds := [], alts := [], laidByText := true, laidKinds := [.data], laidTests := true, laidLooks := .later }
def FnExactOccJoinUptoCardSaid : Prop := Claim7.holds Tryd.pinned (.plain (OpenSpec.upto fnExactOccJoinSpec)) fnExactOccJoinUptoCard
end Rows
end Go.Proofs.YtmpkglfpcjoeiaaDoor
