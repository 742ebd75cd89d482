/-
  DERIVED. GIVEN WITH THE SEED: THE CARDS: each row of YtlleodhecnmdoaaDoorRows.lean that lists a variable, with what it lists TIED to the program's text (the seventh form; the later family's looks); each row that meets fmt, with fmt's text TOLD by the authors' own Lean function (tested against real Go, not proved from fmt's source: count such statements apart). THE CARD IS WHAT COUNTS. Prove the row's statement (the work); the ties are given (YtlleodhecnmdoaaDoorTie.lean); close each card by the builder's one call (the guide's Derived/Test/ToyasCard.lean, 'card_holds'). Laid BY PROGRAM, IN A SANDBOX (cutbox-door.mjs). By AI agents, Wed Nov 11 2026. No macro, syntax, notation, axiom, sorry.
-/
import Derived.Test.YtlleodhecnmdoaaDoorRows
import GoSem.ClaimSeven
namespace Go.Proofs.YtlleodhecnmdoaaDoor
namespace Rows

/-- THE TIED CARD OF 'laws.FnExactOccsText'. -/
def fnExactOccsTextCard : Claim7 := { stood := { row := fnExactOccsTextRow, standIns := [], harness := (true, "3535610ff66180543afdbc9827f99d9bcef41ce8b4cdc96455ba31dc817c759c"), looks := false }, kinds := [], alts := [], laidByText := true, laidKinds := [.data, .data, .data], laidTests := true, laidLooks := .later }
def FnExactOccsTextCardSaid : Prop := Claim7.holds Tryd.pinned (.plain (OpenSpec.ofChange fnExactOccsTextSpec)) fnExactOccsTextCard

/-- THE SECOND FORM's CARD OF 'laws.FnExactOccsText'. -/
def fnExactOccsTextUptoCard : Claim7 := { stood := { row := fnExactOccsTextUptoRow, standIns := [], harness := (true, "3535610ff66180543afdbc9827f99d9bcef41ce8b4cdc96455ba31dc817c759c"), looks := false }, kinds := [], alts := [], laidByText := true, laidKinds := [.data, .data, .data], laidTests := true, laidLooks := .later }
def FnExactOccsTextUptoCardSaid : Prop := Claim7.holds Tryd.pinned (.plain (OpenSpec.upto fnExactOccsTextSpec)) fnExactOccsTextUptoCard
end Rows
end Go.Proofs.YtlleodhecnmdoaaDoor
