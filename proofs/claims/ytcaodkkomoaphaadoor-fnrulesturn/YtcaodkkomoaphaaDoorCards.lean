/-
  DERIVED. GIVEN WITH THE SEED: THE CARDS: each row of YtcaodkkomoaphaaDoorRows.lean that lists a variable, with what it lists TIED to the program's text (the seventh form; the later family's looks); each row that meets fmt, with fmt's text TOLD by the authors' own Lean function (tested against real Go, not proved from fmt's source: count such statements apart). THE CARD IS WHAT COUNTS. Prove the row's statement (the work); the ties are given (YtcaodkkomoaphaaDoorTie.lean); close each card by the builder's one call (the guide's Derived/Test/ToyasCard.lean, 'card_holds'). Laid BY PROGRAM, IN A SANDBOX (cutbox-door.mjs). By AI agents, Wed Nov 11 2026. No macro, syntax, notation, axiom, sorry.
-/
import Derived.Test.YtcaodkkomoaphaaDoorRows
import GoSem.ClaimSeven
namespace Go.Proofs.YtcaodkkomoaphaaDoor
namespace Rows

/-- THE TIED CARD OF 'laws.FnRulesTurn'. -/
def fnRulesTurnCard : Claim7 := { stood := { row := fnRulesTurnRow, standIns := [], harness := (true, "31c981f044eaabeb117da3e94dd9bff97e9f98d132951d93e338c717b69b9b16"), looks := false }, kinds := [], alts := [], laidByText := true, laidKinds := [.sentinel], laidTests := true, laidLooks := .later }
def FnRulesTurnCardSaid : Prop := Claim7.holds Tryd.pinned (.plain (OpenSpec.ofChange fnRulesTurnSpec)) fnRulesTurnCard

/-- THE SECOND FORM's CARD OF 'laws.FnRulesTurn'. -/
def fnRulesTurnUptoCard : Claim7 := { stood := { row := fnRulesTurnUptoRow, standIns := [], harness := (true, "31c981f044eaabeb117da3e94dd9bff97e9f98d132951d93e338c717b69b9b16"), looks := false }, kinds := [], alts := [], laidByText := true, laidKinds := [.sentinel], laidTests := true, laidLooks := .later }
def FnRulesTurnUptoCardSaid : Prop := Claim7.holds Tryd.pinned (.plain (OpenSpec.upto fnRulesTurnSpec)) fnRulesTurnUptoCard
end Rows
end Go.Proofs.YtcaodkkomoaphaaDoor
