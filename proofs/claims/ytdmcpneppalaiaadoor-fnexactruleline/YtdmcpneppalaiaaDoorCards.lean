/-
  DERIVED. GIVEN WITH THE SEED: THE CARDS: each row of YtdmcpneppalaiaaDoorRows.lean that lists a variable, with what it lists TIED to the program's text (the seventh form; the later family's looks); each row that meets fmt, with fmt's text TOLD by the authors' own Lean function (tested against real Go, not proved from fmt's source: count such statements apart). THE CARD IS WHAT COUNTS. Prove the row's statement (the work); the ties are given (YtdmcpneppalaiaaDoorTie.lean); close each card by the builder's one call (the guide's Derived/Test/ToyasCard.lean, 'card_holds'). Laid BY PROGRAM, IN A SANDBOX (cutbox-door.mjs). By AI agents, Wed Nov 11 2026. No macro, syntax, notation, axiom, sorry.
-/
import Derived.Test.YtdmcpneppalaiaaDoorRows
import GoSem.ClaimSeven
namespace Go.Proofs.YtdmcpneppalaiaaDoor
namespace Rows

/-- THE TIED CARD OF 'laws.FnExactRuleLine'. -/
def fnExactRuleLineCard : Claim7 := { stood := { row := fnExactRuleLineRow, standIns := [], harness := (true, "078b83dd49d29f081d09ffbadc4ef3661cee0ae3246409697ada87d2d70fe47c"), looks := false }, kinds := [], alts := [], laidByText := true, laidKinds := [.data, .data, .data, .sentinel], laidTests := true, laidLooks := .later }
def FnExactRuleLineCardSaid : Prop := Claim7.holds Tryd.pinned (.plain (OpenSpec.ofChange fnExactRuleLineSpec)) fnExactRuleLineCard

/-- THE SECOND FORM's CARD OF 'laws.FnExactRuleLine'. -/
def fnExactRuleLineUptoCard : Claim7 := { stood := { row := fnExactRuleLineUptoRow, standIns := [], harness := (true, "078b83dd49d29f081d09ffbadc4ef3661cee0ae3246409697ada87d2d70fe47c"), looks := false }, kinds := [], alts := [], laidByText := true, laidKinds := [.data, .data, .data, .sentinel], laidTests := true, laidLooks := .later }
def FnExactRuleLineUptoCardSaid : Prop := Claim7.holds Tryd.pinned (.plain (OpenSpec.upto fnExactRuleLineSpec)) fnExactRuleLineUptoCard
end Rows
end Go.Proofs.YtdmcpneppalaiaaDoor
