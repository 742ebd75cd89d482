/-
  DERIVED. GIVEN WITH THE SEED: THE CARDS: each row of YtohijenlcfkliaaDoorRows.lean that lists a variable, with what it lists TIED to the program's text (the seventh form; the later family's looks); each row that meets fmt, with fmt's text TOLD by the authors' own Lean function (tested against real Go, not proved from fmt's source: count such statements apart). THE CARD IS WHAT COUNTS. Prove the row's statement (the work); the ties are given (YtohijenlcfkliaaDoorTie.lean); close each card by the builder's one call (the guide's Derived/Test/ToyasCard.lean, 'card_holds'). Laid BY PROGRAM, IN A SANDBOX (cutbox-door.mjs). By AI agents, Wed Nov 11 2026. No macro, syntax, notation, axiom, sorry.
-/
import Derived.Test.YtohijenlcfkliaaDoorRows
import GoSem.ClaimSeven
namespace Go.Proofs.YtohijenlcfkliaaDoor
namespace Rows

/-- THE TIED CARD OF 'laws.FnRules'. -/
def fnRulesCard : Claim7 := { stood := { row := fnRulesRow, standIns := [], harness := (true, "9ac883e09226b5781db11fc59adc3f14299d2f278ba2a3e0846de85c03f094a2"), looks := false }, kinds := [], alts := [], laidByText := true, laidKinds := [.sentinel], laidTests := true, laidLooks := .later }
def FnRulesCardSaid : Prop := Claim7.holds Tryd.pinned (.plain (OpenSpec.ofChange fnRulesSpec)) fnRulesCard

/-- THE TIED CARD OF 'laws.FnRuleBent'. -/
def fnRuleBentCard : Claim7 := { stood := { row := fnRuleBentRow, standIns := [], harness := (true, "9ac883e09226b5781db11fc59adc3f14299d2f278ba2a3e0846de85c03f094a2"), looks := false }, kinds := [], alts := [], laidByText := true, laidKinds := [.data, .data, .data, .sentinel], laidTests := true, laidLooks := .later }
def FnRuleBentCardSaid : Prop := Claim7.holds Tryd.pinned (.plain (OpenSpec.ofChange fnRuleBentSpec)) fnRuleBentCard

/-- THE SECOND FORM's CARD OF 'laws.FnRules'. -/
def fnRulesUptoCard : Claim7 := { stood := { row := fnRulesUptoRow, standIns := [], harness := (true, "9ac883e09226b5781db11fc59adc3f14299d2f278ba2a3e0846de85c03f094a2"), looks := false }, kinds := [], alts := [], laidByText := true, laidKinds := [.sentinel], laidTests := true, laidLooks := .later }
def FnRulesUptoCardSaid : Prop := Claim7.holds Tryd.pinned (.plain (OpenSpec.upto fnRulesSpec)) fnRulesUptoCard

/-- THE SECOND FORM's CARD OF 'laws.FnRuleBent'. -/
def fnRuleBentUptoCard : Claim7 := { stood := { row := fnRuleBentUptoRow, standIns := [], harness := (true, "9ac883e09226b5781db11fc59adc3f14299d2f278ba2a3e0846de85c03f094a2"), looks := false }, kinds := [], alts := [], laidByText := true, laidKinds := [.data, .data, .data, .sentinel], laidTests := true, laidLooks := .later }
def FnRuleBentUptoCardSaid : Prop := Claim7.holds Tryd.pinned (.plain (OpenSpec.upto fnRuleBentSpec)) fnRuleBentUptoCard
end Rows
end Go.Proofs.YtohijenlcfkliaaDoor
