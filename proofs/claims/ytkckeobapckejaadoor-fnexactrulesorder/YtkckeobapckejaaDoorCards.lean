/-
  DERIVED. GIVEN WITH THE SEED: THE CARDS: each row of YtkckeobapckejaaDoorRows.lean that lists a variable, with what it lists TIED to the program's text (the seventh form; the later family's looks); each row that meets fmt, with fmt's text TOLD by the authors' own Lean function (tested against real Go, not proved from fmt's source: count such statements apart). THE CARD IS WHAT COUNTS. Prove the row's statement (the work); the ties are given (YtkckeobapckejaaDoorTie.lean); close each card by the builder's one call (the guide's Derived/Test/ToyasCard.lean, 'card_holds'). Laid BY PROGRAM, IN A SANDBOX (cutbox-door.mjs). By AI agents, Wed Nov 11 2026. No macro, syntax, notation, axiom, sorry.
-/
import Derived.Test.YtkckeobapckejaaDoorRows
import GoSem.ClaimSeven
namespace Go.Proofs.YtkckeobapckejaaDoor
namespace Rows

/-- THE TIED CARD OF 'laws.FnExactRuleOk'. -/
def fnExactRuleOkCard : Claim7 := { stood := { row := fnExactRuleOkRow, standIns := [], harness := (true, "f9b3fe662986b8c001fcc46e6f4737e2ee812a950e598b09af152e0387a0e07a"), looks := false }, kinds := [], alts := [], laidByText := true, laidKinds := [.sentinel], laidTests := true, laidLooks := .later }
def FnExactRuleOkCardSaid : Prop := Claim7.holds Tryd.pinned (.plain (OpenSpec.ofChange fnExactRuleOkSpec)) fnExactRuleOkCard

/-- THE TIED CARD OF 'laws.FnExactRulesOk'. -/
def fnExactRulesOkCard : Claim7 := { stood := { row := fnExactRulesOkRow, standIns := [], harness := (true, "f9b3fe662986b8c001fcc46e6f4737e2ee812a950e598b09af152e0387a0e07a"), looks := false }, kinds := [], alts := [], laidByText := true, laidKinds := [.sentinel], laidTests := true, laidLooks := .later }
def FnExactRulesOkCardSaid : Prop := Claim7.holds Tryd.pinned (.plain (OpenSpec.ofChange fnExactRulesOkSpec)) fnExactRulesOkCard

/-- THE TIED CARD OF 'laws.FnExactRulesOrder'. -/
def fnExactRulesOrderCard : Claim7 := { stood := { row := fnExactRulesOrderRow, standIns := [], harness := (true, "f9b3fe662986b8c001fcc46e6f4737e2ee812a950e598b09af152e0387a0e07a"), looks := false }, kinds := [], alts := [], laidByText := true, laidKinds := [.sentinel], laidTests := true, laidLooks := .later }
def FnExactRulesOrderCardSaid : Prop := Claim7.holds Tryd.pinned (.plain (OpenSpec.ofChange fnExactRulesOrderSpec)) fnExactRulesOrderCard

/-- THE SECOND FORM's CARD OF 'laws.FnExactRuleOk'. -/
def fnExactRuleOkUptoCard : Claim7 := { stood := { row := fnExactRuleOkUptoRow, standIns := [], harness := (true, "f9b3fe662986b8c001fcc46e6f4737e2ee812a950e598b09af152e0387a0e07a"), looks := false }, kinds := [], alts := [], laidByText := true, laidKinds := [.sentinel], laidTests := true, laidLooks := .later }
def FnExactRuleOkUptoCardSaid : Prop := Claim7.holds Tryd.pinned (.plain (OpenSpec.upto fnExactRuleOkSpec)) fnExactRuleOkUptoCard

/-- THE SECOND FORM's CARD OF 'laws.FnExactRulesOk'. -/
def fnExactRulesOkUptoCard : Claim7 := { stood := { row := fnExactRulesOkUptoRow, standIns := [], harness := (true, "f9b3fe662986b8c001fcc46e6f4737e2ee812a950e598b09af152e0387a0e07a"), looks := false }, kinds := [], alts := [], laidByText := true, laidKinds := [.sentinel], laidTests := true, laidLooks := .later }
def FnExactRulesOkUptoCardSaid : Prop := Claim7.holds Tryd.pinned (.plain (OpenSpec.upto fnExactRulesOkSpec)) fnExactRulesOkUptoCard

/-- THE SECOND FORM's CARD OF 'laws.FnExactRulesOrder'. -/
def fnExactRulesOrderUptoCard : Claim7 := { stood := { row := fnExactRulesOrderUptoRow, standIns := [], harness := (true, "f9b3fe662986b8c001fcc46e6f4737e2ee812a950e598b09af152e0387a0e07a"), looks := false }, kinds := [], alts := [], laidByText := true, laidKinds := [.sentinel], laidTests := true, laidLooks := .later }
def FnExactRulesOrderUptoCardSaid : Prop := Claim7.holds Tryd.pinned (.plain (OpenSpec.upto fnExactRulesOrderSpec)) fnExactRulesOrderUptoCard
end Rows
end Go.Proofs.YtkckeobapckejaaDoor
