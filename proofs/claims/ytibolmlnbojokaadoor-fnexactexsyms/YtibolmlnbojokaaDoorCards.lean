/-
  DERIVED. GIVEN WITH THE SEED: THE CARDS: each row of YtibolmlnbojokaaDoorRows.lean that lists a variable, with what it lists TIED to the program's text (the seventh form; the later family's looks); each row that meets fmt, with fmt's text TOLD by the authors' own Lean function (tested against real Go, not proved from fmt's source: count such statements apart). THE CARD IS WHAT COUNTS. Prove the row's statement (the work); the ties are given (YtibolmlnbojokaaDoorTie.lean); close each card by the builder's one call (the guide's Derived/Test/ToyasCard.lean, 'card_holds'). Laid BY PROGRAM, IN A SANDBOX (cutbox-door.mjs). By AI agents, Wed Nov 11 2026. No macro, syntax, notation, axiom, sorry.
-/
import Derived.Test.YtibolmlnbojokaaDoorRows
import GoSem.ClaimSeven
namespace Go.Proofs.YtibolmlnbojokaaDoor
namespace Rows

/-- THE TIED CARD OF 'laws.FnExactExOk'. -/
def fnExactExOkCard : Claim7 := { stood := { row := fnExactExOkRow, standIns := [], harness := (true, "ecfbb06eb129fb0d2ce3e1c5df64867774ec637371e96ba3fec3b7029aec0742"), looks := false }, kinds := [], alts := [], laidByText := true, laidKinds := [.sentinel], laidTests := true, laidLooks := .later }
def FnExactExOkCardSaid : Prop := Claim7.holds Tryd.pinned (.plain (OpenSpec.ofChange fnExactExOkSpec)) fnExactExOkCard

/-- THE TIED CARD OF 'laws.FnExactExMany'. -/
def fnExactExManyCard : Claim7 := { stood := { row := fnExactExManyRow, standIns := [], harness := (true, "ecfbb06eb129fb0d2ce3e1c5df64867774ec637371e96ba3fec3b7029aec0742"), looks := false }, kinds := [], alts := [], laidByText := true, laidKinds := [.sentinel], laidTests := true, laidLooks := .later }
def FnExactExManyCardSaid : Prop := Claim7.holds Tryd.pinned (.plain (OpenSpec.ofChange fnExactExManySpec)) fnExactExManyCard

/-- THE TIED CARD OF 'laws.FnExactExSyms'. -/
def fnExactExSymsCard : Claim7 := { stood := { row := fnExactExSymsRow, standIns := [], harness := (true, "ecfbb06eb129fb0d2ce3e1c5df64867774ec637371e96ba3fec3b7029aec0742"), looks := false }, kinds := [], alts := [], laidByText := true, laidKinds := [.sentinel], laidTests := true, laidLooks := .later }
def FnExactExSymsCardSaid : Prop := Claim7.holds Tryd.pinned (.plain (OpenSpec.ofChange fnExactExSymsSpec)) fnExactExSymsCard

/-- THE SECOND FORM's CARD OF 'laws.FnExactExOk'. -/
def fnExactExOkUptoCard : Claim7 := { stood := { row := fnExactExOkUptoRow, standIns := [], harness := (true, "ecfbb06eb129fb0d2ce3e1c5df64867774ec637371e96ba3fec3b7029aec0742"), looks := false }, kinds := [], alts := [], laidByText := true, laidKinds := [.sentinel], laidTests := true, laidLooks := .later }
def FnExactExOkUptoCardSaid : Prop := Claim7.holds Tryd.pinned (.plain (OpenSpec.upto fnExactExOkSpec)) fnExactExOkUptoCard

/-- THE SECOND FORM's CARD OF 'laws.FnExactExMany'. -/
def fnExactExManyUptoCard : Claim7 := { stood := { row := fnExactExManyUptoRow, standIns := [], harness := (true, "ecfbb06eb129fb0d2ce3e1c5df64867774ec637371e96ba3fec3b7029aec0742"), looks := false }, kinds := [], alts := [], laidByText := true, laidKinds := [.sentinel], laidTests := true, laidLooks := .later }
def FnExactExManyUptoCardSaid : Prop := Claim7.holds Tryd.pinned (.plain (OpenSpec.upto fnExactExManySpec)) fnExactExManyUptoCard

/-- THE SECOND FORM's CARD OF 'laws.FnExactExSyms'. -/
def fnExactExSymsUptoCard : Claim7 := { stood := { row := fnExactExSymsUptoRow, standIns := [], harness := (true, "ecfbb06eb129fb0d2ce3e1c5df64867774ec637371e96ba3fec3b7029aec0742"), looks := false }, kinds := [], alts := [], laidByText := true, laidKinds := [.sentinel], laidTests := true, laidLooks := .later }
def FnExactExSymsUptoCardSaid : Prop := Claim7.holds Tryd.pinned (.plain (OpenSpec.upto fnExactExSymsSpec)) fnExactExSymsUptoCard
end Rows
end Go.Proofs.YtibolmlnbojokaaDoor
