/-
  DERIVED. GIVEN WITH THE SEED: THE CARDS: each row of YtlopjljmnadhcaaDoorRows.lean that lists a variable, with what it lists TIED to the program's text (the seventh form; the later family's looks); each row that meets fmt, with fmt's text TOLD by the authors' own Lean function (tested against real Go, not proved from fmt's source: count such statements apart). THE CARD IS WHAT COUNTS. Prove the row's statement (the work); the ties are given (YtlopjljmnadhcaaDoorTie.lean); close each card by the builder's one call (the guide's Derived/Test/ToyasCard.lean, 'card_holds'). Laid BY PROGRAM, IN A SANDBOX (cutbox-door.mjs). By AI agents, Wed Nov 11 2026. No macro, syntax, notation, axiom, sorry.
-/
import Derived.Test.YtlopjljmnadhcaaDoorRows
import GoSem.ClaimSeven
namespace Go.Proofs.YtlopjljmnadhcaaDoor
namespace Rows

/-- THE TIED CARD OF 'laws.FnExactGraphOf'. -/
def fnExactGraphOfCard : Claim7 := { stood := { row := fnExactGraphOfRow, standIns := [], harness := (true, "e0da085d9a33239ee35e27ce541dce32c7c6da8c880d4e6322c671f2dff7704a"), looks := false }, kinds := [], alts := [], laidByText := true, laidKinds := [.sentinel], laidTests := true, laidLooks := .later }
def FnExactGraphOfCardSaid : Prop := Claim7.holds Tryd.pinned (.plain (OpenSpec.ofChange fnExactGraphOfSpec)) fnExactGraphOfCard

/-- THE TIED CARD OF 'laws.FnExactGraphMany'. -/
def fnExactGraphManyCard : Claim7 := { stood := { row := fnExactGraphManyRow, standIns := [], harness := (true, "e0da085d9a33239ee35e27ce541dce32c7c6da8c880d4e6322c671f2dff7704a"), looks := false }, kinds := [], alts := [], laidByText := true, laidKinds := [.sentinel], laidTests := true, laidLooks := .later }
def FnExactGraphManyCardSaid : Prop := Claim7.holds Tryd.pinned (.plain (OpenSpec.ofChange fnExactGraphManySpec)) fnExactGraphManyCard

/-- THE SECOND FORM's CARD OF 'laws.FnExactGraphOf'. -/
def fnExactGraphOfUptoCard : Claim7 := { stood := { row := fnExactGraphOfUptoRow, standIns := [], harness := (true, "e0da085d9a33239ee35e27ce541dce32c7c6da8c880d4e6322c671f2dff7704a"), looks := false }, kinds := [], alts := [], laidByText := true, laidKinds := [.sentinel], laidTests := true, laidLooks := .later }
def FnExactGraphOfUptoCardSaid : Prop := Claim7.holds Tryd.pinned (.plain (OpenSpec.upto fnExactGraphOfSpec)) fnExactGraphOfUptoCard

/-- THE SECOND FORM's CARD OF 'laws.FnExactGraphMany'. -/
def fnExactGraphManyUptoCard : Claim7 := { stood := { row := fnExactGraphManyUptoRow, standIns := [], harness := (true, "e0da085d9a33239ee35e27ce541dce32c7c6da8c880d4e6322c671f2dff7704a"), looks := false }, kinds := [], alts := [], laidByText := true, laidKinds := [.sentinel], laidTests := true, laidLooks := .later }
def FnExactGraphManyUptoCardSaid : Prop := Claim7.holds Tryd.pinned (.plain (OpenSpec.upto fnExactGraphManySpec)) fnExactGraphManyUptoCard
end Rows
end Go.Proofs.YtlopjljmnadhcaaDoor
