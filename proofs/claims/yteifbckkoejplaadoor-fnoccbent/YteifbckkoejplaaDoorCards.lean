/-
  DERIVED. GIVEN WITH THE SEED: THE CARDS: each row of YteifbckkoejplaaDoorRows.lean that lists a variable, with what it lists TIED to the program's text (the seventh form; the later family's looks); each row that meets fmt, with fmt's text TOLD by the authors' own Lean function (tested against real Go, not proved from fmt's source: count such statements apart). THE CARD IS WHAT COUNTS. Prove the row's statement (the work); the ties are given (YteifbckkoejplaaDoorTie.lean); close each card by the builder's one call (the guide's Derived/Test/ToyasCard.lean, 'card_holds'). Laid BY PROGRAM, IN A SANDBOX (cutbox-door.mjs). By AI agents, Wed Nov 11 2026. No macro, syntax, notation, axiom, sorry.
-/
import Derived.Test.YteifbckkoejplaaDoorRows
import GoSem.ClaimSeven
namespace Go.Proofs.YteifbckkoejplaaDoor
namespace Rows

/-- THE TIED CARD OF 'laws.FnOccBent'. -/
def fnOccBentCard : Claim7 := { stood := { row := fnOccBentRow, standIns := [], harness := (true, "f7da5ebde01fcac91c934a22c8e4d2c940895899a2f2aca410002bc10e3104b5"), looks := false }, kinds := [], alts := [], laidByText := true, laidKinds := [.data], laidTests := true, laidLooks := .later }
def FnOccBentCardSaid : Prop := Claim7.holds Tryd.pinned (.plain (OpenSpec.ofChange fnOccBentSpec)) fnOccBentCard

/-- THE SECOND FORM's CARD OF 'laws.FnOccBent'. -/
def fnOccBentUptoCard : Claim7 := { stood := { row := fnOccBentUptoRow, standIns := [], harness := (true, "f7da5ebde01fcac91c934a22c8e4d2c940895899a2f2aca410002bc10e3104b5"), looks := false }, kinds := [], alts := [], laidByText := true, laidKinds := [.data], laidTests := true, laidLooks := .later }
def FnOccBentUptoCardSaid : Prop := Claim7.holds Tryd.pinned (.plain (OpenSpec.upto fnOccBentSpec)) fnOccBentUptoCard
end Rows
end Go.Proofs.YteifbckkoejplaaDoor
