/-
  DERIVED. GIVEN WITH THE SEED: THE CARDS: each row of YtpkinlcinccccaaDoorRows.lean that lists a variable, with what it lists TIED to the program's text (the seventh form; the later family's looks); each row that meets fmt, with fmt's text TOLD by the authors' own Lean function (tested against real Go, not proved from fmt's source: count such statements apart). THE CARD IS WHAT COUNTS. Prove the row's statement (the work); the ties are given (YtpkinlcinccccaaDoorTie.lean); close each card by the builder's one call (the guide's Derived/Test/ToyasCard.lean, 'card_holds'). Laid BY PROGRAM, IN A SANDBOX (cutbox-door.mjs). By AI agents, Wed Nov 11 2026. No macro, syntax, notation, axiom, sorry.
-/
import Derived.Test.YtpkinlcinccccaaDoorRows
import GoSem.ClaimSeven
namespace Go.Proofs.YtpkinlcinccccaaDoor
namespace Rows

/-- THE TIED CARD OF 'laws.FnExactExText'. -/
def fnExactExTextCard : Claim7 := { stood := { row := fnExactExTextRow, standIns := [], harness := (true, "ecbe1df2d3ee6995e629b179ea73de34b7fa29fb88dd99d00ef6c0feb595d750"), looks := false }, kinds := [], alts := [], laidByText := true, laidKinds := [.sentinel], laidTests := true, laidLooks := .later }
def FnExactExTextCardSaid : Prop := Claim7.holds Tryd.pinned (.plain (OpenSpec.ofChange fnExactExTextSpec)) fnExactExTextCard

/-- THE TIED CARD OF 'laws.FnExactExRead'. -/
def fnExactExReadCard : Claim7 := { stood := { row := fnExactExReadRow, standIns := [], harness := (true, "ecbe1df2d3ee6995e629b179ea73de34b7fa29fb88dd99d00ef6c0feb595d750"), looks := false }, kinds := [], alts := [], laidByText := true, laidKinds := [.data, .sentinel, .pinned], laidTests := true, laidLooks := .later }
def FnExactExReadCardSaid : Prop := Claim7.holds Tryd.pinned (.plain (OpenSpec.ofChange fnExactExReadSpec)) fnExactExReadCard

/-- THE SECOND FORM's CARD OF 'laws.FnExactExText'. -/
def fnExactExTextUptoCard : Claim7 := { stood := { row := fnExactExTextUptoRow, standIns := [], harness := (true, "ecbe1df2d3ee6995e629b179ea73de34b7fa29fb88dd99d00ef6c0feb595d750"), looks := false }, kinds := [], alts := [], laidByText := true, laidKinds := [.sentinel], laidTests := true, laidLooks := .later }
def FnExactExTextUptoCardSaid : Prop := Claim7.holds Tryd.pinned (.plain (OpenSpec.upto fnExactExTextSpec)) fnExactExTextUptoCard

/-- THE SECOND FORM's CARD OF 'laws.FnExactExRead'. -/
def fnExactExReadUptoCard : Claim7 := { stood := { row := fnExactExReadUptoRow, standIns := [], harness := (true, "ecbe1df2d3ee6995e629b179ea73de34b7fa29fb88dd99d00ef6c0feb595d750"), looks := false }, kinds := [], alts := [], laidByText := true, laidKinds := [.data, .sentinel, .pinned], laidTests := true, laidLooks := .later }
def FnExactExReadUptoCardSaid : Prop := Claim7.holds Tryd.pinned (.plain (OpenSpec.upto fnExactExReadSpec)) fnExactExReadUptoCard
end Rows
end Go.Proofs.YtpkinlcinccccaaDoor
