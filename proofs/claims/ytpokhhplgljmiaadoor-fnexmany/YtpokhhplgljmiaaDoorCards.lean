/-
  DERIVED. GIVEN WITH THE SEED: THE CARDS: each row of YtpokhhplgljmiaaDoorRows.lean that lists a variable, with what it lists TIED to the program's text (the seventh form; the later family's looks); each row that meets fmt, with fmt's text TOLD by the authors' own Lean function (tested against real Go, not proved from fmt's source: count such statements apart). THE CARD IS WHAT COUNTS. Prove the row's statement (the work); the ties are given (YtpokhhplgljmiaaDoorTie.lean); close each card by the builder's one call (the guide's Derived/Test/ToyasCard.lean, 'card_holds'). Laid BY PROGRAM, IN A SANDBOX (cutbox-door.mjs). By AI agents, Wed Nov 11 2026. No macro, syntax, notation, axiom, sorry.
-/
import Derived.Test.YtpokhhplgljmiaaDoorRows
import GoSem.ClaimSeven
namespace Go.Proofs.YtpokhhplgljmiaaDoor
namespace Rows

/-- THE TIED CARD OF 'laws.FnExBent'. -/
def fnExBentCard : Claim7 := { stood := { row := fnExBentRow, standIns := [], harness := (true, "9d9a5a8363fe399921a20894a9faea6c07365e68491908b8a9091bbaa9d05dfa"), looks := false }, kinds := [], alts := [], laidByText := true, laidKinds := [.sentinel], laidTests := true, laidLooks := .later }
def FnExBentCardSaid : Prop := Claim7.holds Tryd.pinned (.plain (OpenSpec.ofChange fnExBentSpec)) fnExBentCard

/-- THE TIED CARD OF 'laws.FnExMany'. -/
def fnExManyCard : Claim7 := { stood := { row := fnExManyRow, standIns := [], harness := (true, "9d9a5a8363fe399921a20894a9faea6c07365e68491908b8a9091bbaa9d05dfa"), looks := false }, kinds := [], alts := [], laidByText := true, laidKinds := [.sentinel], laidTests := true, laidLooks := .later }
def FnExManyCardSaid : Prop := Claim7.holds Tryd.pinned (.plain (OpenSpec.ofChange fnExManySpec)) fnExManyCard

/-- THE SECOND FORM's CARD OF 'laws.FnExBent'. -/
def fnExBentUptoCard : Claim7 := { stood := { row := fnExBentUptoRow, standIns := [], harness := (true, "9d9a5a8363fe399921a20894a9faea6c07365e68491908b8a9091bbaa9d05dfa"), looks := false }, kinds := [], alts := [], laidByText := true, laidKinds := [.sentinel], laidTests := true, laidLooks := .later }
def FnExBentUptoCardSaid : Prop := Claim7.holds Tryd.pinned (.plain (OpenSpec.upto fnExBentSpec)) fnExBentUptoCard

/-- THE SECOND FORM's CARD OF 'laws.FnExMany'. -/
def fnExManyUptoCard : Claim7 := { stood := { row := fnExManyUptoRow, standIns := [], harness := (true, "9d9a5a8363fe399921a20894a9faea6c07365e68491908b8a9091bbaa9d05dfa"), looks := false }, kinds := [], alts := [], laidByText := true, laidKinds := [.sentinel], laidTests := true, laidLooks := .later }
def FnExManyUptoCardSaid : Prop := Claim7.holds Tryd.pinned (.plain (OpenSpec.upto fnExManySpec)) fnExManyUptoCard
end Rows
end Go.Proofs.YtpokhhplgljmiaaDoor
