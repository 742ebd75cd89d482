/-
  DERIVED. GIVEN WITH THE SEED: THE CARDS: each row of YtjaneedmhekheaaDoorRows.lean that lists a variable, with what it lists TIED to the program's text (the seventh form; the later family's looks); each row that meets fmt, with fmt's text TOLD by the authors' own Lean function (tested against real Go, not proved from fmt's source: count such statements apart). THE CARD IS WHAT COUNTS. Prove the row's statement (the work); the ties are given (YtjaneedmhekheaaDoorTie.lean); close each card by the builder's one call (the guide's Derived/Test/ToyasCard.lean, 'card_holds'). Laid BY PROGRAM, IN A SANDBOX (cutbox-door.mjs). By AI agents, Wed Nov 11 2026. No macro, syntax, notation, axiom, sorry.
-/
import Derived.Test.YtjaneedmhekheaaDoorRows
import GoSem.ClaimSeven
namespace Go.Proofs.YtjaneedmhekheaaDoor
namespace Rows

/-- THE TIED CARD OF 'laws.FnOcc'. -/
def fnOccCard : Claim7 := { stood := { row := fnOccRow, standIns := [], harness := (true, "f6eb3efbc04adb133072ed4de4ef3c18473ff8527a1cf8277a58be7cac2bad77"), looks := false }, kinds := [], alts := [], laidByText := true, laidKinds := [.data, .data, .data], laidTests := true, laidLooks := .later }
def FnOccCardSaid : Prop := Claim7.holds Tryd.pinned (.plain (OpenSpec.ofChange fnOccSpec)) fnOccCard

/-- THE TIED CARD OF 'laws.FnOccJoin'. -/
def fnOccJoinCard : Claim7 := { stood := { row := fnOccJoinRow, standIns := [], harness := (true, "f6eb3efbc04adb133072ed4de4ef3c18473ff8527a1cf8277a58be7cac2bad77"), looks := false }, kinds := [], alts := [], laidByText := true, laidKinds := [.data], laidTests := true, laidLooks := .later }
def FnOccJoinCardSaid : Prop := Claim7.holds Tryd.pinned (.plain (OpenSpec.ofChange fnOccJoinSpec)) fnOccJoinCard

/-- THE TIED CARD OF 'laws.FnOccText'. -/
def fnOccTextCard : Claim7 := { stood := { row := fnOccTextRow, standIns := [], harness := (true, "f6eb3efbc04adb133072ed4de4ef3c18473ff8527a1cf8277a58be7cac2bad77"), looks := false }, kinds := [], alts := [], laidByText := true, laidKinds := [.data, .data, .data], laidTests := true, laidLooks := .later }
def FnOccTextCardSaid : Prop := Claim7.holds Tryd.pinned (.plain (OpenSpec.ofChange fnOccTextSpec)) fnOccTextCard

/-- THE SECOND FORM's CARD OF 'laws.FnOcc'. -/
def fnOccUptoCard : Claim7 := { stood := { row := fnOccUptoRow, standIns := [], harness := (true, "f6eb3efbc04adb133072ed4de4ef3c18473ff8527a1cf8277a58be7cac2bad77"), looks := false }, kinds := [], alts := [], laidByText := true, laidKinds := [.data, .data, .data], laidTests := true, laidLooks := .later }
def FnOccUptoCardSaid : Prop := Claim7.holds Tryd.pinned (.plain (OpenSpec.upto fnOccSpec)) fnOccUptoCard

/-- THE SECOND FORM's CARD OF 'laws.FnOccJoin'. -/
def fnOccJoinUptoCard : Claim7 := { stood := { row := fnOccJoinUptoRow, standIns := [], harness := (true, "f6eb3efbc04adb133072ed4de4ef3c18473ff8527a1cf8277a58be7cac2bad77"), looks := false }, kinds := [], alts := [], laidByText := true, laidKinds := [.data], laidTests := true, laidLooks := .later }
def FnOccJoinUptoCardSaid : Prop := Claim7.holds Tryd.pinned (.plain (OpenSpec.upto fnOccJoinSpec)) fnOccJoinUptoCard

/-- THE SECOND FORM's CARD OF 'laws.FnOccText'. -/
def fnOccTextUptoCard : Claim7 := { stood := { row := fnOccTextUptoRow, standIns := [], harness := (true, "f6eb3efbc04adb133072ed4de4ef3c18473ff8527a1cf8277a58be7cac2bad77"), looks := false }, kinds := [], alts := [], laidByText := true, laidKinds := [.data, .data, .data], laidTests := true, laidLooks := .later }
def FnOccTextUptoCardSaid : Prop := Claim7.holds Tryd.pinned (.plain (OpenSpec.upto fnOccTextSpec)) fnOccTextUptoCard
end Rows
end Go.Proofs.YtjaneedmhekheaaDoor
