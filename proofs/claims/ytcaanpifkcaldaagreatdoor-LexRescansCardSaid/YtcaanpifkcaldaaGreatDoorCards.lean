/-
  DERIVED. GIVEN WITH THE SEED: THE CARDS: each row of YtcaanpifkcaldaaGreatDoorRows.lean that lists a variable, with what it lists TIED to the program's text (the seventh form; the later family's looks); each row that meets fmt, with fmt's text TOLD by the authors' own Lean function (tested against real Go, not proved from fmt's source: count such statements apart). THE CARD IS WHAT COUNTS. Prove the row's statement (the work); the ties are given (YtcaanpifkcaldaaGreatDoorTie.lean); close each card by the builder's one call (the guide's Derived/Test/ToyasCard.lean, 'card_holds'). Laid BY PROGRAM, IN A SANDBOX (cutbox-door.mjs). By AI agents, Wed Nov 11 2026. No macro, syntax, notation, axiom, sorry.
-/
import Derived.Test.YtcaanpifkcaldaaGreatDoorRows
import GoSem.ClaimSeven
namespace Go.Proofs.YtcaanpifkcaldaaGreatDoor
namespace Rows

/-- THE TIED CARD OF 'dripstonelaw01.LexScans'. -/
def lexScansCard : Claim7 := { stood := { row := lexScansRow, standIns := [], harness := (true, "f5ab7d9d2611e1c9acd90457b8189ce4a47540926d8d63495c48ab601beac922"), looks := true }, kinds := [], alts := [], laidByText := true, laidKinds := [.data, .data, .data, .sentinel, .sentinel], laidTests := true, laidLooks := .later }
def LexScansCardSaid : Prop := Claim7.holds Tryz.pinned (.plain (OpenSpec.ofChange lexScansSpec)) lexScansCard

/-- THE TIED CARD OF 'dripstonelaw01.LexKinds'. -/
def lexKindsCard : Claim7 := { stood := { row := lexKindsRow, standIns := [], harness := (true, "f5ab7d9d2611e1c9acd90457b8189ce4a47540926d8d63495c48ab601beac922"), looks := true }, kinds := [], alts := [], laidByText := true, laidKinds := [.data, .data, .data, .sentinel, .sentinel], laidTests := true, laidLooks := .later }
def LexKindsCardSaid : Prop := Claim7.holds Tryz.pinned (.plain (OpenSpec.ofChange lexKindsSpec)) lexKindsCard

/-- THE TIED CARD OF 'dripstonelaw01.LexJoins'. -/
def lexJoinsCard : Claim7 := { stood := { row := lexJoinsRow, standIns := [], harness := (true, "f5ab7d9d2611e1c9acd90457b8189ce4a47540926d8d63495c48ab601beac922"), looks := true }, kinds := [], alts := [], laidByText := true, laidKinds := [.data, .data, .data, .sentinel, .sentinel], laidTests := true, laidLooks := .later }
def LexJoinsCardSaid : Prop := Claim7.holds Tryz.pinned (.plain (OpenSpec.ofChange lexJoinsSpec)) lexJoinsCard

/-- THE TIED CARD OF 'dripstonelaw01.LexRescans'. -/
def lexRescansCard : Claim7 := { stood := { row := lexRescansRow, standIns := [], harness := (true, "f5ab7d9d2611e1c9acd90457b8189ce4a47540926d8d63495c48ab601beac922"), looks := true }, kinds := [], alts := [], laidByText := true, laidKinds := [.data, .data, .data, .sentinel, .sentinel], laidTests := true, laidLooks := .later }
def LexRescansCardSaid : Prop := Claim7.holds Tryz.pinned (.plain (OpenSpec.ofChange lexRescansSpec)) lexRescansCard

/-- THE TIED CARD OF 'dripstonelaw01.LexPatches'. -/
def lexPatchesCard : Claim7 := { stood := { row := lexPatchesRow, standIns := [], harness := (true, "f5ab7d9d2611e1c9acd90457b8189ce4a47540926d8d63495c48ab601beac922"), looks := true }, kinds := [], alts := [], laidByText := true, laidKinds := [.data, .data, .data, .sentinel, .sentinel], laidTests := true, laidLooks := .later }
def LexPatchesCardSaid : Prop := Claim7.holds Tryz.pinned (.plain (OpenSpec.ofChange lexPatchesSpec)) lexPatchesCard

/-- THE TIED CARD OF 'dripstonelaw01.LexKept'. -/
def lexKeptCard : Claim7 := { stood := { row := lexKeptRow, standIns := [], harness := (true, "f5ab7d9d2611e1c9acd90457b8189ce4a47540926d8d63495c48ab601beac922"), looks := true }, kinds := [], alts := [], laidByText := true, laidKinds := [.data, .data, .data, .sentinel, .sentinel], laidTests := true, laidLooks := .later }
def LexKeptCardSaid : Prop := Claim7.holds Tryz.pinned (.plain (OpenSpec.ofChange lexKeptSpec)) lexKeptCard

/-- THE SECOND FORM's CARD OF 'dripstonelaw01.LexScans'. -/
def lexScansUptoCard : Claim7 := { stood := { row := lexScansUptoRow, standIns := [], harness := (true, "f5ab7d9d2611e1c9acd90457b8189ce4a47540926d8d63495c48ab601beac922"), looks := true }, kinds := [], alts := [], laidByText := true, laidKinds := [.data, .data, .data, .sentinel, .sentinel], laidTests := true, laidLooks := .later }
def LexScansUptoCardSaid : Prop := Claim7.holds Tryz.pinned (.plain (OpenSpec.upto lexScansSpec)) lexScansUptoCard

/-- THE SECOND FORM's CARD OF 'dripstonelaw01.LexKinds'. -/
def lexKindsUptoCard : Claim7 := { stood := { row := lexKindsUptoRow, standIns := [], harness := (true, "f5ab7d9d2611e1c9acd90457b8189ce4a47540926d8d63495c48ab601beac922"), looks := true }, kinds := [], alts := [], laidByText := true, laidKinds := [.data, .data, .data, .sentinel, .sentinel], laidTests := true, laidLooks := .later }
def LexKindsUptoCardSaid : Prop := Claim7.holds Tryz.pinned (.plain (OpenSpec.upto lexKindsSpec)) lexKindsUptoCard

/-- THE SECOND FORM's CARD OF 'dripstonelaw01.LexJoins'. -/
def lexJoinsUptoCard : Claim7 := { stood := { row := lexJoinsUptoRow, standIns := [], harness := (true, "f5ab7d9d2611e1c9acd90457b8189ce4a47540926d8d63495c48ab601beac922"), looks := true }, kinds := [], alts := [], laidByText := true, laidKinds := [.data, .data, .data, .sentinel, .sentinel], laidTests := true, laidLooks := .later }
def LexJoinsUptoCardSaid : Prop := Claim7.holds Tryz.pinned (.plain (OpenSpec.upto lexJoinsSpec)) lexJoinsUptoCard

/-- THE SECOND FORM's CARD OF 'dripstonelaw01.LexRescans'. -/
def lexRescansUptoCard : Claim7 := { stood := { row := lexRescansUptoRow, standIns := [], harness := (true, "f5ab7d9d2611e1c9acd90457b8189ce4a47540926d8d63495c48ab601beac922"), looks := true }, kinds := [], alts := [], laidByText := true, laidKinds := [.data, .data, .data, .sentinel, .sentinel], laidTests := true, laidLooks := .later }
def LexRescansUptoCardSaid : Prop := Claim7.holds Tryz.pinned (.plain (OpenSpec.upto lexRescansSpec)) lexRescansUptoCard

/-- THE SECOND FORM's CARD OF 'dripstonelaw01.LexPatches'. -/
def lexPatchesUptoCard : Claim7 := { stood := { row := lexPatchesUptoRow, standIns := [], harness := (true, "f5ab7d9d2611e1c9acd90457b8189ce4a47540926d8d63495c48ab601beac922"), looks := true }, kinds := [], alts := [], laidByText := true, laidKinds := [.data, .data, .data, .sentinel, .sentinel], laidTests := true, laidLooks := .later }
def LexPatchesUptoCardSaid : Prop := Claim7.holds Tryz.pinned (.plain (OpenSpec.upto lexPatchesSpec)) lexPatchesUptoCard

/-- THE SECOND FORM's CARD OF 'dripstonelaw01.LexKept'. -/
def lexKeptUptoCard : Claim7 := { stood := { row := lexKeptUptoRow, standIns := [], harness := (true, "f5ab7d9d2611e1c9acd90457b8189ce4a47540926d8d63495c48ab601beac922"), looks := true }, kinds := [], alts := [], laidByText := true, laidKinds := [.data, .data, .data, .sentinel, .sentinel], laidTests := true, laidLooks := .later }
def LexKeptUptoCardSaid : Prop := Claim7.holds Tryz.pinned (.plain (OpenSpec.upto lexKeptSpec)) lexKeptUptoCard
end Rows
end Go.Proofs.YtcaanpifkcaldaaGreatDoor
