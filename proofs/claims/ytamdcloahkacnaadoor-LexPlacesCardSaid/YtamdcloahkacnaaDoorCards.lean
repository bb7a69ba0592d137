/-
  DERIVED. GIVEN WITH THE SEED: THE CARDS: each row of YtamdcloahkacnaaDoorRows.lean that lists a variable, with what it lists TIED to the program's text (the seventh form; the later family's looks); each row that meets fmt, with fmt's text TOLD by the authors' own Lean function (tested against real Go, not proved from fmt's source: count such statements apart). THE CARD IS WHAT COUNTS. Prove the row's statement (the work); the ties are given (YtamdcloahkacnaaDoorTie.lean); close each card by the builder's one call (the guide's Derived/Test/ToyasCard.lean, 'card_holds'). Laid BY PROGRAM, IN A SANDBOX (cutbox-door.mjs). By AI agents, Wed Nov 11 2026. No macro, syntax, notation, axiom, sorry.
-/
import Derived.Test.YtamdcloahkacnaaDoorRows
import GoSem.ClaimSeven
namespace Go.Proofs.YtamdcloahkacnaaDoor
namespace Rows

/-- THE TIED CARD OF 'dripstonelaw01.LexPlaces'. -/
def lexPlacesCard : Claim7 := { stood := { row := lexPlacesRow, standIns := [], harness := (true, "7cb139a9343de29f54e83e098d196e320deb1354dbf99f25b6c9b47b52c76353"), looks := true }, kinds := [], alts := [], laidByText := true, laidKinds := [.data, .data, .data, .sentinel, .sentinel], laidTests := true, laidLooks := .later }
def LexPlacesCardSaid : Prop := Claim7.holds Tryd.pinned (.plain (OpenSpec.ofChange lexPlacesSpec)) lexPlacesCard

/-- THE TIED CARD OF 'dripstonelaw01.LexPlaced'. -/
def lexPlacedCard : Claim7 := { stood := { row := lexPlacedRow, standIns := [], harness := (true, "7cb139a9343de29f54e83e098d196e320deb1354dbf99f25b6c9b47b52c76353"), looks := true }, kinds := [], alts := [], laidByText := true, laidKinds := [.data, .data, .data, .sentinel, .sentinel], laidTests := true, laidLooks := .later }
def LexPlacedCardSaid : Prop := Claim7.holds Tryd.pinned (.plain (OpenSpec.ofChange lexPlacedSpec)) lexPlacedCard

/-- THE SECOND FORM's CARD OF 'dripstonelaw01.LexPlaces'. -/
def lexPlacesUptoCard : Claim7 := { stood := { row := lexPlacesUptoRow, standIns := [], harness := (true, "7cb139a9343de29f54e83e098d196e320deb1354dbf99f25b6c9b47b52c76353"), looks := true }, kinds := [], alts := [], laidByText := true, laidKinds := [.data, .data, .data, .sentinel, .sentinel], laidTests := true, laidLooks := .later }
def LexPlacesUptoCardSaid : Prop := Claim7.holds Tryd.pinned (.plain (OpenSpec.upto lexPlacesSpec)) lexPlacesUptoCard

/-- THE SECOND FORM's CARD OF 'dripstonelaw01.LexPlaced'. -/
def lexPlacedUptoCard : Claim7 := { stood := { row := lexPlacedUptoRow, standIns := [], harness := (true, "7cb139a9343de29f54e83e098d196e320deb1354dbf99f25b6c9b47b52c76353"), looks := true }, kinds := [], alts := [], laidByText := true, laidKinds := [.data, .data, .data, .sentinel, .sentinel], laidTests := true, laidLooks := .later }
def LexPlacedUptoCardSaid : Prop := Claim7.holds Tryd.pinned (.plain (OpenSpec.upto lexPlacedSpec)) lexPlacedUptoCard
end Rows
end Go.Proofs.YtamdcloahkacnaaDoor
