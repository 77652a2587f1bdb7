/-
  DERIVED. GIVEN WITH THE SEED: THE CARDS: each row of YtngnlofjjlkcmaaGreatDoorRows.lean that lists a variable, with what it lists TIED to the program's text (the seventh form; the later family's looks); each row that meets fmt, with fmt's text TOLD by the authors' own Lean function (tested against real Go, not proved from fmt's source: count such statements apart). THE CARD IS WHAT COUNTS. Prove the row's statement (the work); the ties are given (YtngnlofjjlkcmaaGreatDoorTie.lean); close each card by the builder's one call (the guide's Derived/Test/ToyasCard.lean, 'card_holds'). Laid BY PROGRAM, IN A SANDBOX (cutbox-door.mjs). By AI agents, Wed Nov 11 2026. No macro, syntax, notation, axiom, sorry.
-/
import Derived.Test.YtngnlofjjlkcmaaGreatDoorRows
import GoSem.ClaimSeven
namespace Go.Proofs.YtngnlofjjlkcmaaGreatDoor
namespace Rows

/-- THE TIED CARD OF 'sextantlaw04.ValueDecodes'. -/
def valueDecodesCard : Claim7 := { stood := { row := valueDecodesRow, standIns := [], harness := (true, "9bf1258151d473d749a52f9c6ed434e767c638616f57b9484faa039df841d228"), looks := true }, kinds := [], alts := [], laidByText := true, laidKinds := [.data, .data, .data, .data], laidTests := true, laidLooks := .later }
def ValueDecodesCardSaid : Prop := Claim7.holds Tryz.pinned (.plain (OpenSpec.ofChange valueDecodesSpec)) valueDecodesCard

/-- THE TIED CARD OF 'sextantlaw04.ValueBack'. -/
def valueBackCard : Claim7 := { stood := { row := valueBackRow, standIns := [], harness := (true, "9bf1258151d473d749a52f9c6ed434e767c638616f57b9484faa039df841d228"), looks := true }, kinds := [], alts := [], laidByText := true, laidKinds := [.data, .data, .data, .data], laidTests := true, laidLooks := .later }
def ValueBackCardSaid : Prop := Claim7.holds Tryz.pinned (.plain (OpenSpec.ofChange valueBackSpec)) valueBackCard

/-- THE TIED CARD OF 'sextantlaw04.ValueGiven'. -/
def valueGivenCard : Claim7 := { stood := { row := valueGivenRow, standIns := [], harness := (true, "9bf1258151d473d749a52f9c6ed434e767c638616f57b9484faa039df841d228"), looks := true }, kinds := [], alts := [], laidByText := true, laidKinds := [.data, .data, .data, .data], laidTests := true, laidLooks := .later }
def ValueGivenCardSaid : Prop := Claim7.holds Tryz.pinned (.plain (OpenSpec.ofChange valueGivenSpec)) valueGivenCard

/-- THE SECOND FORM's CARD OF 'sextantlaw04.ValueDecodes'. -/
def valueDecodesUptoCard : Claim7 := { stood := { row := valueDecodesUptoRow, standIns := [], harness := (true, "9bf1258151d473d749a52f9c6ed434e767c638616f57b9484faa039df841d228"), looks := true }, kinds := [], alts := [], laidByText := true, laidKinds := [.data, .data, .data, .data], laidTests := true, laidLooks := .later }
def ValueDecodesUptoCardSaid : Prop := Claim7.holds Tryz.pinned (.plain (OpenSpec.upto valueDecodesSpec)) valueDecodesUptoCard

/-- THE SECOND FORM's CARD OF 'sextantlaw04.ValueBack'. -/
def valueBackUptoCard : Claim7 := { stood := { row := valueBackUptoRow, standIns := [], harness := (true, "9bf1258151d473d749a52f9c6ed434e767c638616f57b9484faa039df841d228"), looks := true }, kinds := [], alts := [], laidByText := true, laidKinds := [.data, .data, .data, .data], laidTests := true, laidLooks := .later }
def ValueBackUptoCardSaid : Prop := Claim7.holds Tryz.pinned (.plain (OpenSpec.upto valueBackSpec)) valueBackUptoCard

/-- THE SECOND FORM's CARD OF 'sextantlaw04.ValueGiven'. -/
def valueGivenUptoCard : Claim7 := { stood := { row := valueGivenUptoRow, standIns := [], harness := (true, "9bf1258151d473d749a52f9c6ed434e767c638616f57b9484faa039df841d228"), looks := true }, kinds := [], alts := [], laidByText := true, laidKinds := [.data, .data, .data, .data], laidTests := true, laidLooks := .later }
def ValueGivenUptoCardSaid : Prop := Claim7.holds Tryz.pinned (.plain (OpenSpec.upto valueGivenSpec)) valueGivenUptoCard
end Rows
end Go.Proofs.YtngnlofjjlkcmaaGreatDoor
