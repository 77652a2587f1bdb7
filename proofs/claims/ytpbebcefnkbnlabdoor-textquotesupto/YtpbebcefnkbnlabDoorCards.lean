/-
  DERIVED. GIVEN WITH THE SEED: THE CARDS: each row of YtpbebcefnkbnlabDoorRows.lean that lists a variable, with what it lists TIED to the program's text (the seventh form; the later family's looks); each row that meets fmt, with fmt's text TOLD by the authors' own Lean function (tested against real Go, not proved from fmt's source: count such statements apart). THE CARD IS WHAT COUNTS. Prove the row's statement (the work); the ties are given (YtpbebcefnkbnlabDoorTie.lean); close each card by the builder's one call (the guide's Derived/Test/ToyasCard.lean, 'card_holds'). Laid BY PROGRAM, IN A SANDBOX (cutbox-door.mjs). By AI agents, Wed Nov 11 2026. No macro, syntax, notation, axiom, sorry.
-/
import Derived.Test.YtpbebcefnkbnlabDoorRows
import GoSem.ClaimSeven
namespace Go.Proofs.YtpbebcefnkbnlabDoor
namespace Rows

/-- THE TIED CARD OF 'sextantlaw02.TextNames'. -/
def textNamesCard : Claim7 := { stood := { row := textNamesRow, standIns := [], harness := (true, "ddde28e4ecc5a8615a579541a4b8ca8591e4fbcaecd679fd9e4f0c0132909811"), looks := false }, kinds := [], alts := [], laidByText := true, laidKinds := [.data, .data, .data, .data], laidTests := true, laidLooks := .later }
def TextNamesCardSaid : Prop := Claim7.holds Tryd.pinned (.plain (OpenSpec.ofChange textNamesSpec)) textNamesCard

/-- THE TIED CARD OF 'sextantlaw02.TextDecimals'. -/
def textDecimalsCard : Claim7 := { stood := { row := textDecimalsRow, standIns := [], harness := (true, "ddde28e4ecc5a8615a579541a4b8ca8591e4fbcaecd679fd9e4f0c0132909811"), looks := false }, kinds := [], alts := [], laidByText := true, laidKinds := [.data, .data, .data, .data], laidTests := true, laidLooks := .later }
def TextDecimalsCardSaid : Prop := Claim7.holds Tryd.pinned (.plain (OpenSpec.ofChange textDecimalsSpec)) textDecimalsCard

/-- THE TIED CARD OF 'sextantlaw02.TextQuotes'. -/
def textQuotesCard : Claim7 := { stood := { row := textQuotesRow, standIns := [], harness := (true, "ddde28e4ecc5a8615a579541a4b8ca8591e4fbcaecd679fd9e4f0c0132909811"), looks := false }, kinds := [], alts := [], laidByText := true, laidKinds := [.data, .data, .data, .data], laidTests := true, laidLooks := .later }
def TextQuotesCardSaid : Prop := Claim7.holds Tryd.pinned (.plain (OpenSpec.ofChange textQuotesSpec)) textQuotesCard

/-- THE TIED CARD OF 'sextantlaw02.TextPads'. -/
def textPadsCard : Claim7 := { stood := { row := textPadsRow, standIns := [], harness := (true, "ddde28e4ecc5a8615a579541a4b8ca8591e4fbcaecd679fd9e4f0c0132909811"), looks := false }, kinds := [], alts := [], laidByText := true, laidKinds := [.data, .data, .data, .data], laidTests := true, laidLooks := .later }
def TextPadsCardSaid : Prop := Claim7.holds Tryd.pinned (.plain (OpenSpec.ofChange textPadsSpec)) textPadsCard

/-- THE TIED CARD OF 'sextantlaw02.TextAgain'. -/
def textAgainCard : Claim7 := { stood := { row := textAgainRow, standIns := [], harness := (true, "ddde28e4ecc5a8615a579541a4b8ca8591e4fbcaecd679fd9e4f0c0132909811"), looks := false }, kinds := [], alts := [], laidByText := true, laidKinds := [.data, .data, .data, .data], laidTests := true, laidLooks := .later }
def TextAgainCardSaid : Prop := Claim7.holds Tryd.pinned (.plain (OpenSpec.ofChange textAgainSpec)) textAgainCard

/-- THE SECOND FORM's CARD OF 'sextantlaw02.TextNames'. -/
def textNamesUptoCard : Claim7 := { stood := { row := textNamesUptoRow, standIns := [], harness := (true, "ddde28e4ecc5a8615a579541a4b8ca8591e4fbcaecd679fd9e4f0c0132909811"), looks := false }, kinds := [], alts := [], laidByText := true, laidKinds := [.data, .data, .data, .data], laidTests := true, laidLooks := .later }
def TextNamesUptoCardSaid : Prop := Claim7.holds Tryd.pinned (.plain (OpenSpec.upto textNamesSpec)) textNamesUptoCard

/-- THE SECOND FORM's CARD OF 'sextantlaw02.TextDecimals'. -/
def textDecimalsUptoCard : Claim7 := { stood := { row := textDecimalsUptoRow, standIns := [], harness := (true, "ddde28e4ecc5a8615a579541a4b8ca8591e4fbcaecd679fd9e4f0c0132909811"), looks := false }, kinds := [], alts := [], laidByText := true, laidKinds := [.data, .data, .data, .data], laidTests := true, laidLooks := .later }
def TextDecimalsUptoCardSaid : Prop := Claim7.holds Tryd.pinned (.plain (OpenSpec.upto textDecimalsSpec)) textDecimalsUptoCard

/-- THE SECOND FORM's CARD OF 'sextantlaw02.TextQuotes'. -/
def textQuotesUptoCard : Claim7 := { stood := { row := textQuotesUptoRow, standIns := [], harness := (true, "ddde28e4ecc5a8615a579541a4b8ca8591e4fbcaecd679fd9e4f0c0132909811"), looks := false }, kinds := [], alts := [], laidByText := true, laidKinds := [.data, .data, .data, .data], laidTests := true, laidLooks := .later }
def TextQuotesUptoCardSaid : Prop := Claim7.holds Tryd.pinned (.plain (OpenSpec.upto textQuotesSpec)) textQuotesUptoCard

/-- THE SECOND FORM's CARD OF 'sextantlaw02.TextPads'. -/
def textPadsUptoCard : Claim7 := { stood := { row := textPadsUptoRow, standIns := [], harness := (true, "ddde28e4ecc5a8615a579541a4b8ca8591e4fbcaecd679fd9e4f0c0132909811"), looks := false }, kinds := [], alts := [], laidByText := true, laidKinds := [.data, .data, .data, .data], laidTests := true, laidLooks := .later }
def TextPadsUptoCardSaid : Prop := Claim7.holds Tryd.pinned (.plain (OpenSpec.upto textPadsSpec)) textPadsUptoCard

/-- THE SECOND FORM's CARD OF 'sextantlaw02.TextAgain'. -/
def textAgainUptoCard : Claim7 := { stood := { row := textAgainUptoRow, standIns := [], harness := (true, "ddde28e4ecc5a8615a579541a4b8ca8591e4fbcaecd679fd9e4f0c0132909811"), looks := false }, kinds := [], alts := [], laidByText := true, laidKinds := [.data, .data, .data, .data], laidTests := true, laidLooks := .later }
def TextAgainUptoCardSaid : Prop := Claim7.holds Tryd.pinned (.plain (OpenSpec.upto textAgainSpec)) textAgainUptoCard
end Rows
end Go.Proofs.YtpbebcefnkbnlabDoor
