/-
  DERIVED. GIVEN WITH THE SEED: THE CARDS: each row of YtpbebcefnkbnlaaDoorRows.lean that lists a variable, with what it lists TIED to the program's text (the seventh form; the later family's looks); each row that meets fmt, with fmt's text TOLD by the authors' own Lean function (tested against real Go, not proved from fmt's source: count such statements apart). THE CARD IS WHAT COUNTS. Prove the row's statement (the work); the ties are given (YtpbebcefnkbnlaaDoorTie.lean); close each card by the builder's one call (the guide's Derived/Test/ToyasCard.lean, 'card_holds'). Laid BY PROGRAM, IN A SANDBOX (cutbox-door.mjs). By AI agents, Wed Nov 11 2026. No macro, syntax, notation, axiom, sorry.
-/
import Derived.Test.YtpbebcefnkbnlaaDoorRows
import GoSem.ClaimSeven
namespace Go.Proofs.YtpbebcefnkbnlaaDoor
namespace Rows

/-- THE TIED CARD OF 'sextantlaw02.TextSpots'. -/
def textSpotsCard : Claim7 := { stood := { row := textSpotsRow, standIns := [], harness := (true, "2ab78ef04fdef9944c34bfe2885f292a0db9a742693c605fe966af1d7f2aaf78"), looks := false }, kinds := [], alts := [], laidByText := true, laidKinds := [.data, .data, .data, .data], laidTests := true, laidLooks := .later }
def TextSpotsCardSaid : Prop := Claim7.holds Tryd.pinned (.plain (OpenSpec.ofChange textSpotsSpec)) textSpotsCard

/-- THE TIED CARD OF 'sextantlaw02.TextRunes'. -/
def textRunesCard : Claim7 := { stood := { row := textRunesRow, standIns := [], harness := (true, "2ab78ef04fdef9944c34bfe2885f292a0db9a742693c605fe966af1d7f2aaf78"), looks := false }, kinds := [], alts := [], laidByText := true, laidKinds := [.data, .data, .data, .data], laidTests := true, laidLooks := .later }
def TextRunesCardSaid : Prop := Claim7.holds Tryd.pinned (.plain (OpenSpec.ofChange textRunesSpec)) textRunesCard

/-- THE TIED CARD OF 'sextantlaw02.TextGoes'. -/
def textGoesCard : Claim7 := { stood := { row := textGoesRow, standIns := [], harness := (true, "2ab78ef04fdef9944c34bfe2885f292a0db9a742693c605fe966af1d7f2aaf78"), looks := false }, kinds := [], alts := [], laidByText := true, laidKinds := [.data, .data, .data, .data], laidTests := true, laidLooks := .later }
def TextGoesCardSaid : Prop := Claim7.holds Tryd.pinned (.plain (OpenSpec.ofChange textGoesSpec)) textGoesCard

/-- THE TIED CARD OF 'sextantlaw02.TextLines'. -/
def textLinesCard : Claim7 := { stood := { row := textLinesRow, standIns := [], harness := (true, "2ab78ef04fdef9944c34bfe2885f292a0db9a742693c605fe966af1d7f2aaf78"), looks := false }, kinds := [], alts := [], laidByText := true, laidKinds := [.data, .data, .data, .data], laidTests := true, laidLooks := .later }
def TextLinesCardSaid : Prop := Claim7.holds Tryd.pinned (.plain (OpenSpec.ofChange textLinesSpec)) textLinesCard

/-- THE TIED CARD OF 'sextantlaw02.TextWords'. -/
def textWordsCard : Claim7 := { stood := { row := textWordsRow, standIns := [], harness := (true, "2ab78ef04fdef9944c34bfe2885f292a0db9a742693c605fe966af1d7f2aaf78"), looks := false }, kinds := [], alts := [], laidByText := true, laidKinds := [.data, .data, .data, .data], laidTests := true, laidLooks := .later }
def TextWordsCardSaid : Prop := Claim7.holds Tryd.pinned (.plain (OpenSpec.ofChange textWordsSpec)) textWordsCard

/-- THE TIED CARD OF 'sextantlaw02.TextCut'. -/
def textCutCard : Claim7 := { stood := { row := textCutRow, standIns := [], harness := (true, "2ab78ef04fdef9944c34bfe2885f292a0db9a742693c605fe966af1d7f2aaf78"), looks := false }, kinds := [], alts := [], laidByText := true, laidKinds := [.data, .data, .data, .data], laidTests := true, laidLooks := .later }
def TextCutCardSaid : Prop := Claim7.holds Tryd.pinned (.plain (OpenSpec.ofChange textCutSpec)) textCutCard

/-- THE SECOND FORM's CARD OF 'sextantlaw02.TextSpots'. -/
def textSpotsUptoCard : Claim7 := { stood := { row := textSpotsUptoRow, standIns := [], harness := (true, "2ab78ef04fdef9944c34bfe2885f292a0db9a742693c605fe966af1d7f2aaf78"), looks := false }, kinds := [], alts := [], laidByText := true, laidKinds := [.data, .data, .data, .data], laidTests := true, laidLooks := .later }
def TextSpotsUptoCardSaid : Prop := Claim7.holds Tryd.pinned (.plain (OpenSpec.upto textSpotsSpec)) textSpotsUptoCard

/-- THE SECOND FORM's CARD OF 'sextantlaw02.TextRunes'. -/
def textRunesUptoCard : Claim7 := { stood := { row := textRunesUptoRow, standIns := [], harness := (true, "2ab78ef04fdef9944c34bfe2885f292a0db9a742693c605fe966af1d7f2aaf78"), looks := false }, kinds := [], alts := [], laidByText := true, laidKinds := [.data, .data, .data, .data], laidTests := true, laidLooks := .later }
def TextRunesUptoCardSaid : Prop := Claim7.holds Tryd.pinned (.plain (OpenSpec.upto textRunesSpec)) textRunesUptoCard

/-- THE SECOND FORM's CARD OF 'sextantlaw02.TextGoes'. -/
def textGoesUptoCard : Claim7 := { stood := { row := textGoesUptoRow, standIns := [], harness := (true, "2ab78ef04fdef9944c34bfe2885f292a0db9a742693c605fe966af1d7f2aaf78"), looks := false }, kinds := [], alts := [], laidByText := true, laidKinds := [.data, .data, .data, .data], laidTests := true, laidLooks := .later }
def TextGoesUptoCardSaid : Prop := Claim7.holds Tryd.pinned (.plain (OpenSpec.upto textGoesSpec)) textGoesUptoCard

/-- THE SECOND FORM's CARD OF 'sextantlaw02.TextLines'. -/
def textLinesUptoCard : Claim7 := { stood := { row := textLinesUptoRow, standIns := [], harness := (true, "2ab78ef04fdef9944c34bfe2885f292a0db9a742693c605fe966af1d7f2aaf78"), looks := false }, kinds := [], alts := [], laidByText := true, laidKinds := [.data, .data, .data, .data], laidTests := true, laidLooks := .later }
def TextLinesUptoCardSaid : Prop := Claim7.holds Tryd.pinned (.plain (OpenSpec.upto textLinesSpec)) textLinesUptoCard

/-- THE SECOND FORM's CARD OF 'sextantlaw02.TextWords'. -/
def textWordsUptoCard : Claim7 := { stood := { row := textWordsUptoRow, standIns := [], harness := (true, "2ab78ef04fdef9944c34bfe2885f292a0db9a742693c605fe966af1d7f2aaf78"), looks := false }, kinds := [], alts := [], laidByText := true, laidKinds := [.data, .data, .data, .data], laidTests := true, laidLooks := .later }
def TextWordsUptoCardSaid : Prop := Claim7.holds Tryd.pinned (.plain (OpenSpec.upto textWordsSpec)) textWordsUptoCard

/-- THE SECOND FORM's CARD OF 'sextantlaw02.TextCut'. -/
def textCutUptoCard : Claim7 := { stood := { row := textCutUptoRow, standIns := [], harness := (true, "2ab78ef04fdef9944c34bfe2885f292a0db9a742693c605fe966af1d7f2aaf78"), looks := false }, kinds := [], alts := [], laidByText := true, laidKinds := [.data, .data, .data, .data], laidTests := true, laidLooks := .later }
def TextCutUptoCardSaid : Prop := Claim7.holds Tryd.pinned (.plain (OpenSpec.upto textCutSpec)) textCutUptoCard
end Rows
end Go.Proofs.YtpbebcefnkbnlaaDoor
