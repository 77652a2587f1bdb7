/-
  DERIVED. GIVEN WITH THE SEED: THE CARDS: each row of YtgppmajmkpcciaaDoorRows.lean that lists a variable, with what it lists TIED to the program's text (the seventh form; the later family's looks); each row that meets fmt, with fmt's text TOLD by the authors' own Lean function (tested against real Go, not proved from fmt's source: count such statements apart). THE CARD IS WHAT COUNTS. Prove the row's statement (the work); the ties are given (YtgppmajmkpcciaaDoorTie.lean); close each card by the builder's one call (the guide's Derived/Test/ToyasCard.lean, 'card_holds'). Laid BY PROGRAM, IN A SANDBOX (cutbox-door.mjs). By AI agents, Wed Nov 11 2026. No macro, syntax, notation, axiom, sorry.
-/
import Derived.Test.YtgppmajmkpcciaaDoorRows
import GoSem.ClaimSeven
namespace Go.Proofs.YtgppmajmkpcciaaDoor
namespace Rows

/-- THE TIED CARD OF 'sextantlaw07.HistoryMakes'. -/
def historyMakesCard : Claim7 := { stood := { row := historyMakesRow, standIns := [], harness := (true, "98e10042c63edc21973b5459363dfdc0f7ed1912736846df114f0d8c3e20e3b0"), looks := false }, kinds := [], alts := [], laidByText := true, laidKinds := [.data], laidTests := true, laidLooks := .later }
def HistoryMakesCardSaid : Prop := Claim7.holds Tryd.pinned (.plain (OpenSpec.ofChange historyMakesSpec)) historyMakesCard

/-- THE TIED CARD OF 'sextantlaw07.HistoryChecks'. -/
def historyChecksCard : Claim7 := { stood := { row := historyChecksRow, standIns := [], harness := (true, "98e10042c63edc21973b5459363dfdc0f7ed1912736846df114f0d8c3e20e3b0"), looks := false }, kinds := [], alts := [], laidByText := true, laidKinds := [.data], laidTests := true, laidLooks := .later }
def HistoryChecksCardSaid : Prop := Claim7.holds Tryd.pinned (.plain (OpenSpec.ofChange historyChecksSpec)) historyChecksCard

/-- THE SECOND FORM's CARD OF 'sextantlaw07.HistoryMakes'. -/
def historyMakesUptoCard : Claim7 := { stood := { row := historyMakesUptoRow, standIns := [], harness := (true, "98e10042c63edc21973b5459363dfdc0f7ed1912736846df114f0d8c3e20e3b0"), looks := false }, kinds := [], alts := [], laidByText := true, laidKinds := [.data], laidTests := true, laidLooks := .later }
def HistoryMakesUptoCardSaid : Prop := Claim7.holds Tryd.pinned (.plain (OpenSpec.upto historyMakesSpec)) historyMakesUptoCard

/-- THE SECOND FORM's CARD OF 'sextantlaw07.HistoryChecks'. -/
def historyChecksUptoCard : Claim7 := { stood := { row := historyChecksUptoRow, standIns := [], harness := (true, "98e10042c63edc21973b5459363dfdc0f7ed1912736846df114f0d8c3e20e3b0"), looks := false }, kinds := [], alts := [], laidByText := true, laidKinds := [.data], laidTests := true, laidLooks := .later }
def HistoryChecksUptoCardSaid : Prop := Claim7.holds Tryd.pinned (.plain (OpenSpec.upto historyChecksSpec)) historyChecksUptoCard
end Rows
end Go.Proofs.YtgppmajmkpcciaaDoor
