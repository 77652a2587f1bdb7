/- What the row's list of laid variables gives, where it names the letters alone. -/
import Derived.Test.YtgglommnipbagaaGreatDoorZTLaid
import Derived.Test.YtgglommnipbagaaGreatDoorZALet
namespace Go.Proofs.YtgglommnipbagaaGreatDoor
open Go.ChangeShapes Go.WideShapes Go.ChangeAt Go.RowKit

/-- The list that such a row bears. -/
def laidLL : List (String × DataW Unit) := [("sextant/text.letters", Rows.laid_sextant_text_letters)]
theorem tabL_of_laid {W : World} (h : laidMetH Tryz.prog laidLL W) : TabL W := by
  have h' : laidMet Tryz.prog laidLL W := h
  obtain ⟨ps, hv, _⟩ := h'
  obtain ⟨g4, t4, cs4, f4, p4, q4, hg4, ht4, hv4, hd4, _, _⟩ := hv
  obtain rfl := Option.some.inj (gLet.symm.trans hg4)
  obtain rfl := Option.some.inj (gLetType.symm.trans ht4)
  have hc4 := let_cells hd4
  obtain ⟨t', z', e4⟩ := var_heap gLet hv4
  refine ⟨⟨t', z', ?_⟩⟩
  rw [e4]
  have : cs4 = cs4.toList.toArray := by simp
  rw [this, hc4]
end Go.Proofs.YtgglommnipbagaaGreatDoor
