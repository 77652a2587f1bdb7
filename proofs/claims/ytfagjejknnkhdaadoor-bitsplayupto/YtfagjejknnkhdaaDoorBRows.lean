/- Rows of numbers that came in: their cells, below a place in memory. -/
import Derived.Test.YtfagjejknnkhdaaDoorBSet
namespace Go.Proofs.YtfagjejknnkhdaaDoor
open Go.RowKit

/-- A row of numbers that came in: its cells lie below B. -/
def IntsAt (w : World) (B : Nat) (v : Value) (l : List Int) : Prop := ∃ a c, v = .slice a l.length c ∧ ∀ j (h : j < l.length), ∃ b off, a = some ⟨b, off, none⟩ ∧ b < B ∧ w.cell? ⟨b, off + j, none⟩ = some (.int .i64 l[j])
theorem IntsAt.below {w w' : World} {B : Nat} {v : Value} {l : List Int} (h : IntsAt w B v l) (hb : Below B w w') : IntsAt w' B v l := by
  obtain ⟨a, c, rfl, h⟩ := h
  refine ⟨a, c, rfl, fun j hj => ?_⟩
  obtain ⟨b, off, e, hB, hc⟩ := h j hj
  exact ⟨b, off, e, hB, (hb.cell hB).trans hc⟩
/-- The same of words. -/
def WordsAt (w : World) (B : Nat) (v : Value) (l : List Nat) : Prop := ∃ a c, v = .slice a l.length c ∧ ∀ j (h : j < l.length), ∃ b off, a = some ⟨b, off, none⟩ ∧ b < B ∧ w.cell? ⟨b, off + j, none⟩ = some (.int .u64 (l[j] : Int))
theorem WordsAt.below {w w' : World} {B : Nat} {v : Value} {l : List Nat} (h : WordsAt w B v l) (hb : Below B w w') : WordsAt w' B v l := by
  obtain ⟨a, c, rfl, h⟩ := h
  refine ⟨a, c, rfl, fun j hj => ?_⟩
  obtain ⟨b, off, e, hB, hc⟩ := h j hj
  exact ⟨b, off, e, hB, (hb.cell hB).trans hc⟩
end Go.Proofs.YtfagjejknnkhdaaDoor
