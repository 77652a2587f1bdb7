/- The walk of the statement on where words stand. -/
import Derived.Test.YthpkjehoogodkaaDoorZTCutMath
namespace Go.Proofs.YthpkjehoogodkaaDoor
open Go.RowKit

theorem wordCells_at : ∀ (n : Int) (x : List Wd) (k : Nat) (h : k < x.length), (wordCells n x)[k * 4]? = some (.string (str (x[k]'h).text)) ∧ (wordCells n x)[k * 4 + 1]? = some (.int .i64 (x[k]'h).off) ∧ (wordCells n x)[k * 4 + 2]? = some (.int .i64 n) ∧ (wordCells n x)[k * 4 + 3]? = some (.int .i64 (x[k]'h).col)
  | _, [], k, h => absurd h (by simp)
  | n, c :: r, 0, _ => ⟨rfl, rfl, rfl, rfl⟩
  | n, c :: r, k + 1, h => by
    have := wordCells_at n r k (by simpa using h)
    have e : wordCells n (c :: r) = [.string (str c.text), .int .i64 c.off, .int .i64 n, .int .i64 c.col] ++ wordCells n r := rfl
    have e1 : (k + 1) * 4 = k * 4 + 4 := by omega
    rw [e, e1]
    exact this

end Go.Proofs.YthpkjehoogodkaaDoor
