/- The walk of the statement on numbers. -/
import Derived.Test.YthpkjehoogodkaaDoorGRefW
namespace Go.Proofs.YthpkjehoogodkaaDoor
open Go.RowKit

theorem num_itoa (n : Int) (h0 : -9223372036854775808 ≤ n) (h1 : n ≤ 9223372036854775807) : numV (Lib.itoa n) = n ∧ numE (Lib.itoa n) = 0 := by
  have h5 := (itoa_shape n h0 h1).2.2.2.2
  unfold numV numE
  rw [h5, if_pos rfl, if_pos rfl]
  exact ⟨rfl, rfl⟩

end Go.Proofs.YthpkjehoogodkaaDoor
