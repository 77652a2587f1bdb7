/- What Put leaves, whatever the number. -/
import Derived.Test.YtfagjejknnkhdaaDoorBPartsMath
import Derived.Test.YtfagjejknnkhdaaDoorBSame
import Derived.Test.YtfagjejknnkhdaaDoorBHeads
import Derived.Test.YtfagjejknnkhdaaDoorBLot
import Derived.Test.YtfagjejknnkhdaaDoorBRows
namespace Go.Proofs.YtfagjejknnkhdaaDoor
open Go.RowKit

/-- What Put leaves, whatever the number. -/
theorem put_any {w : World} {sb g cap n : Nat} {ws : List Nat} (h : SetAt w sb g cap n ws) (i : Int) :
    Calls Tryd.prog 13 #[.pointer (some ⟨sb, 0, none⟩), .int .i64 i] w fun e w' => e = .returned (.int .i64 (tk n i)) ∧ SetAt w' sb g cap n (if 0 ≤ i ∧ i < (n : Int) then putW ws i.toNat else ws) ∧ w.grownBy w' (some g) := by
  by_cases hi : 0 ≤ i ∧ i < (n : Int)
  · obtain ⟨k, rfl⟩ : ∃ k : Nat, i = (k : Int) := ⟨i.toNat, by omega⟩
    have e : tk n (k : Int) = 0 := if_pos hi
    rw [e, if_pos hi, Int.toNat_natCast]
    exact put_k h k (by omega)
  · rw [tk_out hi, if_neg hi]
    refine (put_out h i hi).mono ?_
    rintro e w' ⟨rfl, rfl⟩
    exact ⟨rfl, h, grown_refl _ _⟩

end Go.Proofs.YtfagjejknnkhdaaDoor
