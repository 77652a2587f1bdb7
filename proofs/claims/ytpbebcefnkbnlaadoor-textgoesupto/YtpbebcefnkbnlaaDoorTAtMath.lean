/- Line and column of a place. -/
import Derived.Test.YtpbebcefnkbnlaaDoorTRegion
namespace Go.Proofs.YtpbebcefnkbnlaaDoor
open Go.RowKit

/-- Line and column of the place o, gone to from the rune that begins at k. -/
def atR (o : Nat) : Nat → Nat → Nat → List (Int × Nat) → Nat × Nat
  | _, line, col, [] => (line, col)
  | k, line, col, (r, n) :: t => if k < o then atR o (k + n) (bLine line r) (bCol col r) t else (line, col)
theorem bLine_le (line : Nat) (r : Int) : bLine line r ≤ line + 1 := by unfold bLine; split <;> omega
theorem bCol_le (col : Nat) (r : Int) : bCol col r ≤ col + 1 := by unfold bCol; split <;> omega
/-- A list's next element, and where one is behind it. -/
theorem elS_next {pre post : List El} {x : El} {k line col : Nat} {t : List (Int × Nat)} (h : pre ++ elS k line col t = pre ++ x :: post) : ∃ r n t', t = (r, n) :: t' ∧ x = ⟨k, line, col, r⟩ ∧ post = elS (k + n) (bLine line r) (bCol col r) t' := by
  have h := List.append_cancel_left h
  match t, h with
  | [], h => rw [elS] at h; cases h
  | (r, n) :: t', h =>
    rw [elS_step] at h
    obtain ⟨e1, e2⟩ := List.cons.inj h
    exact ⟨r, n, t', rfl, e1.symm, e2.symm⟩
end Go.Proofs.YtpbebcefnkbnlaaDoor
