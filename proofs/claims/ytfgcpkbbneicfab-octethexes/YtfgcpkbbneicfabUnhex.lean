/- Digits: what Unhex and the document's Unhex read. -/
import Derived.Test.YtfgcpkbbneicfabRefHex
import Derived.Lib.OthersKept
namespace Go.Proofs.Ytfgcpkbbneicfab
open Go.RowKit

/-- A digit's value; 16: it is none. -/
def dv (c : Nat) : Nat := if 48 ≤ c ∧ c ≤ 57 then c - 48 else if 97 ≤ c ∧ c ≤ 102 then c - 97 + 10 else 16

set_option maxRecDepth 100000 in
theorem digit_yes (r : Nat) (h : dv r < 16) (w : World) : Calls Try.prog 12 #[.int .i32 r] w fun e w' => e = .returned (.tuple #[.int .u8 (dv r), .bool true]) ∧ w' = w := by
  by_cases h1 : 48 ≤ r ∧ r ≤ 57
  · have e : dv r = r - 48 := if_pos h1
    obtain ⟨h1, h2⟩ := h1
    rw [e]
    clear h e
    go_enter Try.func12, Try.ntmps12
    go_wp2
    go_ret2
    exact ⟨by
      have : ((r - 48 : Nat) : Int) = (r : Int) - 48 := by omega
      rw [this]
      rfl, rfl⟩
  · by_cases h2 : 97 ≤ r ∧ r ≤ 102
    · have e : dv r = r - 97 + 10 := by unfold dv; rw [if_neg h1, if_pos h2]
      obtain ⟨h2, h3⟩ := h2
      rw [e]
      have h4 : 57 < r := by omega
      clear h e h1
      go_enter Try.func12, Try.ntmps12
      go_wp2
      go_ret2
      exact ⟨by
        have : ((r - 97 + 10 : Nat) : Int) = (r : Int) - 97 + 10 := by omega
        rw [this]
        rfl, rfl⟩
    · exfalso
      unfold dv at h
      rw [if_neg h1, if_neg h2] at h
      omega

set_option maxRecDepth 100000 in
theorem digit_no (r : Nat) (h : dv r = 16) (w : World) : Calls Try.prog 12 #[.int .i32 r] w fun e w' => e = .returned (.tuple #[.int .u8 0, .bool false]) ∧ w' = w := by
  have h1 : ¬ (48 ≤ r ∧ r ≤ 57) := fun h1 => by have e : dv r = r - 48 := if_pos h1; omega
  have h2 : ¬ (97 ≤ r ∧ r ≤ 102) := fun h2 => by have e : dv r = r - 97 + 10 := by { unfold dv; rw [if_neg h1, if_pos h2] }; omega
  clear h
  rcases Nat.lt_or_ge r 48 with a | a
  · clear h1 h2
    go_enter Try.func12, Try.ntmps12
    go_wp2
    go_ret2
    exact ⟨rfl, rfl⟩
  · have a2 : 57 < r := by omega
    rcases Nat.lt_or_ge r 97 with b | b
    · clear h1 h2
      go_enter Try.func12, Try.ntmps12
      go_wp2
      go_ret2
      exact ⟨rfl, rfl⟩
    · have b2 : 102 < r := by omega
      clear h1 h2
      go_enter Try.func12, Try.ntmps12
      go_wp2
      go_ret2
      exact ⟨rfl, rfl⟩

set_option maxRecDepth 100000 in
theorem refDigit_any (r : Nat) (hr : r < 256) (w : World) : Calls Try.prog 13 #[.int .u8 r] w fun e w' => e = .returned (.int .u8 (dv r)) ∧ w' = w := by
  by_cases h1 : 48 ≤ r ∧ r ≤ 57
  · have e : dv r = r - 48 := if_pos h1
    obtain ⟨h1, h2⟩ := h1
    rw [e]
    clear e
    go_enter Try.func13, Try.ntmps13
    go_wp2
    go_ret
    exact ⟨ret_int (by omega), rfl⟩
  · by_cases h2 : 97 ≤ r ∧ r ≤ 102
    · have e : dv r = r - 97 + 10 := by unfold dv; rw [if_neg h1, if_pos h2]
      obtain ⟨h2, h3⟩ := h2
      rw [e]
      have h4 : 57 < r := by omega
      clear e h1
      go_enter Try.func13, Try.ntmps13
      go_wp2
      go_ret
      exact ⟨ret_int (by omega), rfl⟩
    · have e : dv r = 16 := by unfold dv; rw [if_neg h1, if_neg h2]
      rw [e]
      clear e
      rcases Nat.lt_or_ge r 48 with a | a
      · clear h1 h2
        go_enter Try.func13, Try.ntmps13
        go_wp2
        go_ret
        exact ⟨rfl, rfl⟩
      · have a2 : 57 < r := by omega
        rcases Nat.lt_or_ge r 97 with b | b
        · clear h1 h2
          go_enter Try.func13, Try.ntmps13
          go_wp2
          go_ret
          exact ⟨rfl, rfl⟩
        · have b2 : 102 < r := by omega
          clear h1 h2
          go_enter Try.func13, Try.ntmps13
          go_wp2
          go_ret
          exact ⟨rfl, rfl⟩
end Go.Proofs.Ytfgcpkbbneicfab
