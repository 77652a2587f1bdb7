/- The document's runes: one, by the table of UTF-8. -/
import Derived.Test.YthpkjehoogodkaaDoorGQuote
import Derived.BigRegion
import Derived.Deep.RegionHeld3
import Derived.Deep.QuietTactic
import Derived.BigQuiet
namespace Go.Proofs.YthpkjehoogodkaaDoor
open Go.RowKit

/-- The byte at a place, as a number. -/
def bt (s : ByteArray) (j : Nat) : Nat := (s.data.toList.getD j 0).toNat
theorem bt_lt (s : ByteArray) (j : Nat) : bt s j < 256 := UInt8.toNat_lt _
theorem bt_get (s : ByteArray) (j : Nat) (h : j < s.size) : (s[j]'h).toNat = bt s j := byte_at s j h
theorem bt_drop (s : ByteArray) (i j : Nat) : ((s.data.toList.drop i).getD j 0).toNat = bt s (i + j) := by
  unfold bt
  rw [List.getD_eq_getElem?_getD, List.getElem?_drop, ← List.getD_eq_getElem?_getD]

/-- Is there a byte from lo to hi? -/
def cB (s : ByteArray) (j lo hi : Nat) : Bool := decide (j < s.size ∧ lo ≤ bt s j ∧ bt s j ≤ hi)

set_option maxRecDepth 100000 in
theorem cont_k (s : ByteArray) (_ : s.size ≤ 1048576) (j : Nat) (x : Int) (hx : x = j) (lo hi : Nat) (b : Bool) (hb : cB s j lo hi = b) (w : World) :
    Calls Tryd.prog 56 #[.string s, .int .i64 x, .int .u8 (lo : Int), .int .u8 (hi : Int)] w fun e w' => e = .returned (.bool b) ∧ w = w' := by
  subst hx hb
  by_cases hlt : j < s.size
  · have hby := bt_get s j hlt
    have hc : cB s j lo hi = (decide (lo ≤ bt s j) && decide (bt s j ≤ hi)) := by simp [cB, hlt]
    rw [hc]
    by_cases h1 : lo ≤ bt s j
    · have e1 : decide ((lo : Int) ≤ (bt s j : Int)) = true := by simpa using h1
      by_cases h2 : bt s j ≤ hi
      · have e2 : decide ((bt s j : Int) ≤ (hi : Int)) = true := by simpa using h2
        go_enter Tryd.func56, Tryd.ntmps56
        go_wp2
        go_ret
        simp [h1, h2]
      · have e2 : decide ((bt s j : Int) ≤ (hi : Int)) = false := by simpa using h2
        go_enter Tryd.func56, Tryd.ntmps56
        go_wp2
        go_ret
        simp [h2]
    · have e1 : decide ((lo : Int) ≤ (bt s j : Int)) = false := by simpa using h1
      go_enter Tryd.func56, Tryd.ntmps56
      go_wp2
      go_ret
      simp [h1]
  · have hc : cB s j lo hi = false := by simp [cB, hlt]
    rw [hc]
    go_enter Tryd.func56, Tryd.ntmps56
    go_wp2
    go_ret
    exact ⟨rfl, rfl⟩
end Go.Proofs.YthpkjehoogodkaaDoor
