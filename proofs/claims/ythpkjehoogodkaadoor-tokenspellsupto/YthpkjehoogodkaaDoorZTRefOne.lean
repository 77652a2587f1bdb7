/- The document's one rune at a place: the text's own. -/
import Derived.Test.YthpkjehoogodkaaDoorZTRefRune
namespace Go.Proofs.YthpkjehoogodkaaDoor
open Go.RowKit

/-- What is known of the four bytes at a place. -/
theorem one_dec (s : ByteArray) (i : Nat) : Lib.decodeL (s.data.toList.drop i) = Lib.decodeN (s.size - i) (bt s i) (bt s (i + 1)) (bt s (i + 2)) (bt s (i + 3)) := by
  rw [Lib.decodeL_N, bt_drop, bt_drop, bt_drop, bt_drop, List.length_drop, Array.length_toList]
  rfl
theorem one_rv {s : ByteArray} {i r k : Nat} (h : Lib.decodeN (s.size - i) (bt s i) (bt s (i + 1)) (bt s (i + 2)) (bt s (i + 3)) = (r, k)) (hn : ¬ (r = 65533 ∧ k = 1)) : rv (s.data.toList.drop i) = (r : Int) ∧ wd (s.data.toList.drop i) = k := by
  unfold rv wd
  rw [one_dec, h]
  exact ⟨if_neg hn, rfl⟩
theorem one_bad {s : ByteArray} {i : Nat} (h : Lib.decodeN (s.size - i) (bt s i) (bt s (i + 1)) (bt s (i + 2)) (bt s (i + 3)) = (65533, 1)) : rv (s.data.toList.drop i) = -1 ∧ wd (s.data.toList.drop i) = 1 := by
  unfold rv wd
  rw [one_dec, h]
  exact ⟨rfl, rfl⟩
theorem cB_yes {s : ByteArray} {j lo hi : Nat} (h : cB s j lo hi = true) : j < s.size ∧ lo ≤ bt s j ∧ bt s j ≤ hi := of_decide_eq_true h
theorem cB_no {s : ByteArray} {j lo hi : Nat} (h : cB s j lo hi = false) : ¬ (j < s.size ∧ lo ≤ bt s j ∧ bt s j ≤ hi) := of_decide_eq_false h

theorem one_1 {s : ByteArray} {i : Nat} (h : bt s i < 128) : rv (s.data.toList.drop i) = (bt s i : Int) ∧ wd (s.data.toList.drop i) = 1 :=
  one_rv (Lib.decodeN_ascii _ _ _ _ _ h) (by omega)
theorem one_2 {s : ByteArray} {i : Nat} (h0 : 194 ≤ bt s i) (h1 : bt s i ≤ 223) (hc : cB s (i + 1) 128 191 = true) : rv (s.data.toList.drop i) = ((bt s i % 32 * 64 + bt s (i + 1) % 64 : Nat) : Int) ∧ wd (s.data.toList.drop i) = 2 := by
  obtain ⟨c1, c2, c3⟩ := cB_yes hc
  refine one_rv ?_ (by omega)
  unfold Lib.decodeN
  rw [if_neg (by omega), if_pos ⟨by omega, by omega, by omega⟩, if_pos (by omega)]
theorem one_3 {s : ByteArray} {i lo hi : Nat} (h0 : 224 ≤ bt s i) (h1 : bt s i ≤ 239) (hlo : lo = if bt s i = 224 then 160 else 128) (hhi : hi = if bt s i = 237 then 159 else 191) (hc : cB s (i + 1) lo hi = true) (hd : cB s (i + 2) 128 191 = true) :
    rv (s.data.toList.drop i) = ((bt s i % 16 * 4096 + bt s (i + 1) % 64 * 64 + bt s (i + 2) % 64 : Nat) : Int) ∧ wd (s.data.toList.drop i) = 3 := by
  obtain ⟨c1, c2, c3⟩ := cB_yes hc
  obtain ⟨d1, d2, d3⟩ := cB_yes hd
  refine one_rv ?_ (by omega)
  unfold Lib.decodeN
  split at hlo
  all_goals split at hhi
  all_goals rw [if_neg (by omega), if_neg (by omega), if_pos ⟨by omega, ⟨by omega, by omega⟩, ⟨by omega, by omega⟩⟩, if_pos (by omega)]
theorem one_4 {s : ByteArray} {i lo hi : Nat} (h0 : 240 ≤ bt s i) (h1 : bt s i ≤ 244) (hlo : lo = if bt s i = 240 then 144 else 128) (hhi : hi = if bt s i = 244 then 143 else 191) (hc : cB s (i + 1) lo hi = true) (hd : cB s (i + 2) 128 191 = true) (he : cB s (i + 3) 128 191 = true) :
    rv (s.data.toList.drop i) = ((bt s i % 8 * 262144 + bt s (i + 1) % 64 * 4096 + bt s (i + 2) % 64 * 64 + bt s (i + 3) % 64 : Nat) : Int) ∧ wd (s.data.toList.drop i) = 4 := by
  obtain ⟨c1, c2, c3⟩ := cB_yes hc
  obtain ⟨d1, d2, d3⟩ := cB_yes hd
  obtain ⟨e1, e2, e3⟩ := cB_yes he
  refine one_rv ?_ (by omega)
  unfold Lib.decodeN
  split at hlo
  all_goals split at hhi
  all_goals rw [if_neg (by omega), if_neg (by omega), if_neg (by omega), if_pos ⟨by omega, ⟨by omega, by omega⟩, ⟨by omega, by omega⟩, ⟨by omega, by omega⟩⟩, if_pos (by omega)]
/-- None of the four. -/
theorem one_0 {s : ByteArray} {i : Nat} (h1 : ¬ bt s i < 128) (h2 : ¬ (194 ≤ bt s i ∧ bt s i ≤ 223 ∧ cB s (i + 1) 128 191 = true))
    (h3 : ¬ (224 ≤ bt s i ∧ bt s i ≤ 239 ∧ cB s (i + 1) (if bt s i = 224 then 160 else 128) (if bt s i = 237 then 159 else 191) = true ∧ cB s (i + 2) 128 191 = true))
    (h4 : ¬ (240 ≤ bt s i ∧ bt s i ≤ 244 ∧ cB s (i + 1) (if bt s i = 240 then 144 else 128) (if bt s i = 244 then 143 else 191) = true ∧ cB s (i + 2) 128 191 = true ∧ cB s (i + 3) 128 191 = true)) :
    rv (s.data.toList.drop i) = -1 ∧ wd (s.data.toList.drop i) = 1 := by
  have k0 := bt_lt s i
  have k1 := bt_lt s (i + 1)
  have k2 := bt_lt s (i + 2)
  have k3 := bt_lt s (i + 3)
  simp only [cB, decide_eq_true_eq] at h2 h3 h4
  refine one_bad ?_
  rcases Lib.decodeN_shape (s.size - i) (bt s i) (bt s (i + 1)) (bt s (i + 2)) (bt s (i + 3)) with ⟨c, e⟩ | ⟨c1, c2, c3, cv, e⟩ | ⟨c1, c2, c3, c4, cv, cs, e⟩ | ⟨c1, c2, c3, c4, c5, cv, cw, e⟩ | e
  · omega
  · exfalso
    exact h2 ⟨by omega, by omega, by omega, by omega, by omega⟩
  · exfalso
    refine h3 ⟨by omega, by omega, ⟨by omega, ?_, ?_⟩, by omega, by omega, by omega⟩
    · split <;> omega
    · split <;> omega
  · exfalso
    refine h4 ⟨by omega, by omega, ⟨by omega, ?_, ?_⟩, ⟨by omega, by omega, by omega⟩, by omega, by omega, by omega⟩
    · split <;> omega
    · split <;> omega
  · exact e

/-! ### bits -/
theorem mask5 (x : Nat) (hx : x < 256) : bits .and .u8 (x : Int) 31 = ((x % 32 : Nat) : Int) := by
  have h := u8_and_nat x 31 hx (by decide)
  rw [nat_mask5] at h
  exact h
theorem mask4 (x : Nat) (hx : x < 256) : bits .and .u8 (x : Int) 15 = ((x % 16 : Nat) : Int) := and15 x hx
theorem mask3 (x : Nat) (hx : x < 256) : bits .and .u8 (x : Int) 7 = ((x % 8 : Nat) : Int) := by
  have h := u8_and_nat x 7 hx (by decide)
  rw [nat_mask3] at h
  exact h
theorem mask6 (x : Nat) (hx : x < 256) : bits .and .u8 (x : Int) 63 = ((x % 64 : Nat) : Int) := by
  have h := u8_and_nat x 63 hx (by decide)
  rw [nat_mask6] at h
  exact h
theorem i64_or (k : Nat) (a b : Nat) (ha : a < 1048576) (hb : b < 2 ^ k) (hk : k ≤ 18) : bits .or .i64 ((a : Int) * (2 ^ k : Nat)) (b : Int) = (a : Int) * (2 ^ k : Nat) + b := by
  have h1 : (2 : Nat) ^ k ≤ 2 ^ 18 := Nat.pow_le_pow_right (by decide) hk
  have h2 : a * 2 ^ k ≤ 1048576 * 2 ^ 18 := Nat.mul_le_mul (by omega) h1
  have h := (bits_nat .i64 62 (by decide) (fun n h0 h1 => by rw [IntKind.wrap_i64]; omega) (a * 2 ^ k) b (by omega) (by omega)).2
  have e : a * 2 ^ k ||| b = a * 2 ^ k + b := by
    rw [Nat.mul_comm, ← Nat.two_pow_add_eq_or_of_lt hb]
  rw [e] at h
  push_cast at h ⊢
  exact h
end Go.Proofs.YthpkjehoogodkaaDoor
