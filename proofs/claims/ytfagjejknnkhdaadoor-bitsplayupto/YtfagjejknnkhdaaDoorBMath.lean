/- Plain mathematics of words of 64 bits: how many ones a word has, by the way of the library's own text. -/
import Derived.Laws.BitsAllLaws
import Derived.Lib.TrailingZeros
namespace Go.Proofs.YtfagjejknnkhdaaDoor

/-- How many ones the lowest f bits have. -/
def ones : Nat → Nat → Nat
  | 0, _ => 0
  | f + 1, x => x % 2 + ones f (x / 2)

theorem ones_zero (f : Nat) : ones f 0 = 0 := by
  induction f with
  | zero => rfl
  | succ f ih => simp [ones, ih]
theorem ones_le (f x : Nat) : ones f x ≤ f := by
  induction f generalizing x with
  | zero => simp [ones]
  | succ f ih =>
    have := ih (x / 2)
    simp only [ones]
    omega
theorem ones_add (a b x : Nat) : ones (a + b) x = ones a x + ones b (x / 2 ^ a) := by
  induction a generalizing x with
  | zero => simp [ones]
  | succ a ih =>
    rw [show a + 1 + b = (a + b) + 1 by omega, ones, ones, ih, Nat.div_div_eq_div_mul, Nat.pow_succ, Nat.mul_comm 2]
    omega

/-- One byte of the first three steps. -/
def s1 (x : Nat) : Nat := (x / 2 &&& 85) + (x &&& 85)
def s2 (x : Nat) : Nat := (x / 4 &&& 51) + (x &&& 51)
def s3 (x : Nat) : Nat := (x / 16 + x) &&& 15
theorem byte_ones : ∀ b, b < 256 → s3 (s2 (s1 b)) = ones 8 b ∧ s1 b < 256 ∧ s2 (s1 b) < 128 := by decide +kernel

theorem and_split (h b m c : Nat) (hb : b < 256) (hc : c < 256) : (256 * h + b) &&& (256 * m + c) = 256 * (h &&& m) + (b &&& c) := by
  apply Nat.eq_of_testBit_eq
  intro j
  have hbc : b &&& c < 2 ^ 8 := Nat.lt_of_le_of_lt Nat.and_le_left hb
  rw [Nat.testBit_and, show (256 : Nat) = 2 ^ 8 from rfl, Nat.testBit_two_pow_mul_add _ hb, Nat.testBit_two_pow_mul_add _ hc, Nat.testBit_two_pow_mul_add _ hbc]
  split <;> simp [Nat.testBit_and]
/-- Where the mask has none of the highest k bits of a byte, what comes from above is cut off. -/
theorem and_shift (k h b m c : Nat) (hk : k ≤ 8) (hb : b < 256) (hc : c < 2 ^ (8 - k)) : ((256 * h + b) / 2 ^ k) &&& (256 * m + c) = 256 * ((h / 2 ^ k) &&& m) + ((b / 2 ^ k) &&& c) := by
  apply Nat.eq_of_testBit_eq
  intro j
  have hc8 : c < 2 ^ 8 := Nat.lt_of_lt_of_le hc (Nat.pow_le_pow_right (by decide) (by omega))
  have hbc : b / 2 ^ k &&& c < 2 ^ 8 := Nat.lt_of_le_of_lt Nat.and_le_right hc8
  rw [Nat.testBit_and, show (256 : Nat) = 2 ^ 8 from rfl, Nat.testBit_div_two_pow, Nat.testBit_two_pow_mul_add _ hb, Nat.testBit_two_pow_mul_add _ hc8, Nat.testBit_two_pow_mul_add _ hbc]
  by_cases hj : j < 8
  · rw [if_pos hj, if_pos hj, Nat.testBit_and, Nat.testBit_div_two_pow]
    by_cases hjk : j + k < 8
    · rw [if_pos hjk]
    · rw [if_neg hjk]
      have : c.testBit j = false := Nat.testBit_lt_two_pow (Nat.lt_of_lt_of_le hc (Nat.pow_le_pow_right (by decide) (by omega)))
      rw [this]
      simp
  · rw [if_neg hj, if_neg hj, if_neg (by omega), Nat.testBit_and, Nat.testBit_div_two_pow, show j + k - 8 = j - 8 + k by omega]

/-- A mask of n like bytes. -/
def msk (c : Nat) : Nat → Nat
  | 0 => 0
  | n + 1 => 256 * msk c n + c
/-- What the first two steps leave of n bytes; what the third leaves. -/
def y2 : Nat → Nat → Nat
  | 0, _ => 0
  | n + 1, x => 256 * y2 n (x / 256) + s2 (s1 (x % 256))
def z3 : Nat → Nat → Nat
  | 0, _ => 0
  | n + 1, x => 256 * z3 n (x / 256) + ones 8 (x % 256)
def y1 : Nat → Nat → Nat
  | 0, _ => 0
  | n + 1, x => 256 * y1 n (x / 256) + s1 (x % 256)
theorem step1 (n x : Nat) (hx : x < 256 ^ n) : (x / 2 &&& msk 85 n) + (x &&& msk 85 n) = y1 n x := by
  induction n generalizing x with
  | zero => simp [msk, y1]
  | succ n ih =>
    have hd : x / 256 < 256 ^ n := by rw [Nat.pow_succ] at hx; omega
    have := ih (x / 256) hd
    have hb : x % 256 < 256 := Nat.mod_lt _ (by decide)
    have e : x = 256 * (x / 256) + x % 256 := by omega
    have a1 := and_shift 1 (x / 256) (x % 256) (msk 85 n) 85 (by decide) hb (by decide)
    have a2 := and_split (x / 256) (x % 256) (msk 85 n) 85 hb (by decide)
    rw [← e] at a1 a2
    rw [msk, y1, a2, show x / 2 = x / 2 ^ 1 from rfl, a1, s1, ← this]
    simp only [Nat.pow_one]
    omega
theorem y1_get (n x : Nat) : y1 (n + 1) x / 256 = y1 n (x / 256) ∧ y1 (n + 1) x % 256 = s1 (x % 256) := by
  have := (byte_ones (x % 256) (Nat.mod_lt _ (by decide))).2.1
  rw [y1]
  omega
theorem step2 (n x : Nat) : (y1 n x / 4 &&& msk 51 n) + (y1 n x &&& msk 51 n) = y2 n x := by
  induction n generalizing x with
  | zero => simp [msk, y2]
  | succ n ih =>
    have := ih (x / 256)
    have hb := (byte_ones (x % 256) (Nat.mod_lt _ (by decide))).2.1
    have a1 := and_shift 2 (y1 n (x / 256)) (s1 (x % 256)) (msk 51 n) 51 (by decide) hb (by decide)
    have a2 := and_split (y1 n (x / 256)) (s1 (x % 256)) (msk 51 n) 51 hb (by decide)
    rw [msk, y2, y1, a2, show (4 : Nat) = 2 ^ 2 from rfl, a1, s2, ← this]
    simp only [show (2 : Nat) ^ 2 = 4 from rfl]
    omega
theorem nibs : ∀ b, b < 256 → s2 (s1 b) % 16 ≤ 4 ∧ s2 (s1 b) / 16 ≤ 4 := by decide +kernel
theorem y2_nib (n x : Nat) : y2 n x % 16 ≤ 4 := by
  cases n with
  | zero => simp [y2]
  | succ n =>
    have := (nibs (x % 256) (Nat.mod_lt _ (by decide))).1
    rw [y2]
    omega
theorem step3 (n x : Nat) : (y2 n x / 16 + y2 n x) &&& msk 15 n = z3 n x := by
  induction n generalizing x with
  | zero => simp [msk, z3]
  | succ n ih =>
    have hI := ih (x / 256)
    have hb := byte_ones (x % 256) (Nat.mod_lt _ (by decide))
    have hn := nibs (x % 256) (Nat.mod_lt _ (by decide))
    have hY := y2_nib n (x / 256)
    rw [y2, z3, msk]
    have h1 := hb.1
    generalize s2 (s1 (x % 256)) = t at *
    generalize y2 n (x / 256) = Y at *
    have e : (256 * Y + t) / 16 + (256 * Y + t) = 256 * (Y / 16 + Y) + (16 * (Y % 16) + t / 16 + t) := by omega
    have a := and_split (Y / 16 + Y) (16 * (Y % 16) + t / 16 + t) (msk 15 n) 15 (by omega) (by decide)
    rw [e, a, hI, ← h1, s3, nat_mask4, nat_mask4]
    omega
theorem msks : msk 85 8 = 6148914691236517205 ∧ msk 51 8 = 3689348814741910323 ∧ msk 15 8 = 1085102592571150095 := by decide
theorem z8 (x : Nat) : ∃ o0 o1 o2 o3 o4 o5 o6 o7 : Nat, o0 ≤ 8 ∧ o1 ≤ 8 ∧ o2 ≤ 8 ∧ o3 ≤ 8 ∧ o4 ≤ 8 ∧ o5 ≤ 8 ∧ o6 ≤ 8 ∧ o7 ≤ 8 ∧ ones 64 x = o0 + o1 + o2 + o3 + o4 + o5 + o6 + o7 ∧
    z3 8 x = 256 * (256 * (256 * (256 * (256 * (256 * (256 * o7 + o6) + o5) + o4) + o3) + o2) + o1) + o0 := by
  refine ⟨ones 8 (x % 256), ones 8 (x / 256 % 256), ones 8 (x / 256 / 256 % 256), ones 8 (x / 256 / 256 / 256 % 256), ones 8 (x / 256 / 256 / 256 / 256 % 256), ones 8 (x / 256 / 256 / 256 / 256 / 256 % 256), ones 8 (x / 256 / 256 / 256 / 256 / 256 / 256 % 256), ones 8 (x / 256 / 256 / 256 / 256 / 256 / 256 / 256 % 256), ones_le _ _, ones_le _ _, ones_le _ _, ones_le _ _, ones_le _ _, ones_le _ _, ones_le _ _, ones_le _ _, ?_, ?_⟩
  · have hm : ∀ y, ones 8 (y % 256) = ones 8 y := by
      intro y
      simp only [ones]
      omega
    have hs : ∀ k y, ones (8 + k) y = ones 8 y + ones k (y / 256) := fun k y => ones_add 8 k y
    rw [hm, hm, hm, hm, hm, hm, hm, hm, show 64 = 8 + (8 + (8 + (8 + (8 + (8 + (8 + 8)))))) from rfl, hs, hs, hs, hs, hs, hs, hs]
    omega
  · simp only [z3, Nat.mul_zero, Nat.zero_add]
theorem div_of (A X r x : Nat) (h : x = A * X + r) (hr : r < A) : x / A = X := by
  rw [h, Nat.mul_add_div (by omega), Nat.div_eq_of_lt hr]
  rfl
theorem sum_way (o0 o1 o2 o3 o4 o5 o6 o7 z f g h : Nat) (p0 : o0 ≤ 8) (p1 : o1 ≤ 8) (p2 : o2 ≤ 8) (p3 : o3 ≤ 8) (p4 : o4 ≤ 8) (p5 : o5 ≤ 8) (p6 : o6 ≤ 8) (p7 : o7 ≤ 8)
    (hz : z = 256 * (256 * (256 * (256 * (256 * (256 * (256 * o7 + o6) + o5) + o4) + o3) + o2) + o1) + o0) (hf : f = z + z / 256) (hg : g = f + f / 65536) (hh : h = g + g / 4294967296) :
    z < 18446744073709551616 ∧ f < 18446744073709551616 ∧ g < 18446744073709551616 ∧ h < 9223372036854775808 ∧ h % 128 = o0 + o1 + o2 + o3 + o4 + o5 + o6 + o7 := by
  have e1 := div_of _ _ _ _ hz (by omega)
  rw [e1] at hf
  have e2 : f = 65536 * (256 * (256 * (256 * (256 * (256 * o7 + (o6 + o7)) + (o5 + o6)) + (o4 + o5)) + (o3 + o4)) + (o2 + o3)) + (256 * (o1 + o2) + (o0 + o1)) := by rw [hf, hz]; clear hz hf hg hh e1; omega
  have e3 := div_of _ _ _ _ e2 (by clear hz hf hg hh e1 e2; omega)
  rw [e3] at hg
  have e4 : g = 4294967296 * (256 * (256 * (256 * o7 + (o6 + o7)) + (o5 + o6 + o7)) + (o4 + o5 + o6 + o7)) + (256 * (256 * (256 * (o3 + o4 + o5 + o6) + (o2 + o3 + o4 + o5)) + (o1 + o2 + o3 + o4)) + (o0 + o1 + o2 + o3)) := by rw [hg, e2]; clear hz hf hg hh e1 e2 e3; omega
  have e5 := div_of _ _ _ _ e4 (by clear hz hf hg hh e1 e2 e3 e4; omega)
  rw [e5] at hh
  rw [e4] at hh
  have e6 : h = 128 * (2 * (16777216 * (256 * (256 * (256 * o7 + (o6 + o7)) + (o5 + o6 + o7)) + (o4 + o5 + o6 + o7)) + (256 * (256 * (o3 + o4 + o5 + o6) + (o2 + o3 + o4 + o5)) + (o1 + o2 + o3 + o4)) + (256 * (256 * o7 + (o6 + o7)) + (o5 + o6 + o7)))) + (o0 + o1 + o2 + o3 + o4 + o5 + o6 + o7) := by rw [hh]; clear hz hf hg hh e1 e2 e3 e4 e5; omega
  refine ⟨by rw [hz]; clear hz hf hg hh e1 e2 e3 e4 e5 e6; omega, by rw [e2]; clear hz hf hg hh e1 e2 e3 e4 e5 e6; omega, by rw [e4]; clear hz hf hg hh e1 e2 e3 e4 e5 e6; omega, by rw [hh]; clear hz hf hg hh e1 e2 e3 e4 e5 e6; omega, ?_⟩
  rw [e6, Nat.mul_add_mod]
  exact Nat.mod_eq_of_lt (by clear hz hf hg hh e1 e2 e3 e4 e5 e6; omega)
/-- The library's way: every word. -/
theorem ones_way (x : Nat) (hx : x < 18446744073709551616) : ∃ a1 a2 b c1 c2 d s e f g h : Nat,
    a1 = x / 2 &&& 6148914691236517205 ∧ a2 = x &&& 6148914691236517205 ∧ b = a1 + a2 ∧ b < 18446744073709551616 ∧
    c1 = b / 4 &&& 3689348814741910323 ∧ c2 = b &&& 3689348814741910323 ∧ d = c1 + c2 ∧ d < 18446744073709551616 ∧
    s = d / 16 + d ∧ s < 18446744073709551616 ∧ e = s &&& 1085102592571150095 ∧ e < 18446744073709551616 ∧ f = e + e / 256 ∧ f < 18446744073709551616 ∧ g = f + f / 65536 ∧ g < 18446744073709551616 ∧
    h = g + g / 4294967296 ∧ h < 9223372036854775808 ∧ h % 128 = ones 64 x := by
  have m := msks
  have h1 := step1 8 x hx
  have h2 := step2 8 x
  have h3 := step3 8 x
  rw [m.1] at h1
  rw [m.2.1, ← h1] at h2
  rw [m.2.2, ← h2] at h3
  have l1 : x / 2 &&& 6148914691236517205 ≤ 6148914691236517205 := Nat.and_le_right
  have l2 : x &&& 6148914691236517205 ≤ 6148914691236517205 := Nat.and_le_right
  obtain ⟨o0, o1, o2, o3, o4, o5, o6, o7, p0, p1, p2, p3, p4, p5, p6, p7, hs, hz⟩ := z8 x
  have hw := sum_way o0 o1 o2 o3 o4 o5 o6 o7 (z3 8 x) _ _ _ p0 p1 p2 p3 p4 p5 p6 p7 hz rfl rfl rfl
  rw [← hs, ← h3] at hw
  obtain ⟨w1, w2, w3, w4, w5⟩ := hw
  have l3 : ((x / 2 &&& 6148914691236517205) + (x &&& 6148914691236517205)) / 4 &&& 3689348814741910323 ≤ 3689348814741910323 := Nat.and_le_right
  have l4 : ((x / 2 &&& 6148914691236517205) + (x &&& 6148914691236517205)) &&& 3689348814741910323 ≤ 3689348814741910323 := Nat.and_le_right
  exact ⟨_, _, _, _, _, _, _, _, _, _, _, rfl, rfl, rfl, by omega, rfl, rfl, rfl, by omega, rfl, by omega, rfl, w1, rfl, w2, rfl, w3, rfl, w4, w5⟩
end Go.Proofs.YtfagjejknnkhdaaDoor
