/- Whole numbers below 2^53 as floats: what is reckoned with them is exact. -/
import Derived.WalkKit
import Derived.Laws.ComplexArith
namespace Go.Proofs.YtgglommnipbagaaGreatDoor

/-- The word stands for that whole number (a zero of either sign). -/
def Rep (b : Nat) (n : Int) : Prop := ∃ (s : Bool) (k : Nat), Ieee.double.read b = .number s (n.natAbs * 2 ^ k) (-(k : Int)) ∧ (n < 0 → s = true) ∧ (0 < n → s = false)
theorem gapOne (s : Bool) (n : Nat) : Ieee.Toward.even.cut s n 0 = n := by
  have h : n % 1 = 0 := Nat.mod_one n
  simp [Ieee.Toward.cut, h]
theorem log2_shift {N : Nat} (h : 0 < N) (k : Nat) : (N * 2 ^ k).log2 = N.log2 + k := by
  have h2 : N * 2 ^ k ≠ 0 := Nat.mul_ne_zero (by omega) (by have := Nat.two_pow_pos k; omega)
  rw [Nat.log2_eq_iff h2]
  obtain ⟨a, b⟩ := (Nat.log2_eq_iff (n := N) (by omega)).1 rfl
  have hp := Nat.two_pow_pos k
  constructor
  · rw [Nat.pow_add]; exact Nat.mul_le_mul_right _ a
  · rw [show N.log2 + k + 1 = (N.log2 + 1) + k by omega, Nat.pow_add]; exact Nat.mul_lt_mul_of_pos_right b hp
theorem cut_whole (way : Ieee.Toward) (hw : way = .even ∨ way = .zero) (s : Bool) {M : Nat} (hM : 0 < M) (d : Nat) : way.cut s (M * 2 ^ d) d = M := by
  have hl := log2_shift hM d
  have hm : min d ((M * 2 ^ d).log2 + 2) = d := by rw [hl]; omega
  have hp := Nat.two_pow_pos d
  have hq : M * 2 ^ d / 2 ^ d = M := Nat.mul_div_cancel _ hp
  have hr : M * 2 ^ d % 2 ^ d = 0 := Nat.mul_mod_left _ _
  unfold Ieee.Toward.cut
  simp only [hm, Nat.one_shiftLeft, hq, hr]
  rcases hw with rfl | rfl
  · have : ¬ (2 ^ d < 2 * 0) := by omega
    have h2 : ¬ (2 ^ d = 2 * 0) := by omega
    simp [this]
  · simp
theorem cut_zero (way : Ieee.Toward) (hw : way = .even ∨ way = .zero) (s : Bool) (d : Nat) : way.cut s 0 d = 0 := by
  have hp : 0 < 1 <<< min d (Nat.log2 0 + 2) := by rw [Nat.one_shiftLeft]; exact Nat.two_pow_pos _
  unfold Ieee.Toward.cut
  generalize 1 <<< min d (Nat.log2 0 + 2) = g at *
  rcases hw with rfl | rfl
  · simp
  · simp
theorem read_word (s : Bool) (r : Nat) (h1 : 2 ^ 52 ≤ r) (h2 : r < 2047 * 2 ^ 52) : Ieee.double.read (Ieee.double.word s r) = .number s (2 ^ 52 + r % 2 ^ 52) (-1074 + (r / 2 ^ 52 - 1 : Nat)) := by
  have e1 : Ieee.double.signWeight = 2 ^ 63 := rfl
  have e2 : Ieee.double.binade = 2 ^ 52 := rfl
  have e3 : Ieee.double.infRung = 2047 * 2 ^ 52 := rfl
  have e4 : Ieee.double.leastPlace = -1074 := rfl
  have hr : r < 2 ^ 63 := by omega
  unfold Ieee.Format.read Ieee.Format.word
  rw [e1, e2, e3, e4]
  cases s
  · have q : r / 2 ^ 63 = 0 := Nat.div_eq_of_lt hr
    have m : r % 2 ^ 63 = r := Nat.mod_eq_of_lt hr
    simp only [Bool.false_eq_true, if_false, q, m, Nat.zero_mod]
    rw [if_neg (by omega), if_pos h2]
    rfl
  · have q : (2 ^ 63 + r) / 2 ^ 63 = 1 := by omega
    have m : (2 ^ 63 + r) % 2 ^ 63 = r := by omega
    simp only [if_true, q, m]
    rw [if_neg (by omega), if_pos h2]
    rfl
theorem read_zero (s : Bool) : Ieee.double.read (Ieee.double.word s 0) = .number s 0 (-1074) := by cases s <;> rfl
theorem rung_min {L K : Nat} (hL : L ≤ 52) (h2 : K < 2 ^ 53) : min ((L + 1022) * 2 ^ 52 + K) (2047 * 2 ^ 52) = (L + 1022) * 2 ^ 52 + K := Nat.min_eq_left (by omega)
theorem rung_read (s : Bool) (L K : Nat) (hL : L ≤ 52) (h1 : 2 ^ 52 ≤ K) (h2 : K < 2 ^ 53) : Ieee.double.read (Ieee.double.word s ((L + 1022) * 2 ^ 52 + K)) = .number s K (-((52 - L : Nat) : Int)) := by
  obtain ⟨f, hf⟩ : ∃ f, K = 2 ^ 52 + f := ⟨K - 2 ^ 52, by omega⟩
  have hf2 : f < 2 ^ 52 := by omega
  have hr : (L + 1022) * 2 ^ 52 + K = 2 ^ 52 * (L + 1023) + f := by omega
  have m1 : (2 ^ 52 * (L + 1023) + f) % 2 ^ 52 = f := by rw [Nat.mul_add_mod, Nat.mod_eq_of_lt hf2]
  have m2 : (2 ^ 52 * (L + 1023) + f) / 2 ^ 52 = L + 1023 := by rw [Nat.mul_add_div (by decide), Nat.div_eq_of_lt hf2, Nat.add_zero]
  have r1 : 2 ^ 52 ≤ 2 ^ 52 * (L + 1023) + f := by omega
  have r2 : 2 ^ 52 * (L + 1023) + f < 2047 * 2 ^ 52 := by omega
  have t : (-1074 : Int) + (L + 1023 - 1 : Nat) = -((52 - L : Nat) : Int) := by clear hr m1 m2 r1 r2; omega
  rw [hr, read_word s _ r1 r2, m1, m2, ← hf, t]
theorem write_rep (s : Bool) (N k : Nat) (hN : N < 2 ^ 53) : ∃ k' : Nat, Ieee.double.read (Ieee.double.write (.number s (N * 2 ^ k) (-(k : Int)))) = .number s (N * 2 ^ k') (-(k' : Int)) := by
  by_cases h0 : N = 0
  · subst h0
    obtain ⟨K, hK⟩ : ∃ K : Nat, -(K : Int) = -1074 := ⟨1074, rfl⟩
    refine ⟨K, ?_⟩
    rw [Nat.zero_mul, Nat.zero_mul, hK]
    unfold Ieee.Format.write
    dsimp only
    unfold Ieee.Format.nearest
    rw [if_pos rfl]
    exact read_zero s
  · have hpos : 0 < N := by omega
    have hl := log2_shift hpos k
    have hne : N * 2 ^ k ≠ 0 := Nat.mul_ne_zero h0 (by have := Nat.two_pow_pos k; omega)
    obtain ⟨L, hL⟩ : ∃ L, N.log2 = L := ⟨_, rfl⟩
    obtain ⟨a, b⟩ := (Nat.log2_eq_iff h0).1 hL
    have hL52 : L ≤ 52 := by
      have := (Nat.log2_lt (k := 53) h0).2 hN
      omega
    rw [hL] at hl
    have e0 : Ieee.double.fractionBits = 52 := rfl
    have e4 : Ieee.double.leastPlace = -1074 := rfl
    have e2 : Ieee.double.binade = 2 ^ 52 := rfl
    have e3 : Ieee.double.infRung = 2047 * 2 ^ 52 := rfl
    have hlast : max (-(k : Int) + ((N * 2 ^ k).log2 : Nat) - (52 : Nat)) (-1074) = (L : Int) - 52 := by rw [hl]; omega
    have hkept : Ieee.Toward.even.cut s ((N * 2 ^ k) <<< (-(k : Int) - ((L : Int) - 52)).toNat) (((L : Int) - 52) - -(k : Int)).toNat = N * 2 ^ (52 - L) := by
      rcases Nat.lt_or_ge (52 - L) k with h | h
      · have t1 : (-(k : Int) - ((L : Int) - 52)).toNat = 0 := by omega
        have t2 : (((L : Int) - 52) - -(k : Int)).toNat = k - (52 - L) := by omega
        rw [t1, t2, Nat.shiftLeft_zero]
        have : N * 2 ^ k = (N * 2 ^ (52 - L)) * 2 ^ (k - (52 - L)) := by rw [Nat.mul_assoc, ← Nat.pow_add, show 52 - L + (k - (52 - L)) = k by omega]
        rw [this]
        exact cut_whole .even (.inl rfl) s (Nat.mul_pos hpos (Nat.two_pow_pos _)) _
      · have t1 : (-(k : Int) - ((L : Int) - 52)).toNat = 52 - L - k := by omega
        have t2 : (((L : Int) - 52) - -(k : Int)).toNat = 0 := by omega
        rw [t1, t2, Nat.shiftLeft_eq, gapOne, Nat.mul_assoc, ← Nat.pow_add, show k + (52 - L - k) = 52 - L by omega]
    have hk1 : 2 ^ 52 ≤ N * 2 ^ (52 - L) := by
      have : 2 ^ L * 2 ^ (52 - L) = 2 ^ 52 := by rw [← Nat.pow_add, show L + (52 - L) = 52 by omega]
      rw [← this]; exact Nat.mul_le_mul_right _ a
    have hk2 : N * 2 ^ (52 - L) < 2 ^ 53 := by
      have : 2 ^ (L + 1) * 2 ^ (52 - L) = 2 ^ 53 := by rw [← Nat.pow_add, show L + 1 + (52 - L) = 53 by omega]
      rw [← this]; exact Nat.mul_lt_mul_of_pos_right b (Nat.two_pow_pos _)
    generalize hK : N * 2 ^ (52 - L) = K at *
    have ht : ((L : Int) - 52 - -1074).toNat = L + 1022 := by omega
    have hmin := rung_min hL52 hk2
    refine ⟨52 - L, ?_⟩
    unfold Ieee.Format.write
    dsimp only
    unfold Ieee.Format.nearest
    rw [if_neg hne]
    dsimp only
    rw [e0, e4, hlast, hkept, ht, e2, e3, hmin]
    rw [rung_read s L K hL52 hk1 hk2, hK]
theorem rep_write {s : Bool} {n : Int} {k : Nat} (hn : n.natAbs < 2 ^ 53) (h1 : n < 0 → s = true) (h2 : 0 < n → s = false) : Rep (Ieee.double.write (.number s (n.natAbs * 2 ^ k) (-(k : Int)))) n := by
  obtain ⟨k', e⟩ := write_rep s n.natAbs k hn
  exact ⟨s, k', e, h1, h2⟩
theorem rep_int (n : Int) (hn : n.natAbs < 2 ^ 53) : Rep (floatOfInt .f64 n) n := by
  have := rep_write (s := decide (n < 0)) (n := n) (k := 0) hn (by simp) (by simp; omega)
  simpa [floatOfInt, FloatKind.nearest, FloatKind.encode, FloatKind.format] using this
theorem signed_eq {n : Int} {s : Bool} {k up : Nat} (h1 : n < 0 → s = true) (h2 : 0 < n → s = false) : Ieee.signed s (n.natAbs * 2 ^ k) up = n * 2 ^ (k + up) := by
  have hz : ((n.natAbs * 2 ^ k) <<< up : Nat) = n.natAbs * 2 ^ (k + up) := by rw [Nat.shiftLeft_eq, Nat.mul_assoc, ← Nat.pow_add]
  have hc : ((n.natAbs * 2 ^ (k + up) : Nat) : Int) = (n.natAbs : Int) * 2 ^ (k + up) := by simp
  unfold Ieee.signed
  rw [hz, hc]
  rcases Int.lt_trichotomy n 0 with h | h | h
  · rw [h1 h, if_pos rfl, show (n.natAbs : Int) = -n by omega, Int.neg_mul, Int.neg_neg]
  · subst h; simp
  · rw [h2 h, if_neg (by simp), show (n.natAbs : Int) = n by omega]
theorem sum_rep {s t : Bool} {a b : Int} {i j : Nat} (ha1 : a < 0 → s = true) (ha2 : 0 < a → s = false) (hb1 : b < 0 → t = true) (hb2 : 0 < b → t = false) (h : (a + b).natAbs < 2 ^ 53) :
    ∃ r, ((Ieee.Datum.number s (a.natAbs * 2 ^ i) (-(i : Int))).sum (.number t (b.natAbs * 2 ^ j) (-(j : Int)))).map Ieee.double.write = some r ∧ Rep r (a + b) := by
  obtain ⟨K, hK⟩ : ∃ K : Nat, K = max i j := ⟨_, rfl⟩
  have hb : min (-(i : Int)) (-(j : Int)) = -(K : Int) := by omega
  have hi : (-(i : Int) - -(K : Int)).toNat = K - i := by omega
  have hj : (-(j : Int) - -(K : Int)).toNat = K - j := by omega
  have hp : (0 : Int) < 2 ^ K := by have := Nat.two_pow_pos K; exact_mod_cast this
  have ht : a * 2 ^ (i + (K - i)) + b * 2 ^ (j + (K - j)) = (a + b) * 2 ^ K := by
    rw [show i + (K - i) = K by omega, show j + (K - j) = K by omega, Int.add_mul]
  have hna : ((a + b) * 2 ^ K).natAbs = (a + b).natAbs * 2 ^ K := by
    rw [Int.natAbs_mul, Int.natAbs_pow]; rfl
  refine ⟨Ieee.double.write (.number (if (a + b) * 2 ^ K = 0 then s && t else decide ((a + b) * 2 ^ K < 0)) ((a + b).natAbs * 2 ^ K) (-(K : Int))), ?_, ?_⟩
  · simp only [Ieee.Datum.sum, hb, hi, hj, signed_eq ha1 ha2, signed_eq hb1 hb2, ht, Option.map_some, hna]
  · refine rep_write h ?_ ?_
    · intro hn
      have : (a + b) * 2 ^ K < 0 := Int.mul_neg_of_neg_of_pos hn hp
      rw [if_neg (by omega)]; simpa using this
    · intro hn
      have : 0 < (a + b) * 2 ^ K := Int.mul_pos hn hp
      rw [if_neg (by omega)]; simp; omega
theorem add_rep {x y : Nat} {a b : Int} (hx : Rep x a) (hy : Rep y b) (h : (a + b).natAbs < 2 ^ 53) : ∃ r, floatBits .add .f64 x y = some r ∧ Rep r (a + b) := by
  obtain ⟨s, i, e1, p1, p2⟩ := hx
  obtain ⟨t, j, e2, q1, q2⟩ := hy
  obtain ⟨r, h1, h2⟩ := sum_rep (i := i) (j := j) p1 p2 q1 q2 h
  refine ⟨r, ?_, h2⟩
  show Ieee.double.add x y = some r
  unfold Ieee.Format.add
  rw [e1, e2]; exact h1
theorem sub_rep {x y : Nat} {a b : Int} (hx : Rep x a) (hy : Rep y b) (h : (a - b).natAbs < 2 ^ 53) : ∃ r, floatBits .sub .f64 x y = some r ∧ Rep r (a - b) := by
  obtain ⟨s, i, e1, p1, p2⟩ := hx
  obtain ⟨t, j, e2, q1, q2⟩ := hy
  obtain ⟨r, h1, h2⟩ := sum_rep (a := a) (b := -b) (t := !t) (i := i) (j := j) p1 p2 (fun hh => by simp [q2 (by omega)]) (fun hh => by simp [q1 (by omega)]) (by rwa [← Int.sub_eq_add_neg])
  refine ⟨r, ?_, by rw [Int.sub_eq_add_neg]; exact h2⟩
  show Ieee.double.sub x y = some r
  unfold Ieee.Format.sub
  rw [e1, e2]
  simp only [Ieee.Datum.opposite]
  rw [Int.natAbs_neg] at h1
  exact h1
theorem mul_rep {x y : Nat} {a b : Int} (hx : Rep x a) (hy : Rep y b) (h : (a * b).natAbs < 2 ^ 53) : ∃ r, floatBits .mul .f64 x y = some r ∧ Rep r (a * b) := by
  obtain ⟨s, i, e1, p1, p2⟩ := hx
  obtain ⟨t, j, e2, q1, q2⟩ := hy
  have hm : a.natAbs * 2 ^ i * (b.natAbs * 2 ^ j) = (a * b).natAbs * 2 ^ (i + j) := by
    rw [Int.natAbs_mul, Nat.pow_add, Nat.mul_mul_mul_comm]
  have hp : (-(i : Int)) + (-(j : Int)) = -((i + j : Nat) : Int) := by omega
  refine ⟨Ieee.double.write (.number (s ^^ t) ((a * b).natAbs * 2 ^ (i + j)) (-((i + j : Nat) : Int))), ?_, ?_⟩
  · show Ieee.double.mul x y = some _
    unfold Ieee.Format.mul
    rw [e1, e2]
    simp only [Ieee.Datum.product, Option.map_some, hm, hp]
  · refine rep_write h ?_ ?_
    · intro hn
      rcases Int.lt_trichotomy a 0 with ha | ha | ha
      · rcases Int.lt_trichotomy b 0 with hb | hb | hb
        · have := Int.mul_pos_of_neg_of_neg ha hb; omega
        · subst hb; simp at hn
        · rw [p1 ha, q2 hb]; rfl
      · subst ha; simp at hn
      · rcases Int.lt_trichotomy b 0 with hb | hb | hb
        · rw [p2 ha, q1 hb]; rfl
        · subst hb; simp at hn
        · have := Int.mul_pos ha hb; omega
    · intro hn
      rcases Int.lt_trichotomy a 0 with ha | ha | ha
      · rcases Int.lt_trichotomy b 0 with hb | hb | hb
        · rw [p1 ha, q1 hb]; rfl
        · subst hb; simp at hn
        · have := Int.mul_neg_of_neg_of_pos ha hb; omega
      · subst ha; simp at hn
      · rcases Int.lt_trichotomy b 0 with hb | hb | hb
        · have := Int.mul_neg_of_pos_of_neg ha hb; omega
        · subst hb; simp at hn
        · rw [p2 ha, q2 hb]; rfl
theorem int_rep {x : Nat} {a : Int} (hx : Rep x a) (h1 : -9223372036854775808 ≤ a) (h2 : a ≤ 9223372036854775807) : floatToIntVal .f64 x .i64 = some a := by
  obtain ⟨s, k, e, p1, p2⟩ := hx
  have hd : FloatKind.decode .f64 x = .number s (a.natAbs * 2 ^ k) (-(k : Int)) := e
  have hc : Ieee.Toward.zero.cut s (a.natAbs * 2 ^ k) k = a.natAbs := by
    by_cases h0 : a.natAbs = 0
    · rw [h0, Nat.zero_mul]; exact cut_zero .zero (.inr rfl) s k
    · exact cut_whole .zero (.inr rfl) s (by omega) k
  have ht : (FloatKind.decode .f64 x).toInt .zero = some a := by
    rw [hd]
    simp only [Ieee.Datum.toInt, Ieee.Datum.integral]
    have z : (-(k : Int)).toNat = 0 := by omega
    have z2 : (- -(k : Int)).toNat = k := by omega
    rw [z, z2, Nat.shiftLeft_zero, hc]
    have := signed_eq (n := a) (s := s) (k := 0) (up := 0) p1 p2
    simpa using this
  unfold floatToIntVal
  rw [ht]
  have m1 : IntKind.min .i64 = -9223372036854775808 := rfl
  have m2 : IntKind.max .i64 = 9223372036854775807 := rfl
  simp only [m1, m2, h1, h2, and_self, if_true]
theorem neg_rep {x : Nat} {a : Int} (hx : Rep x a) : Rep (Op.negFloat .f64 x) (-a) := by
  obtain ⟨s, k, e, p1, p2⟩ := hx
  have e1 : Ieee.double.signWeight = 2 ^ 63 := rfl
  have hm : (x ^^^ 2 ^ 63) % 2 ^ 63 = x % 2 ^ 63 := by rw [Nat.xor_mod_two_pow, Nat.mod_self, Nat.xor_zero]
  have hd : (x ^^^ 2 ^ 63) / 2 ^ 63 = (x / 2 ^ 63) ^^^ 1 := by rw [Nat.xor_div_two_pow, Nat.div_self (by decide)]
  have hb : ((x ^^^ 2 ^ 63) / 2 ^ 63 % 2 == 1) = !(x / 2 ^ 63 % 2 == 1) := by
    rw [hd]
    have h1 : ((x / 2 ^ 63) ^^^ 1) % 2 ^ 1 = (x / 2 ^ 63) % 2 ^ 1 ^^^ 1 % 2 ^ 1 := Nat.xor_mod_two_pow
    rw [Nat.pow_one] at h1
    rw [h1]
    rcases Nat.mod_two_eq_zero_or_one (x / 2 ^ 63) with h | h <;> rw [h] <;> rfl
  have hr : Ieee.double.read (Op.negFloat .f64 x) = (Ieee.double.read x).opposite := by
    show Ieee.double.read (x ^^^ 2 ^ 63) = _
    unfold Ieee.Format.read
    rw [e1, hm, hb]
    dsimp only
    split
    · rfl
    · split
      · rfl
      · split <;> rfl
  refine ⟨!s, k, ?_, fun h => by simp [p2 (by omega)], fun h => by simp [p1 (by omega)]⟩
  rw [hr, e, Int.natAbs_neg]
  rfl
/-- A complex number of two whole ones. -/
def RepC (v : Value) (a b : Int) : Prop := ∃ x y, v = .complex .f64 x y ∧ Rep x a ∧ Rep y b
theorem cadd_rep {x y p q : Nat} {a b c d : Int} (hx : Rep x a) (hy : Rep y b) (hp : Rep p c) (hq : Rep q d) (h1 : (a + c).natAbs < 2 ^ 53) (h2 : (b + d).natAbs < 2 ^ 53) :
    ∃ r s, cSumBits .add .f64 x y p q = some (r, s) ∧ Rep r (a + c) ∧ Rep s (b + d) := by
  obtain ⟨r, e1, r1⟩ := add_rep hx hp h1
  obtain ⟨s, e2, r2⟩ := add_rep hy hq h2
  exact ⟨r, s, by simp [cSumBits, e1, e2], r1, r2⟩
theorem csub_rep {x y p q : Nat} {a b c d : Int} (hx : Rep x a) (hy : Rep y b) (hp : Rep p c) (hq : Rep q d) (h1 : (a - c).natAbs < 2 ^ 53) (h2 : (b - d).natAbs < 2 ^ 53) :
    ∃ r s, cSumBits .sub .f64 x y p q = some (r, s) ∧ Rep r (a - c) ∧ Rep s (b - d) := by
  obtain ⟨r, e1, r1⟩ := sub_rep hx hp h1
  obtain ⟨s, e2, r2⟩ := sub_rep hy hq h2
  exact ⟨r, s, by simp [cSumBits, e1, e2], r1, r2⟩
theorem cmul_rep {x y p q : Nat} {a b c d : Int} (hx : Rep x a) (hy : Rep y b) (hp : Rep p c) (hq : Rep q d) (h1 : (a * c).natAbs < 2 ^ 52) (h2 : (b * d).natAbs < 2 ^ 52) (h3 : (a * d).natAbs < 2 ^ 52) (h4 : (b * c).natAbs < 2 ^ 52) :
    ∃ r s, cMulBits x y p q = some (r, s) ∧ Rep r (a * c - b * d) ∧ Rep s (a * d + b * c) := by
  obtain ⟨r1, e1, f1⟩ := mul_rep hx hp (by omega)
  obtain ⟨r2, e2, f2⟩ := mul_rep hy hq (by omega)
  obtain ⟨r3, e3, f3⟩ := mul_rep hx hq (by omega)
  obtain ⟨r4, e4, f4⟩ := mul_rep hy hp (by omega)
  obtain ⟨r5, e5, f5⟩ := sub_rep f1 f2 (by omega)
  obtain ⟨r6, e6, f6⟩ := add_rep f3 f4 (by omega)
  exact ⟨r5, r6, by simp [cMulBits, e1, e2, e3, e4, e5, e6], f5, f6⟩
end Go.Proofs.YtgglommnipbagaaGreatDoor
