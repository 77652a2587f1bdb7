/- One to 32 neighbouring bits turned are told: the plain mathematics. -/
import Derived.Test.YtfgcpkbbneicfaaRefSum
namespace Go.Proofs.Ytfgcpkbbneicfaa

theorem crcBit_xor (x y : BitVec 32) : crcBit (x ^^^ y) = crcBit x ^^^ crcBit y := by
  unfold crcBit
  rw [BitVec.ushiftRight_xor_distrib, BitVec.getLsbD_xor]
  cases x.getLsbD 0 <;> cases y.getLsbD 0 <;> simp only [Bool.xor_false, Bool.xor_true, Bool.not_true, Bool.not_false, if_true, if_false, Bool.false_eq_true, BitVec.xor_zero]
  · rw [BitVec.xor_assoc]
  · rw [BitVec.xor_assoc, BitVec.xor_assoc, BitVec.xor_comm (y >>> 1)]
  · rw [BitVec.xor_assoc, BitVec.xor_comm (y >>> 1) 3988292384#32, ← BitVec.xor_assoc 3988292384#32]
    simp

theorem iter_xor (n : Nat) (x y : BitVec 32) : iter crcBit n (x ^^^ y) = iter crcBit n x ^^^ iter crcBit n y := by
  induction n with
  | zero => rfl
  | succ n ih => show crcBit (iter crcBit n (x ^^^ y)) = crcBit _ ^^^ crcBit _; rw [ih, crcBit_xor]

theorem iter_add {α : Type} (f : α → α) (m n : Nat) (x : α) : iter f (m + n) x = iter f m (iter f n x) := by
  induction m with
  | zero => simp [iter]
  | succ m ih => rw [Nat.succ_add]; show f (iter f (m + n) x) = f _; rw [ih]

theorem crcBit_zero : crcBit 0#32 = 0#32 := by decide
theorem iter_zero (n : Nat) : iter crcBit n 0#32 = 0#32 := by
  induction n with
  | zero => rfl
  | succ n ih => show crcBit (iter crcBit n 0#32) = 0#32; rw [ih, crcBit_zero]

theorem crcBit_inj (x : BitVec 32) (h : crcBit x = 0#32) : x = 0#32 := by
  have hx := x.isLt
  rcases Nat.mod_two_eq_zero_or_one x.toNat with hm | hm
  · have h2 := crcBit_even x hm
    rw [h] at h2
    have : x.toNat = 0 := by simp at h2; omega
    exact BitVec.eq_of_toNat_eq (by simpa using this)
  · exfalso
    have hb : x.getLsbD 0 = decide (x.toNat % 2 = 1) := by simp [BitVec.getLsbD, Nat.testBit_zero]
    unfold crcBit at h
    rw [hb, hm] at h
    simp only [decide_true, if_true] at h
    have h3 : x >>> 1 = 3988292384#32 := by
      have := congrArg (· ^^^ 3988292384#32) h
      simpa [BitVec.xor_assoc] using this
    have h4 := congrArg BitVec.toNat h3
    simp [BitVec.toNat_ushiftRight, Nat.shiftRight_eq_div_pow] at h4
    omega

theorem iter_inj (n : Nat) (x : BitVec 32) (h : iter crcBit n x = 0#32) : x = 0#32 := by
  induction n with
  | zero => exact h
  | succ n ih => exact ih (crcBit_inj _ h)

/-- One bit laid in, and a step. -/
def feed (x : BitVec 32) (b : Bool) : BitVec 32 := crcBit (x ^^^ (if b then 1#32 else 0#32))
def feedL (x : BitVec 32) (l : List Bool) : BitVec 32 := l.foldl feed x

theorem feed_false (x : BitVec 32) : feed x false = crcBit x := by simp [feed]
theorem feedL_append (x : BitVec 32) (l m : List Bool) : feedL x (l ++ m) = feedL (feedL x l) m := by simp [feedL]
theorem feedL_zeros (x : BitVec 32) (n : Nat) : feedL x (List.replicate n false) = iter crcBit n x := by
  induction n with
  | zero => rfl
  | succ n ih =>
    rw [List.replicate_succ', feedL_append, ih]
    show feed (iter crcBit n x) false = _
    rw [feed_false]
    rfl

/-- The first k bits of b as a word. -/
def wordB (b : Nat → Bool) : Nat → BitVec 32
  | 0 => 0#32
  | k + 1 => wordB b k ^^^ (if b k then 1#32 <<< k else 0#32)

theorem shift_down : ∀ k : Fin 32, iter crcBit k.val (1#32 <<< k.val) = 1#32 := by decide +kernel

theorem feedL_word (b : Nat → Bool) (x : BitVec 32) : ∀ k, k ≤ 32 → feedL x ((List.range k).map b) = iter crcBit k (x ^^^ wordB b k)
  | 0, _ => by simp [feedL, iter, wordB]
  | k + 1, h => by
    rw [List.range_succ, List.map_append, feedL_append, feedL_word b x k (by omega)]
    show feed (iter crcBit k (x ^^^ wordB b k)) (b k) = crcBit (iter crcBit k (x ^^^ (wordB b k ^^^ _)))
    unfold feed
    rw [← BitVec.xor_assoc, iter_xor k (x ^^^ wordB b k)]
    congr 2
    cases b k
    · simp [iter_zero]
    · simp only [if_true]
      exact (shift_down ⟨k, by omega⟩).symm

theorem wordB_bit (b : Nat → Bool) : ∀ k, k ≤ 32 → ∀ i, i < 32 → (wordB b k).getLsbD i = (decide (i < k) && b i)
  | 0, _, i, _ => by simp [wordB]
  | k + 1, h, i, hi => by
    have ih := wordB_bit b k (by omega) i hi
    show (wordB b k ^^^ _).getLsbD i = _
    rw [BitVec.getLsbD_xor, ih]
    have h1 : (1#32 <<< k).getLsbD i = decide (i = k) := by
      rw [BitVec.getLsbD_shiftLeft]
      by_cases h1 : i = k
      · subst h1; simp [hi]
      · by_cases h2 : i < k
        · simp [h1, h2]
        · have : i - k ≠ 0 := by omega
          simp [h1, h2, hi, BitVec.getLsbD_one, this]
    by_cases h1' : i = k
    · subst h1'
      cases hb : b i
      · simp
      · simp [h1]
    · cases hb : b k
      · have : decide (i < k + 1) = decide (i < k) := by simp; omega
        simp [this]
      · have : decide (i < k + 1) = decide (i < k) := by simp; omega
        simp [h1, this, h1']

theorem wordB_zero (b : Nat → Bool) (k : Nat) (hk : k ≤ 32) : wordB b k = 0#32 ↔ ∀ i, i < k → b i = false := by
  constructor
  · intro h i hi
    have := wordB_bit b k hk i (by omega)
    rw [h] at this
    simpa [hi] using this.symm
  · intro h
    apply BitVec.eq_of_getLsbD_eq
    intro i hi
    rw [wordB_bit b k hk i hi]
    by_cases h1 : i < k
    · simp [h i h1]
    · simp [h1]

def byteBits (c : UInt8) : List Bool := (List.range 8).map fun r => c.toBitVec.getLsbD r
def bitsOf (l : List UInt8) : List Bool := l.flatMap byteBits

theorem crcB_feed (x : BitVec 32) (c : UInt8) : crcB x c = feedL x (byteBits c) := by
  unfold byteBits crcB
  rw [feedL_word _ x 8 (by omega)]
  congr 2
  apply BitVec.eq_of_getLsbD_eq
  intro i hi
  rw [wordB_bit _ 8 (by omega) i hi, BitVec.getLsbD_setWidth]
  by_cases h : i < 8
  · simp [h, hi]
  · simp only [h, decide_false, Bool.false_and, hi, decide_true, Bool.true_and]
    exact BitVec.getLsbD_of_ge _ _ (by omega)

theorem crcL_feed : ∀ (l : List UInt8) (x : BitVec 32), crcL x l = feedL x (bitsOf l)
  | [], x => rfl
  | c :: r, x => by
    show crcL (crcB x c) r = feedL x (byteBits c ++ bitsOf r)
    rw [feedL_append, ← crcB_feed, crcL_feed r]

theorem crcB_xor (x y : BitVec 32) (c d : UInt8) : crcB x c ^^^ crcB y d = crcB (x ^^^ y) (c ^^^ d) := by
  unfold crcB
  rw [← iter_xor]
  congr 1
  apply BitVec.eq_of_getLsbD_eq
  intro i hi
  simp only [BitVec.getLsbD_xor, BitVec.getLsbD_setWidth, UInt8.toBitVec_xor, hi, decide_true, Bool.true_and]
  cases x.getLsbD i <;> cases y.getLsbD i <;> cases c.toBitVec.getLsbD i <;> cases d.toBitVec.getLsbD i <;> rfl

theorem crcL_xor : ∀ (l m : List UInt8) (x y : BitVec 32), l.length = m.length → crcL x l ^^^ crcL y m = crcL (x ^^^ y) (List.zipWith (· ^^^ ·) l m)
  | [], [], x, y, _ => rfl
  | c :: r, d :: t, x, y, h => by
    show crcL (crcB x c) r ^^^ crcL (crcB y d) t = crcL (crcB (x ^^^ y) (c ^^^ d)) (List.zipWith (· ^^^ ·) r t)
    rw [crcL_xor r t _ _ (by simpa using h), crcB_xor]
  | [], _ :: _, _, _, h => by simp at h
  | _ :: _, [], _, _, h => by simp at h

/-- Bit j of bytes. -/
def bt (l : List UInt8) (j : Nat) : Bool := (l.getD (j / 8) 0).toBitVec.getLsbD (j % 8)

theorem bitsOf_eq : ∀ l : List UInt8, bitsOf l = (List.range (8 * l.length)).map (bt l)
  | [] => rfl
  | c :: r => by
    show byteBits c ++ bitsOf r = _
    rw [bitsOf_eq r, List.length_cons, show 8 * (r.length + 1) = 8 + 8 * r.length by omega, List.range_add, List.map_append, List.map_map]
    have e1 : byteBits c = (List.range 8).map (bt (c :: r)) := rfl
    rw [e1]
    congr 1
    apply List.map_congr_left
    intro j _
    simp only [Function.comp, bt]
    rw [show (8 + j) / 8 = j / 8 + 1 by omega, show (8 + j) % 8 = j % 8 by omega]
    rfl

theorem bt_zip (l m : List UInt8) (h : l.length = m.length) (j : Nat) : bt (List.zipWith (· ^^^ ·) l m) j = (bt l j ^^ bt m j) := by
  unfold bt
  by_cases hj : j / 8 < l.length
  · have hj2 : j / 8 < m.length := by omega
    have e1 : (List.zipWith (· ^^^ ·) l m).getD (j / 8) 0 = l.getD (j / 8) 0 ^^^ m.getD (j / 8) 0 := by
      simp [List.getD, List.getElem?_zipWith, hj, hj2]
    rw [e1, UInt8.toBitVec_xor, BitVec.getLsbD_xor]
  · have hj2 : ¬ j / 8 < m.length := by omega
    have e0 : l[j / 8]? = none := List.getElem?_eq_none (by omega)
    have e1 : m[j / 8]? = none := List.getElem?_eq_none (by omega)
    simp [List.getD, List.getElem?_zipWith, e0, e1]

/-- THE BURST: bits from p on, as b says, at most 32 of them: the sums part just if one of them is turned. -/
theorem burst (l m : List UInt8) (hlm : l.length = m.length) (p : Nat) (b : Nat → Bool) (hp : p < 8 * l.length)
    (hb : ∀ j, j < 8 * l.length → (bt l j ^^ bt m j) = (decide (p ≤ j ∧ j < p + 32) && b (j - p))) :
    (crc l = crc m) ↔ ∀ i, i < 32 → p + i < 8 * l.length → b i = false := by
  obtain ⟨k, hk⟩ : ∃ k, k = min 32 (8 * l.length - p) := ⟨_, rfl⟩
  have hz : (List.zipWith (· ^^^ ·) l m).length = l.length := by simp [hlm]
  have hbits : bitsOf (List.zipWith (· ^^^ ·) l m) = List.replicate p false ++ ((List.range k).map b ++ List.replicate (8 * l.length - p - k) false) := by
    rw [bitsOf_eq, hz]
    apply List.ext_getElem
    · simp; omega
    · intro j h1 h2
      have hj : j < 8 * l.length := by simpa using h1
      rw [List.getElem_map, List.getElem_range, bt_zip l m hlm, hb j hj]
      by_cases c1 : j < p
      · rw [List.getElem_append_left (by simpa using c1)]
        have : ¬ p ≤ j := by omega
        simp [this]
      · rw [List.getElem_append_right (by simp; omega)]
        simp only [List.length_replicate]
        by_cases c2 : j - p < k
        · rw [List.getElem_append_left (by simpa using c2)]
          have : p ≤ j ∧ j < p + 32 := by omega
          simp [this]
        · rw [List.getElem_append_right (by simp; omega)]
          have : ¬ (p ≤ j ∧ j < p + 32) := by omega
          simp [this]
  have hx : (crc l = crc m) ↔ crcL 0#32 (List.zipWith (· ^^^ ·) l m) = 0#32 := by
    have h1 := crcL_xor l m 0xFFFFFFFF#32 0xFFFFFFFF#32 hlm
    rw [BitVec.xor_self] at h1
    rw [← h1]
    unfold crc
    constructor
    · intro h
      have : crcL 0xFFFFFFFF#32 l = crcL 0xFFFFFFFF#32 m := by
        have := congrArg (fun z => ~~~ z) h
        simpa using this
      rw [this, BitVec.xor_self]
    · intro h
      have : crcL 0xFFFFFFFF#32 l = crcL 0xFFFFFFFF#32 m := by
        have := congrArg (· ^^^ crcL 0xFFFFFFFF#32 m) h
        simpa [BitVec.xor_assoc] using this
      rw [this]
  rw [hx, crcL_feed, hbits, feedL_append, feedL_append, feedL_zeros, feedL_zeros, iter_zero, feedL_word b _ k (by omega)]
  have hw := wordB_zero b k (by omega)
  constructor
  · intro h i hi hpi
    have h2 := iter_inj _ _ (iter_inj _ _ h)
    rw [BitVec.zero_xor] at h2
    exact hw.1 h2 i (by omega)
  · intro h
    rw [hw.2 (fun i hi => h i (by omega) (by omega))]
    simp [iter_zero]

theorem le4_inj (x y : Nat) (hx : x < 4294967296) (hy : y < 4294967296) (h : le4 x = le4 y) : x = y := by
  simp only [le4, List.cons.injEq, and_true] at h
  obtain ⟨h0, h1, h2, h3⟩ := h
  have f : ∀ a b : Nat, a.toUInt8 = b.toUInt8 → a % 256 = b % 256 := fun a b e => by
    have := congrArg UInt8.toNat e
    rw [Nat.toUInt8_eq, Nat.toUInt8_eq, UInt8.toNat_ofNat', UInt8.toNat_ofNat'] at this
    exact this
  have g0 := f _ _ h0
  have g1 := f _ _ h1
  have g2 := f _ _ h2
  have g3 := f _ _ h3
  omega
end Go.Proofs.Ytfgcpkbbneicfaa
