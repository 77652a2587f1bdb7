/- There and back, in plain numbers: what is written as a number is read as it, and what is read was written so. -/
import Derived.Test.YtngnlofjjlkcmaaGreatDoorGOctet
namespace Go.Proofs.YtngnlofjjlkcmaaGreatDoor
open Go.Lib (uvarint uvarint_small uvarint_big uvarint_length64 uvarint_pos)

theorem u8_of (c : UInt8) : c.toNat.toUInt8 = c := by
  rw [Nat.toUInt8_eq, UInt8.ofNat_toNat]

/-- What is read as a number is its one form. -/
theorem frontGo_one : ∀ (l : List UInt8) (i v u n : Nat), frontGo i v l = (u, n, 0) →
    ∃ x m, u = v + x * 2 ^ (7 * i) ∧ n = i + m ∧ uvarint x = l.take m ∧ (0 < i → 0 < x) ∧ m ≤ l.length
  | [], i, v, u, n, h => by simp [frontGo] at h
  | c :: r, i, v, u, n, h => by
    have hc : c.toNat < 256 := c.toNat_lt
    rw [frontGo] at h
    split at h
    · simp at h
    · split at h
      · rename_i h128
        obtain ⟨x, m, e1, e2, e3, e4, e5⟩ := frontGo_one r _ _ _ _ h
        have hx : 0 < x := e4 (by omega)
        refine ⟨c.toNat % 128 + 128 * x, m + 1, ?_, by omega, ?_, fun _ => by omega, by simp; omega⟩
        · rw [e1, show 7 * (i + 1) = 7 * i + 7 by omega, Nat.pow_add, Nat.add_mul, Nat.add_assoc]
          congr 1
          congr 1
          show x * (2 ^ (7 * i) * 128) = _
          rw [Nat.mul_comm (2 ^ (7 * i)) 128, ← Nat.mul_assoc, Nat.mul_comm x 128]
        · rw [uvarint_big (by omega), List.take_succ_cons, ← e3]
          have d1 : (c.toNat % 128 + 128 * x) % 128 + 128 = c.toNat := by omega
          have d2 : (c.toNat % 128 + 128 * x) / 128 = x := by omega
          rw [d1, d2, u8_of]
      · rename_i h128
        split at h
        · simp at h
        · rename_i h0
          simp only [Prod.mk.injEq, and_true] at h
          refine ⟨c.toNat, 1, ?_, by omega, ?_, fun hi => by omega, by simp⟩
          · rw [← h.1, Nat.mod_eq_of_lt (by omega)]
          · rw [uvarint_small (by omega), u8_of]; simp

theorem front_one (l : List UInt8) (u n : Nat) (h : front l = (u, n, 0)) : uvarint u = l.take n ∧ n ≤ l.length := by
  obtain ⟨x, m, e1, e2, e3, _, e5⟩ := frontGo_one l 0 0 u n h
  have : u = x := by rw [e1]; simp
  subst this
  have : n = m := by omega
  subst this
  exact ⟨e3, e5⟩

/-- What is written as a number is read as it. -/
theorem frontGo_back : ∀ (x : Nat) (i v : Nat) (r : List UInt8), i ≤ 9 → x * 2 ^ (7 * i) < 18446744073709551616 → (0 < i → 0 < x) →
    frontGo i v (uvarint x ++ r) = (v + x * 2 ^ (7 * i), i + (uvarint x).length, 0) := by
  intro x
  induction x using Nat.strongRecOn with
  | ind x ih =>
    intro i v r hi hx hpos
    have hb : ∀ y : Nat, y < 256 → y.toUInt8.toNat = y := fun y hy => by
      rw [Nat.toUInt8_eq, UInt8.toNat_ofNat']
      omega
    by_cases h : x < 128
    · rw [uvarint_small h, List.singleton_append, frontGo, hb x (by omega)]
      have h9 : ¬ (i = 9 ∧ x ≠ 1) := by
        rintro ⟨rfl, h1⟩
        have : 0 < x := hpos (by omega)
        have : x * 9223372036854775808 < 18446744073709551616 := hx
        omega
      rw [if_neg h9, if_neg (by omega), if_neg (by omega), Nat.mod_eq_of_lt h]
      simp
    · have hlt : x / 128 < x := by omega
      have hi8 : i ≤ 8 := by
        rcases Nat.lt_or_ge i 9 with h' | h'
        · omega
        · have : i = 9 := by omega
          subst this
          have : x * 9223372036854775808 < 18446744073709551616 := hx
          omega
      have e : x = x % 128 + 128 * (x / 128) := by omega
      rw [uvarint_big (by omega), List.cons_append, frontGo, hb _ (by omega), if_neg (by omega), if_pos (by omega)]
      have hmul : x / 128 * 2 ^ (7 * (i + 1)) + x % 128 * 2 ^ (7 * i) = x * 2 ^ (7 * i) := by
        have : x * 2 ^ (7 * i) = (x % 128 + 128 * (x / 128)) * 2 ^ (7 * i) := by rw [← e]
        rw [this, show 7 * (i + 1) = 7 * i + 7 by omega, Nat.pow_add, Nat.add_mul, Nat.add_comm]
        congr 1
        show x / 128 * (2 ^ (7 * i) * 128) = _
        rw [Nat.mul_comm (2 ^ (7 * i)) 128, ← Nat.mul_assoc, Nat.mul_comm (x / 128) 128]
      rw [ih (x / 128) hlt (i + 1) _ r (by omega) (by omega) (fun _ => by omega)]
      have e3 : (x % 128 + 128) % 128 = x % 128 := by omega
      rw [e3, List.length_cons]
      refine Prod.ext ?_ (Prod.ext ?_ rfl)
      · show v + x % 128 * 2 ^ (7 * i) + x / 128 * 2 ^ (7 * (i + 1)) = v + x * 2 ^ (7 * i)
        omega
      · show i + 1 + (uvarint (x / 128)).length = i + ((uvarint (x / 128)).length + 1)
        omega

theorem front_back (x : Nat) (hx : x < 18446744073709551616) (r : List UInt8) : front (uvarint x ++ r) = (x, (uvarint x).length, 0) := by
  have := frontGo_back x 0 0 r (by omega) (by simpa using hx) (fun h => absurd h (by omega))
  simpa [front] using this

theorem zz_unz (u : Nat) : zz (unz u) = u := by
  unfold unz
  split
  · unfold zz; rw [if_pos (by omega)]; omega
  · unfold zz; rw [if_neg (by omega)]; omega

theorem unz_zz (v : Int) : unz (zz v) = v := by
  unfold zz
  split
  · unfold unz; rw [if_pos (by omega)]; omega
  · unfold unz; rw [if_neg (by omega)]; omega

theorem unz_bounds (u : Nat) (h : u < 18446744073709551616) : -9223372036854775808 ≤ unz u ∧ unz u ≤ 9223372036854775807 := by
  unfold unz
  split <;> omega

/-- What is read as a text is its one form. -/
theorem text_one (l : List UInt8) (h : textErr l = 0) :
    txt (bytesOf (textOf l)) = l.take (l.length - (textRest l).length) ∧ (textRest l).length ≤ l.length ∧ (textOf l).length ≤ l.length := by
  have hno := front_no l
  unfold textErr at h
  split at h
  · omega
  · rename_i hc
    have hc' : (front l).1 ≤ l.length - (front l).2.1 := Decidable.byContradiction fun hh => hc ⟨h, hh⟩
    generalize hf : front l = f at *
    obtain ⟨x, n, e⟩ := f
    simp only at h hc'
    subst h
    obtain ⟨e1, e2⟩ := front_one l x n hf
    have h1 : textOf l = (l.drop n).take x := by unfold textOf; rw [hf]; exact if_pos ⟨rfl, hc'⟩
    have h2 : textRest l = l.drop (n + x) := by unfold textRest; rw [hf]; exact if_pos ⟨rfl, hc'⟩
    have hl : ((l.drop n).take x).length = x := by rw [List.length_take, List.length_drop]; omega
    rw [h1, h2, List.length_drop, hl]
    refine ⟨?_, by omega, by omega⟩
    unfold txt bytesOf
    have es : (⟨((l.drop n).take x).toArray⟩ : ByteArray).size = x := by
      show ((l.drop n).take x).toArray.size = x
      rw [List.size_toArray, hl]
    rw [es, e1]
    show l.take n ++ ((l.drop n).take x) = _
    rw [← List.take_add]
    congr 1
    omega
end Go.Proofs.YtngnlofjjlkcmaaGreatDoor
