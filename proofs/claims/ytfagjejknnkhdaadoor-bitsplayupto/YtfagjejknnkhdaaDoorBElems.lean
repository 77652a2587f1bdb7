/- The numbers of words: plain mathematics. -/
import Derived.Test.YtfagjejknnkhdaaDoorBMath
namespace Go.Proofs.YtfagjejknnkhdaaDoor

/-- The numbers of one word. -/
def wbits (x : Nat) : List Nat := (List.range 64).filter fun i => x.testBit i
/-- The numbers of words, the first of which is word k. -/
def elemsFrom : Nat → List Nat → List Nat
  | _, [] => []
  | k, x :: t => (wbits x).map (fun i => k * 64 + i) ++ elemsFrom (k + 1) t
def elems (ws : List Nat) : List Nat := elemsFrom 0 ws
theorem elemsFrom_drop (k : Nat) (ws : List Nat) (j : Nat) (h : j < ws.length) : elemsFrom k (ws.drop j) = (wbits ws[j]).map (fun i => k * 64 + i) ++ elemsFrom (k + 1) (ws.drop (j + 1)) := by
  rw [List.drop_eq_getElem_cons h, elemsFrom]

/-- The lowest number of a word, and the word without it. -/
theorem low_one (x : Nat) (hx : x < 18446744073709551616) (h0 : x ≠ 0) : Lib.ctz 64 x < 64 ∧ (∀ i, i < Lib.ctz 64 x → x.testBit i = false) ∧ x.testBit (Lib.ctz 64 x) = true ∧ (∀ i, (x &&& (x - 1)).testBit i = (x.testBit i && decide (i ≠ Lib.ctz 64 x))) := by
  obtain ⟨m, hm, hk⟩ := Lib.ctzFrom_spec 64 x (by omega) hx
  have e : Lib.ctz 64 x = Lib.ctzFrom 64 x := if_neg h0
  rw [e]
  generalize Lib.ctzFrom 64 x = k at *
  subst hm
  have t1 : ∀ i, (2 ^ k * (2 * m + 1)).testBit i = (decide (k ≤ i) && (2 * m + 1).testBit (i - k)) := fun i => by rw [Nat.mul_comm, Nat.testBit_mul_two_pow]
  have hp : 0 < 2 ^ k := Nat.two_pow_pos k
  have e1 : 2 ^ k * (2 * m + 1) - 1 = 2 ^ k * (2 * m) + (2 ^ k - 1) := by
    rw [Nat.mul_add, Nat.mul_one]
    omega
  refine ⟨hk, fun i hi => ?_, ?_, fun i => ?_⟩
  · have hn : ¬ k ≤ i := by omega
    rw [t1]
    simp [hn]
  · rw [t1]
    simp [Nat.testBit_zero]
  · rw [Nat.testBit_and, e1, t1, Nat.testBit_two_pow_mul_add _ (by omega)]
    by_cases hik : i < k
    · have hn : ¬ k ≤ i := by omega
      simp [hn]
    · rw [if_neg hik]
      by_cases he : i = k
      · subst he
        simp
      · obtain ⟨j, hj⟩ : ∃ j, i - k = j + 1 := ⟨i - k - 1, by omega⟩
        rw [hj, Nat.testBit_succ, Nat.testBit_succ, show (2 * m + 1) / 2 = m by omega, show (2 * m) / 2 = m by omega]
        simp [he]
theorem filter_low {p q : Nat → Bool} {k N : Nat} (hk : k < N) (h1 : ∀ i, i < k → p i = false) (h2 : p k = true) (h3 : ∀ i, q i = (p i && decide (i ≠ k))) : (List.range N).filter p = k :: (List.range N).filter q := by
  have e : List.range N = List.range k ++ k :: (List.range (N - (k + 1))).map (fun j => k + 1 + j) := by
    apply List.ext_getElem
    · simp; omega
    · intro i h h'
      rw [List.getElem_range, List.getElem_append]
      split
      · rw [List.getElem_range]
      · rename_i hge
        rw [List.length_range] at hge
        rw [List.getElem_cons]
        simp only [List.length_range] at *
        split
        · omega
        · rw [List.getElem_map, List.getElem_range]
          omega
  rw [e, List.filter_append, List.filter_append, List.filter_cons, List.filter_cons]
  have f1 : (List.range k).filter p = [] := List.filter_eq_nil_iff.2 fun i hi => by simp [h1 i (List.mem_range.1 hi)]
  have f2 : (List.range k).filter q = [] := List.filter_eq_nil_iff.2 fun i hi => by simp [h3, h1 i (List.mem_range.1 hi)]
  have f3 : q k = false := by simp [h3]
  rw [f1, f2, h2, f3]
  simp only [if_true, List.nil_append]
  congr 1
  rw [if_neg (by decide)]
  apply List.filter_congr
  intro i hi
  obtain ⟨j, _, rfl⟩ := List.mem_map.1 hi
  rw [h3]
  simp
  omega
theorem wbits_low (x : Nat) (hx : x < 18446744073709551616) (h0 : x ≠ 0) : wbits x = Lib.ctz 64 x :: wbits (x &&& (x - 1)) := by
  obtain ⟨h1, h2, h3, h4⟩ := low_one x hx h0
  exact filter_low h1 h2 h3 h4
theorem wbits_zero : wbits 0 = [] := by
  unfold wbits
  exact List.filter_eq_nil_iff.2 fun i _ => by simp
theorem and_pred_lt (x : Nat) (h0 : x ≠ 0) : x &&& (x - 1) < x := Nat.lt_of_le_of_lt Nat.and_le_right (by omega)
end Go.Proofs.YtfagjejknnkhdaaDoor
