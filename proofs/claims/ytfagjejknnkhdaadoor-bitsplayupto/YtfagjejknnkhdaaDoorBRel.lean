/- Words and lists of truths: plain mathematics. -/
import Derived.Test.YtfagjejknnkhdaaDoorBPartsMath
import Derived.Test.YtfagjejknnkhdaaDoorBElems
namespace Go.Proofs.YtfagjejknnkhdaaDoor

/-- The words say what the truths say, and nothing beyond. -/
structure Rel (ws : List Nat) (bs : List Bool) : Prop where
  len : ws.length = (bs.length + 63) / 64
  fit : ∀ x ∈ ws, x < 18446744073709551616
  bit : ∀ i, i < 64 * ws.length → hasW ws i = bs.getD i false

theorem hasW_get {ws : List Nat} {k j : Nat} (hj : j < 64) : hasW ws (64 * k + j) = (ws.getD k 0).testBit j := by
  unfold hasW
  rw [show (64 * k + j) / 64 = k by omega, show (64 * k + j) % 64 = j by omega]
theorem words_ext {ws vs : List Nat} (hl : ws.length = vs.length) (h1 : ∀ x ∈ ws, x < 18446744073709551616) (h2 : ∀ x ∈ vs, x < 18446744073709551616) (h : ∀ i, i < 64 * ws.length → hasW ws i = hasW vs i) : ws = vs := by
  apply List.ext_getElem hl
  intro k a b
  apply Nat.eq_of_testBit_eq
  intro j
  by_cases hj : j < 64
  · have := h (64 * k + j) (by omega)
    rw [hasW_get hj, hasW_get hj] at this
    simpa [a, b] using this
  · rw [tb_hi (h1 _ (List.getElem_mem a)) hj, tb_hi (h2 _ (List.getElem_mem b)) hj]
theorem Rel.eq {ws vs : List Nat} {bs : List Bool} (h : Rel ws bs) (k : Rel vs bs) : ws = vs := by
  have hl : ws.length = vs.length := by rw [h.len, k.len]
  exact words_ext hl h.fit k.fit fun i hi => by rw [h.bit i hi, k.bit i (by omega)]

theorem hasW_set {ws : List Nat} {k x i : Nat} (hk : k < ws.length) : hasW (ws.set k x) i = if i / 64 = k then x.testBit (i % 64) else hasW ws i := by
  unfold hasW
  split
  · rename_i e
    rw [e]
    simp [hk]
  · rename_i e
    rw [List.getD_eq_getElem?_getD, List.getD_eq_getElem?_getD, List.getElem?_set_ne (by omega)]
theorem putW_len (ws : List Nat) (i : Nat) : (putW ws i).length = ws.length := by simp [putW]
theorem dropW_len (ws : List Nat) (i : Nat) : (dropW ws i).length = ws.length := by simp [dropW]
theorem hasW_put {ws : List Nat} {k i : Nat} (hk : k / 64 < ws.length) : hasW (putW ws k) i = (hasW ws i || decide (i = k)) := by
  unfold putW
  rw [hasW_set hk]
  split
  · rename_i e
    rw [Nat.testBit_or, Nat.testBit_two_pow]
    unfold hasW
    rw [← e]
    have : decide (k % 64 = i % 64) = decide (i = k) := by
      by_cases h : i = k
      · subst h; simp
      · have : ¬ k % 64 = i % 64 := by omega
        simp [h, this]
    rw [this]
  · have : ¬ i = k := fun h => by subst h; omega
    simp [this]
theorem hasW_drop {ws : List Nat} {k i : Nat} (hk : k / 64 < ws.length) : hasW (dropW ws k) i = (hasW ws i && decide (i ≠ k)) := by
  unfold dropW
  rw [hasW_set hk]
  split
  · rename_i e
    have h64 : 2 ^ (k % 64) < 18446744073709551616 := pow_lt64 k
    have := tb_wo (ws.getD (k / 64) 0) (2 ^ (k % 64)) (i % 64) h64
    unfold woF at this
    rw [this, Nat.testBit_two_pow]
    unfold hasW
    rw [← e]
    have h2 : decide (i % 64 < 64) = true := decide_eq_true (Nat.mod_lt _ (by decide))
    have h3 : (!decide (k % 64 = i % 64)) = decide (i ≠ k) := by
      by_cases h : i = k
      · subst h; simp
      · have : ¬ k % 64 = i % 64 := by omega
        simp [h, this]
    rw [h2, Bool.true_and, h3]
  · have : i ≠ k := fun h => by subst h; omega
    simp [this]
theorem putW_fit {ws : List Nat} (h : ∀ x ∈ ws, x < 18446744073709551616) (i : Nat) : ∀ x ∈ putW ws i, x < 18446744073709551616 := by
  intro x hx
  rcases List.mem_or_eq_of_mem_set hx with h' | rfl
  · exact h x h'
  · refine or_lt64 ?_ (pow_lt64 i)
    by_cases hl : i / 64 < ws.length
    · simpa [hl] using h _ (List.getElem_mem hl)
    · simp [hl]
theorem dropW_fit {ws : List Nat} (h : ∀ x ∈ ws, x < 18446744073709551616) (i : Nat) : ∀ x ∈ dropW ws i, x < 18446744073709551616 := by
  intro x hx
  rcases List.mem_or_eq_of_mem_set hx with h' | rfl
  · exact h x h'
  · refine and_lt64 _ ?_
    by_cases hl : i / 64 < ws.length
    · simpa [hl] using h _ (List.getElem_mem hl)
    · simp [hl]
theorem getD_set (bs : List Bool) (k : Nat) (b : Bool) (i : Nat) (hk : k < bs.length) : (bs.set k b).getD i false = if i = k then b else bs.getD i false := by
  rw [List.getD_eq_getElem?_getD, List.getD_eq_getElem?_getD]
  by_cases e : i = k
  · subst e
    simp [hk]
  · rw [List.getElem?_set_ne (Ne.symm e), if_neg e]
theorem Rel.put {ws : List Nat} {bs : List Bool} (h : Rel ws bs) (k : Nat) (hk : k < bs.length) : Rel (putW ws k) (bs.set k true) := by
  have hk' : k / 64 < ws.length := by have := h.len; omega
  refine ⟨by rw [putW_len, List.length_set]; exact h.len, putW_fit h.fit k, fun i hi => ?_⟩
  rw [putW_len] at hi
  rw [hasW_put hk', h.bit i hi, getD_set _ _ _ _ hk]
  by_cases e : i = k <;> simp [e]
theorem Rel.drop {ws : List Nat} {bs : List Bool} (h : Rel ws bs) (k : Nat) (hk : k < bs.length) : Rel (dropW ws k) (bs.set k false) := by
  have hk' : k / 64 < ws.length := by have := h.len; omega
  refine ⟨by rw [dropW_len, List.length_set]; exact h.len, dropW_fit h.fit k, fun i hi => ?_⟩
  rw [dropW_len] at hi
  rw [hasW_drop hk', h.bit i hi, getD_set _ _ _ _ hk]
  by_cases e : i = k <;> simp [e]
theorem Rel.zero (n : Nat) : Rel (List.replicate ((n + 63) / 64) 0) (List.replicate n false) := by
  refine ⟨by simp, fun x hx => by rw [(List.mem_replicate.1 hx).2]; decide, fun i _ => ?_⟩
  have e1 : (List.replicate ((n + 63) / 64) 0).getD (i / 64) 0 = 0 := by
    rw [List.getD_eq_getElem?_getD, List.getElem?_replicate]
    split <;> rfl
  have e2 : (List.replicate n false).getD i false = false := by
    rw [List.getD_eq_getElem?_getD, List.getElem?_replicate]
    split <;> rfl
  unfold hasW
  rw [e1, e2, Nat.zero_testBit]

/-- All numbers of words. -/
theorem elemsFrom_eq (k : Nat) (ws : List Nat) : elemsFrom k ws = ((List.range (64 * ws.length)).filter fun i => hasW ws i).map fun i => k * 64 + i := by
  induction ws generalizing k with
  | nil => rfl
  | cons x t ih =>
    have e : List.range (64 * (x :: t).length) = List.range 64 ++ (List.range (64 * t.length)).map fun j => 64 + j := by
      rw [List.length_cons, show 64 * (t.length + 1) = 64 + 64 * t.length by omega, List.range_add]
    rw [elemsFrom, ih, e, List.filter_append, List.map_append]
    refine congr (congrArg HAppend.hAppend ?_) ?_
    · unfold wbits
      refine congrArg (List.map _) ?_
      apply List.filter_congr
      intro i hi
      have := List.mem_range.1 hi
      have := hasW_get (ws := x :: t) (k := 0) this
      simp at this
      rw [this]
    · rw [List.filter_map, List.map_map]
      have : (List.range (64 * t.length)).filter ((fun i => hasW (x :: t) i) ∘ fun j => 64 + j) = (List.range (64 * t.length)).filter fun i => hasW t i := by
        apply List.filter_congr
        intro i _
        show hasW (x :: t) (64 + i) = hasW t i
        unfold hasW
        rw [show (64 + i) / 64 = i / 64 + 1 by omega, show (64 + i) % 64 = i % 64 by omega]
        simp
      rw [this]
      apply List.map_congr_left
      intro i _
      show (k + 1) * 64 + i = k * 64 + (64 + i)
      omega
theorem elems_eq (ws : List Nat) : elems ws = (List.range (64 * ws.length)).filter fun i => hasW ws i := by
  unfold elems
  rw [elemsFrom_eq]
  simp
/-- The numbers of which truths say yes. -/
def yes (bs : List Bool) : List Nat := (List.range bs.length).filter fun i => bs.getD i false
theorem Rel.elems {ws : List Nat} {bs : List Bool} (h : Rel ws bs) : elems ws = yes bs := by
  have hl := h.len
  obtain ⟨m, hm⟩ : ∃ m, 64 * ws.length = bs.length + m := ⟨64 * ws.length - bs.length, by omega⟩
  rw [elems_eq, yes]
  have e1 : (List.range (64 * ws.length)).filter (fun i => hasW ws i) = (List.range (64 * ws.length)).filter fun i => bs.getD i false :=
    List.filter_congr fun i hi => by rw [h.bit i (List.mem_range.1 hi)]
  rw [e1, hm, List.range_add, List.filter_append]
  have e2 : ((List.range m).map fun j => bs.length + j).filter (fun i => bs.getD i false) = [] := by
    rw [List.filter_eq_nil_iff]
    intro i hi
    obtain ⟨j, _, rfl⟩ := List.mem_map.1 hi
    simp
  rw [e2, List.append_nil]
theorem yes_lt {bs : List Bool} : ∀ i ∈ yes bs, i < bs.length := fun _ hi => List.mem_range.1 (List.mem_filter.1 hi).1

theorem ones_bits (f : Nat) : ∀ x : Nat, ones f x = ((List.range f).filter fun i => x.testBit i).length := by
  induction f with
  | zero => intro x; rfl
  | succ f ih =>
    intro x
    rw [ones, ih, List.range_succ_eq_map, List.filter_cons, List.filter_map, Nat.testBit_zero]
    have e : ((List.range f).filter ((fun i => x.testBit i) ∘ Nat.succ)) = (List.range f).filter fun i => (x / 2).testBit i := by
      apply List.filter_congr
      intro i _
      show x.testBit (i + 1) = _
      rw [Nat.testBit_succ]
    rcases Nat.mod_two_eq_zero_or_one x with h | h
    · simp [h, e]
    · simp [h, e]
      omega
theorem cnt_elems (k : Nat) (ws : List Nat) : (elemsFrom k ws).length = cnt ws := by
  induction ws generalizing k with
  | nil => rfl
  | cons x t ih =>
    unfold cnt at *
    rw [elemsFrom, List.length_append, ih, List.length_map, List.map_cons, List.sum_cons, ones_bits]
    rfl
theorem Rel.cnt {ws : List Nat} {bs : List Bool} (h : Rel ws bs) : cnt ws = (yes bs).length := by
  rw [← h.elems]
  exact (cnt_elems 0 ws).symm

/-- Dropped one by one, and put in again. -/
def dropAll (ws : List Nat) (l : List Nat) : List Nat := l.foldl dropW ws
def putAll (ws : List Nat) (l : List Nat) : List Nat := l.foldl putW ws
theorem dropAll_snoc (ws l : List Nat) (x : Nat) : dropAll ws (l ++ [x]) = dropW (dropAll ws l) x := by simp [dropAll]
theorem putAll_snoc (ws l : List Nat) (x : Nat) : putAll ws (l ++ [x]) = putW (putAll ws l) x := by simp [putAll]
theorem dropAll_len (ws l : List Nat) : (dropAll ws l).length = ws.length := by
  unfold dropAll
  induction l generalizing ws with
  | nil => rfl
  | cons x l ih => rw [List.foldl_cons, ih, dropW_len]
theorem putAll_len (ws l : List Nat) : (putAll ws l).length = ws.length := by
  unfold putAll
  induction l generalizing ws with
  | nil => rfl
  | cons x l ih => rw [List.foldl_cons, ih, putW_len]
theorem dropAll_fit {ws : List Nat} (h : ∀ x ∈ ws, x < 18446744073709551616) (l : List Nat) : ∀ x ∈ dropAll ws l, x < 18446744073709551616 := by
  unfold dropAll
  induction l generalizing ws with
  | nil => exact h
  | cons x l ih => exact ih (dropW_fit h x)
theorem putAll_fit {ws : List Nat} (h : ∀ x ∈ ws, x < 18446744073709551616) (l : List Nat) : ∀ x ∈ putAll ws l, x < 18446744073709551616 := by
  unfold putAll
  induction l generalizing ws with
  | nil => exact h
  | cons x l ih => exact ih (putW_fit h x)
theorem has_dropAll (ws l : List Nat) (hl : ∀ x ∈ l, x / 64 < ws.length) (i : Nat) : hasW (dropAll ws l) i = (hasW ws i && decide (i ∉ l)) := by
  unfold dropAll
  induction l generalizing ws with
  | nil => simp
  | cons x l ih =>
    rw [List.foldl_cons, ih _ (fun y hy => by rw [dropW_len]; exact hl y (by simp [hy])), hasW_drop (hl x (by simp))]
    by_cases h1 : i = x <;> by_cases h2 : i ∈ l <;> simp [h1, h2]
theorem has_putAll (ws l : List Nat) (hl : ∀ x ∈ l, x / 64 < ws.length) (i : Nat) : hasW (putAll ws l) i = (hasW ws i || decide (i ∈ l)) := by
  unfold putAll
  induction l generalizing ws with
  | nil => simp
  | cons x l ih =>
    rw [List.foldl_cons, ih _ (fun y hy => by rw [putW_len]; exact hl y (by simp [hy])), hasW_put (hl x (by simp))]
    by_cases h1 : i = x <;> by_cases h2 : i ∈ l <;> simp [h1, h2]
theorem again {ws : List Nat} (h : ∀ x ∈ ws, x < 18446744073709551616) : putAll (dropAll ws (elems ws)) (elems ws) = ws := by
  have hm : ∀ i, i ∈ elems ws ↔ i < 64 * ws.length ∧ hasW ws i = true := fun i => by rw [elems_eq, List.mem_filter, List.mem_range]
  have hl : ∀ x ∈ elems ws, x / 64 < ws.length := fun x hx => by have := ((hm x).1 hx).1; omega
  have e : (putAll (dropAll ws (elems ws)) (elems ws)).length = ws.length := by rw [putAll_len, dropAll_len]
  refine words_ext e (putAll_fit (dropAll_fit h _) _) h fun i hi => ?_
  rw [e] at hi
  rw [has_putAll _ _ (fun x hx => by rw [dropAll_len]; exact hl x hx), has_dropAll _ _ hl]
  by_cases hb : hasW ws i = true
  · have := (hm i).2 ⟨hi, hb⟩
    simp [hb, this]
  · have hn : i ∉ elems ws := fun h' => hb ((hm i).1 h').2
    simp [hn]
end Go.Proofs.YtfagjejknnkhdaaDoor
