/- Sets of words: what joins leave, word by word. Plain mathematics. -/
import Derived.Test.YtfagjejknnkhdaaDoorBWithin
import Derived.Test.YtfagjejknnkhdaaDoorBCount
namespace Go.Proofs.YtfagjejknnkhdaaDoor

theorem tb_wo (x y i : Nat) (hy : y < 18446744073709551616) : (woF x y).testBit i = (x.testBit i && (decide (i < 64) && !y.testBit i)) := by
  unfold woF
  rw [Nat.testBit_and, show 18446744073709551615 - y = 2 ^ 64 - (y + 1) by omega, Nat.testBit_two_pow_sub_succ hy]
theorem tb_hi {x : Nat} (hx : x < 18446744073709551616) {i : Nat} (hi : ¬ i < 64) : x.testBit i = false :=
  Nat.testBit_lt_two_pow (Nat.lt_of_lt_of_le hx (Nat.pow_le_pow_right (n := 2) (by decide) (by omega : 64 ≤ i)))
theorem wo_lt {x y : Nat} (hx : x < 18446744073709551616) : woF x y < 18446744073709551616 := and_lt64 _ hx
theorem e_none (x y : Nat) (hy : y < 18446744073709551616) : andF (woF x y) (andF x y) = 0 := by
  apply Nat.eq_of_testBit_eq
  intro i
  unfold andF
  rw [Nat.testBit_and, tb_wo _ _ _ hy, Nat.testBit_and, Nat.zero_testBit]
  cases x.testBit i <;> cases y.testBit i <;> simp
theorem e_both (x y : Nat) (hx : x < 18446744073709551616) (hy : y < 18446744073709551616) : orF (woF x y) (andF x y) = x := by
  apply Nat.eq_of_testBit_eq
  intro i
  unfold andF orF
  rw [Nat.testBit_or, tb_wo _ _ _ hy, Nat.testBit_and]
  by_cases h : i < 64
  · simp [h]
    cases x.testBit i <;> cases y.testBit i <;> simp
  · rw [tb_hi hx h]
    simp
theorem e_ws (x y : Nat) (hx : x < 18446744073709551616) (hy : y < 18446744073709551616) : woF (woF x y) x = 0 := by
  apply Nat.eq_of_testBit_eq
  intro i
  rw [tb_wo _ _ _ hx, tb_wo _ _ _ hy, Nat.zero_testBit]
  cases x.testBit i <;> simp
theorem e_ut (x y : Nat) (hy : y < 18446744073709551616) : woF (andF x y) y = 0 := by
  apply Nat.eq_of_testBit_eq
  intro i
  unfold andF
  rw [tb_wo _ _ _ hy, Nat.testBit_and, Nat.zero_testBit]
  cases y.testBit i <;> simp
theorem e_so (x y : Nat) (hx : x < 18446744073709551616) (hy : y < 18446744073709551616) : woF x (orF x y) = 0 := by
  apply Nat.eq_of_testBit_eq
  intro i
  rw [tb_wo _ _ _ (show orF x y < 18446744073709551616 from or_lt64 hx hy)]
  unfold orF
  rw [Nat.testBit_or, Nat.zero_testBit]
  cases x.testBit i <;> simp
theorem e_to (x y : Nat) (hx : x < 18446744073709551616) (hy : y < 18446744073709551616) : woF y (orF x y) = 0 := by
  apply Nat.eq_of_testBit_eq
  intro i
  rw [tb_wo _ _ _ (show orF x y < 18446744073709551616 from or_lt64 hx hy)]
  unfold orF
  rw [Nat.testBit_or, Nat.zero_testBit]
  cases y.testBit i <;> simp
theorem ones_sum (f : Nat) : ∀ a b c : Nat, (∀ i, i < f → (a.testBit i).toNat = (b.testBit i).toNat + (c.testBit i).toNat) → ones f a = ones f b + ones f c := by
  induction f with
  | zero => intro a b c _; simp [ones]
  | succ f ih =>
    intro a b c h
    have h0 := h 0 (by omega)
    rw [Nat.testBit_zero, Nat.testBit_zero, Nat.testBit_zero] at h0
    have hr := ih (a / 2) (b / 2) (c / 2) (fun i hi => by
      have := h (i + 1) (by omega)
      rwa [Nat.testBit_succ, Nat.testBit_succ, Nat.testBit_succ] at this)
    rw [ones, ones, ones, hr]
    have t : ∀ z : Nat, (decide (z % 2 = 1)).toNat = z % 2 := fun z => by
      rcases Nat.mod_two_eq_zero_or_one z with h | h <;> simp [h]
    rw [t, t, t] at h0
    omega
theorem e_cnt (x y : Nat) (hy : y < 18446744073709551616) : ones 64 (orF x y) = ones 64 (woF x y) + ones 64 y := by
  apply ones_sum
  intro i hi
  rw [tb_wo _ _ _ hy]
  unfold orF
  rw [Nat.testBit_or]
  simp [hi]
  cases x.testBit i <;> cases y.testBit i <;> rfl

theorem zip_each {f h : Nat → Nat → Nat} {ws vs : List Nat} (hl : vs.length = ws.length) (e : ∀ k (h1 : k < ws.length) (h2 : k < vs.length), f ws[k] vs[k] = h ws[k] vs[k]) : List.zipWith f ws vs = List.zipWith h ws vs := by
  apply List.ext_getElem
  · simp
  · intro k h1 h2
    simp only [List.length_zipWith] at h1
    rw [List.getElem_zipWith, List.getElem_zipWith]
    exact e k (by omega) (by omega)
theorem p_none {ws vs : List Nat} (hl : vs.length = ws.length) (h2 : ∀ x ∈ vs, x < 18446744073709551616) : List.zipWith andF (List.zipWith woF ws vs) (List.zipWith andF ws vs) = List.replicate ws.length 0 := by
  apply List.ext_getElem
  · simp [hl]
  · intro k a b
    simp only [List.length_zipWith, List.length_replicate] at a b
    rw [List.getElem_zipWith, List.getElem_zipWith, List.getElem_zipWith, List.getElem_replicate]
    exact e_none _ _ (h2 _ (List.getElem_mem _))
theorem p_both {ws vs : List Nat} (hl : vs.length = ws.length) (h1 : ∀ x ∈ ws, x < 18446744073709551616) (h2 : ∀ x ∈ vs, x < 18446744073709551616) : List.zipWith orF (List.zipWith woF ws vs) (List.zipWith andF ws vs) = ws := by
  apply List.ext_getElem
  · simp [hl]
  · intro k a b
    simp only [List.length_zipWith] at a
    rw [List.getElem_zipWith, List.getElem_zipWith, List.getElem_zipWith]
    exact e_both _ _ (h1 _ (List.getElem_mem _)) (h2 _ (List.getElem_mem _))
theorem p_ws {ws vs : List Nat} (hl : vs.length = ws.length) (h1 : ∀ x ∈ ws, x < 18446744073709551616) (h2 : ∀ x ∈ vs, x < 18446744073709551616) : inB (List.zipWith woF ws vs) ws = true := inB_yes (by simp [hl]) fun k a b => by
  rw [List.getElem_zipWith]
  exact e_ws _ _ (h1 _ (List.getElem_mem _)) (h2 _ (List.getElem_mem _))
theorem p_ut {ws vs : List Nat} (hl : vs.length = ws.length) (h2 : ∀ x ∈ vs, x < 18446744073709551616) : inB (List.zipWith andF ws vs) vs = true := inB_yes (by simp [hl]) fun k a b => by
  rw [List.getElem_zipWith]
  exact e_ut _ _ (h2 _ (List.getElem_mem _))
theorem p_so {ws vs : List Nat} (hl : vs.length = ws.length) (h1 : ∀ x ∈ ws, x < 18446744073709551616) (h2 : ∀ x ∈ vs, x < 18446744073709551616) : inB ws (List.zipWith orF ws vs) = true := inB_yes (by simp [hl]) fun k a b => by
  rw [List.getElem_zipWith]
  exact e_so _ _ (h1 _ (List.getElem_mem _)) (h2 _ (List.getElem_mem _))
theorem p_to {ws vs : List Nat} (hl : vs.length = ws.length) (h1 : ∀ x ∈ ws, x < 18446744073709551616) (h2 : ∀ x ∈ vs, x < 18446744073709551616) : inB vs (List.zipWith orF ws vs) = true := inB_yes (by simp [hl]) fun k a b => by
  rw [List.getElem_zipWith]
  exact e_to _ _ (h1 _ (List.getElem_mem _)) (h2 _ (List.getElem_mem _))
theorem p_cnt : ∀ {ws vs : List Nat}, vs.length = ws.length → (∀ x ∈ vs, x < 18446744073709551616) → cnt (List.zipWith orF ws vs) = cnt (List.zipWith woF ws vs) + cnt vs
  | [], [], _, _ => rfl
  | x :: ws, y :: vs, hl, h2 => by
    have ih := p_cnt (ws := ws) (vs := vs) (by simpa using hl) (fun z hz => h2 z (by simp [hz]))
    have e := e_cnt x y (h2 y (by simp))
    unfold cnt at *
    simp only [List.zipWith_cons_cons, List.map_cons, List.sum_cons]
    omega
  | [], _ :: _, hl, _ => by simp at hl
  | _ :: _, [], hl, _ => by simp at hl
theorem cnt_zero (n : Nat) : cnt (List.replicate n 0) = 0 := by
  unfold cnt
  induction n with
  | zero => rfl
  | succ n ih => rw [List.replicate_succ, List.map_cons, List.sum_cons, ih, ones_zero]
end Go.Proofs.YtfagjejknnkhdaaDoor
