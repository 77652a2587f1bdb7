/- alike, of the statements' own: the same value in all fields. -/
import Derived.Test.YthmhcpghfbifiaaGreatDoorGVFO
namespace Go.Proofs.YthmhcpghfbifiaaGreatDoor
open Go.RowKit

theorem ordV_self (a : Vl) : ordV a a = 0 := by
  have h : ∀ n (a : Vl), a.size ≤ n → ordV a a = 0 := by
    intro n
    induction n with
    | zero => intro a h; have := a.size_pos; omega
    | succ n ih =>
      intro a h
      have hl : ∀ l : List Vl, (∀ x ∈ l, ordV x x = 0) → ordL l l = 0 := by
        intro l
        induction l with
        | nil => intro _; exact ordL_nil _
        | cons x l il => intro hx; rw [ordL_cons, if_pos (hx x (by simp)), il fun y hy => hx y (by simp [hy])]
      have : ordI a.items a.items = 0 := by
        unfold ordI
        rw [if_pos (cmpI_self _)]
        exact hl _ fun x hx => ih x (by have := Vl.size_item hx; omega)
      rw [ordV_is, cmpI_self, cmpI_self, cmpI_self, cmpS_eq (by simp), this]
      rfl
  exact h _ a (Nat.le_refl _)
end Go.Proofs.YthmhcpghfbifiaaGreatDoor

/- The order of values is a total one. -/
namespace Go.Proofs.YthmhcpghfbifiaaGreatDoor

theorem cmpI_zero {a b : Int} (h : cmpI a b = 0) : a = b := by unfold cmpI at h; split at h <;> (try split at h) <;> omega
theorem cmpI_anti (a b : Int) : cmpI b a = -cmpI a b := by unfold cmpI; split <;> split <;> (try split) <;> omega
theorem cmpI_trans {a b c : Int} (h : cmpI a b < 0) (k : cmpI b c < 0) : cmpI a c < 0 := by
  have h1 : a < b := by unfold cmpI at h; split at h <;> (try split at h) <;> omega
  have h2 : b < c := by unfold cmpI at k; split at k <;> (try split at k) <;> omega
  unfold cmpI
  rw [if_pos (by omega)]
  omega
theorem less_trans : ∀ {x y z : List UInt8}, Op.bytesLess x y = true → Op.bytesLess y z = true → Op.bytesLess x z = true
  | _, [], _, h, _ => by cases ‹List UInt8› <;> simp [Op.bytesLess] at h
  | _, _ :: _, [], _, k => by simp [Op.bytesLess] at k
  | [], _ :: _, _ :: _, _, _ => rfl
  | a :: x, b :: y, c :: z, h, k => by
    simp only [Op.bytesLess, Bool.or_eq_true, Bool.and_eq_true, decide_eq_true_eq, beq_iff_eq] at h k ⊢
    rcases h with h | ⟨rfl, h⟩
    · rcases k with k | ⟨rfl, k⟩
      · exact .inl (UInt8.lt_trans h k)
      · exact .inl h
    · rcases k with k | ⟨rfl, k⟩
      · exact .inl k
      · exact .inr ⟨rfl, less_trans h k⟩
theorem less_tri : ∀ {x y : List UInt8}, Op.bytesLess x y = false → x ≠ y → Op.bytesLess y x = true
  | [], [], _, h => absurd rfl h
  | [], _ :: _, h, _ => by simp [Op.bytesLess] at h
  | _ :: _, [], _, _ => rfl
  | a :: x, b :: y, h, k => by
    simp only [Op.bytesLess, Bool.or_eq_false_iff, Bool.and_eq_false_iff, decide_eq_false_iff_not, Bool.or_eq_true, Bool.and_eq_true, decide_eq_true_eq, beq_iff_eq, beq_eq_false_iff_ne] at h ⊢
    by_cases e : a = b
    · subst e
      refine .inr ⟨rfl, less_tri ?_ (fun e => k (by rw [e]))⟩
      rcases h.2 with h | h
      · exact absurd rfl h
      · exact h
    · refine .inl ?_
      have h1 := h.1
      rw [UInt8.lt_iff_toNat_lt] at h1 ⊢
      have h2 : a.toNat ≠ b.toNat := fun q => e (UInt8.toNat_inj.1 q)
      omega
theorem less_asym {x y : List UInt8} (h : Op.bytesLess x y = true) : Op.bytesLess y x = false := by
  cases k : Op.bytesLess y x
  · rfl
  · have := less_trans h k
    rw [less_self] at this
    cases this
theorem cmpS_neg {a b : ByteArray} : cmpS a b < 0 ↔ Op.bytesLess a.toList b.toList = true := by
  unfold cmpS
  cases Op.bytesLess a.toList b.toList <;> cases (a.toList == b.toList) <;> simp
theorem cmpS_anti (a b : ByteArray) : cmpS b a = -cmpS a b := by
  unfold cmpS
  cases h : Op.bytesLess a.toList b.toList
  · by_cases e : a.toList = b.toList
    · rw [e, less_self]; simp
    · have := less_tri h e
      have e' : (a.toList == b.toList) = false := by simpa using e
      simp [this, e']
  · have := less_asym h
    have e : (b.toList == a.toList) = false := by
      cases q : (b.toList == a.toList)
      · rfl
      · have q' : b.toList = a.toList := by simpa using q
        rw [q', less_self] at h
        cases h
    simp [this, e]
/-- What is asked of a part of the order, at three values. -/
structure Part (p q r : Int) : Prop where
  one : p = 0 → r = q
  two : q = 0 → r = p
  three : p < 0 → q < 0 → r < 0
theorem orI_part : ∀ {ps qs rs : List Int}, ps.length = qs.length → ps.length = rs.length → (∀ j (h1 : j < ps.length) (h2 : j < qs.length) (h3 : j < rs.length), Part ps[j] qs[j] rs[j]) → orI ps < 0 → orI qs < 0 → orI rs < 0
  | [], _, _, _, _, _, h, _ => by simp [orI] at h
  | p :: ps, [], _, h, _, _, _, _ => by simp at h
  | p :: ps, _ :: _, [], _, h, _, _, _ => by simp at h
  | p :: ps, q :: qs, r :: rs, h1, h2, hp, a, b => by
    have h0 := hp 0 (by simp) (by simp) (by simp)
    simp only [List.getElem_cons_zero] at h0
    rw [orI_cons] at a b ⊢
    by_cases e1 : p = 0
    · have e3 := h0.one e1
      rw [if_pos e1] at a
      by_cases e2 : q = 0
      · rw [if_pos (by omega)]
        rw [if_pos e2] at b
        exact orI_part (by simpa using h1) (by simpa using h2) (fun j a1 a2 a3 => hp (j + 1) (by simpa using a1) (by simpa using a2) (by simpa using a3)) a b
      · rw [if_neg e2] at b
        rw [if_neg (by omega)]
        omega
    · rw [if_neg e1] at a
      by_cases e2 : q = 0
      · have e3 := h0.two e2
        rw [if_neg (by omega)]
        omega
      · rw [if_neg e2] at b
        have := h0.three a b
        rw [if_neg (by omega)]
        omega
theorem text_ext {a b : ByteArray} (h : a.toList = b.toList) : a = b := by
  rw [Go.Lib.toList_data, Go.Lib.toList_data] at h
  exact ByteArray.ext (Array.toList_inj.mp h)
theorem cmpS_zero {a b : ByteArray} (h : cmpS a b = 0) : a = b := by
  unfold cmpS at h
  cases h1 : Op.bytesLess a.toList b.toList
  · cases h2 : (a.toList == b.toList)
    · rw [h1, h2] at h
      simp at h
    · exact text_ext (by simpa using h2)
  · rw [h1] at h
    simp at h
theorem cmpS_trans {a b c : ByteArray} (h : cmpS a b < 0) (k : cmpS b c < 0) : cmpS a c < 0 := cmpS_neg.2 (less_trans (cmpS_neg.1 h) (cmpS_neg.1 k))
theorem orI_zero : ∀ {l : List Int}, orI l = 0 → ∀ x ∈ l, x = 0
  | [], _, _, h => by cases h
  | a :: l, h, x, hx => by
    rw [orI_cons] at h
    by_cases e : a = 0
    · rw [if_pos e] at h
      rcases List.mem_cons.1 hx with rfl | hx
      · exact e
      · exact orI_zero h x hx
    · rw [if_neg e] at h
      exact absurd h e
theorem orI_neg : ∀ {l r : List Int}, l.length = r.length → (∀ j (h1 : j < l.length) (h2 : j < r.length), r[j] = -l[j]) → orI r = -orI l
  | [], [], _, _ => rfl
  | [], _ :: _, h, _ => by simp at h
  | _ :: _, [], h, _ => by simp at h
  | a :: l, b :: r, h, k => by
    have h0 := k 0 (by simp) (by simp)
    simp only [List.getElem_cons_zero] at h0
    have h1 := orI_neg (l := l) (r := r) (by simpa using h) fun j a1 a2 => by
      have := k (j + 1) (by simpa using a1) (by simpa using a2)
      simpa using this
    rw [orI_cons, orI_cons]
    by_cases e : a = 0
    · rw [if_pos e, if_pos (by omega), h1]
    · rw [if_neg e, if_neg (by omega), h0]
theorem ordL_zero : ∀ {l r : List Vl}, l.length = r.length → (∀ x ∈ l, ∀ y, ordV x y = 0 → x = y) → ordL l r = 0 → l = r
  | [], [], _, _, _ => rfl
  | [], _ :: _, h, _, _ => by simp at h
  | _ :: _, [], h, _, _ => by simp at h
  | a :: l, b :: r, h, k, z => by
    rw [ordL_cons] at z
    by_cases e : ordV a b = 0
    · rw [if_pos e] at z
      rw [k a (by simp) b e, ordL_zero (by simpa using h) (fun x hx => k x (by simp [hx])) z]
    · rw [if_neg e] at z
      exact absurd z e
theorem ordI_zero {l r : List Vl} (k : ∀ x ∈ l, ∀ y, ordV x y = 0 → x = y) (h : ordI l r = 0) : l = r := by
  unfold ordI at h
  by_cases e : cmpI l.length r.length = 0
  · rw [if_pos e] at h
    have := cmpI_zero e
    exact ordL_zero (by omega) k h
  · rw [if_neg e] at h
    exact absurd h e
/-- Values that the order does not tell apart are the same. -/
theorem ordV_zero_n (n : Nat) : ∀ a b : Vl, a.size ≤ n → ordV a b = 0 → a = b := by
  induction n with
  | zero =>
    intro a b h
    have := a.size_pos
    omega
  | succ n ih =>
    intro a b h z
    rw [ordV_is] at z
    have z := orI_zero z
    have z1 := cmpI_zero (z (cmpI a.kind b.kind) (by simp))
    have z2 := cmpI_zero (z (cmpI a.int b.int) (by simp))
    have z3 := cmpI_zero (z (cmpI a.im b.im) (by simp))
    have z4 := cmpS_zero (z (cmpS a.text b.text) (by simp))
    have z5 := ordI_zero (fun x hx y => ih x y (by have := Vl.size_item hx; omega)) (z (ordI a.items b.items) (by simp))
    cases a
    cases b
    simp only at z1 z2 z3 z4 z5
    rw [z1, z2, z3, z4, z5]
theorem ordV_zero {a b : Vl} : ordV a b = 0 → a = b := ordV_zero_n a.size a b (Nat.le_refl _)
theorem ordL_neg : ∀ {l r : List Vl}, (∀ x ∈ l, ∀ y, ordV y x = -ordV x y) → ordL r l = -ordL l r
  | [], r, _ => by rw [ordL_nil, ordL_nil']; rfl
  | _ :: _, [], _ => by rw [ordL_nil, ordL_nil']; rfl
  | a :: l, b :: r, k => by
    have h0 := k a (by simp) b
    have h1 := ordL_neg (l := l) (r := r) fun x hx => k x (by simp [hx])
    rw [ordL_cons, ordL_cons]
    by_cases e : ordV a b = 0
    · rw [if_pos e, if_pos (by omega), h1]
    · rw [if_neg e, if_neg (by omega), h0]
theorem ordI_neg {l r : List Vl} (k : ∀ x ∈ l, ∀ y, ordV y x = -ordV x y) : ordI r l = -ordI l r := by
  have h0 := cmpI_anti l.length r.length
  have h1 := ordL_neg (r := r) k
  unfold ordI
  by_cases e : cmpI l.length r.length = 0
  · rw [if_pos e, if_pos (by omega), h1]
  · rw [if_neg e, if_neg (by omega), h0]
theorem ordV_anti_n (n : Nat) : ∀ a b : Vl, a.size ≤ n → ordV b a = -ordV a b := by
  induction n with
  | zero =>
    intro a b h
    have := a.size_pos
    omega
  | succ n ih =>
    intro a b h
    have h5 := ordI_neg (l := a.items) (r := b.items) fun x hx y => ih x y (by have := Vl.size_item hx; omega)
    rw [ordV_is, ordV_is]
    refine orI_neg rfl fun j h1 h2 => ?_
    match j, h1 with
    | 0, _ => exact cmpI_anti _ _
    | 1, _ => exact cmpI_anti _ _
    | 2, _ => exact cmpI_anti _ _
    | 3, _ => exact cmpS_anti _ _
    | 4, _ => exact h5
    | j + 5, h => exact absurd (show j + 5 < 5 from h) (by omega)
theorem ordV_anti (a b : Vl) : ordV b a = -ordV a b := ordV_anti_n a.size a b (Nat.le_refl _)
theorem part_I (a b c : Int) : Part (cmpI a b) (cmpI b c) (cmpI a c) := ⟨fun h => by rw [cmpI_zero h], fun h => by rw [cmpI_zero h], cmpI_trans⟩
theorem part_S (a b c : ByteArray) : Part (cmpS a b) (cmpS b c) (cmpS a c) := ⟨fun h => by rw [cmpS_zero h], fun h => by rw [cmpS_zero h], cmpS_trans⟩
theorem part_V {a b c : Vl} (h : ordV a b < 0 → ordV b c < 0 → ordV a c < 0) : Part (ordV a b) (ordV b c) (ordV a c) := ⟨fun h => by rw [ordV_zero h], fun h => by rw [ordV_zero h], h⟩
theorem ordL_part3 : ∀ {l r t : List Vl}, l.length = r.length → r.length = t.length → (∀ x ∈ l, ∀ y z, Part (ordV x y) (ordV y z) (ordV x z)) → ordL l r < 0 → ordL r t < 0 → ordL l t < 0
  | [], r, _, _, _, _, h, _ => by rw [ordL_nil] at h; omega
  | _ :: _, [], _, h, _, _, _, _ => by simp at h
  | _ :: _, _ :: _, [], _, h, _, _, _ => by simp at h
  | a :: l, b :: r, c :: t, h1, h2, k, p, q => by
    have h0 := k a (by simp) b c
    rw [ordL_cons] at p q ⊢
    by_cases e1 : ordV a b = 0
    · have e3 := h0.one e1
      rw [if_pos e1] at p
      by_cases e2 : ordV b c = 0
      · rw [if_pos e2] at q
        rw [if_pos (by omega)]
        exact ordL_part3 (by simpa using h1) (by simpa using h2) (fun x hx => k x (by simp [hx])) p q
      · rw [if_neg e2] at q
        rw [if_neg (by omega)]
        omega
    · rw [if_neg e1] at p
      by_cases e2 : ordV b c = 0
      · have e3 := h0.two e2
        rw [if_neg (by omega)]
        omega
      · rw [if_neg e2] at q
        have := h0.three p q
        rw [if_neg (by omega)]
        omega
theorem part_L {l r t : List Vl} (k : ∀ x ∈ l, ∀ y z, Part (ordV x y) (ordV y z) (ordV x z)) : Part (ordI l r) (ordI r t) (ordI l t) := by
  refine ⟨fun h => by rw [ordI_zero (fun x _ y => ordV_zero) h], fun h => by rw [ordI_zero (fun x _ y => ordV_zero) h], fun p q => ?_⟩
  have h0 := part_I l.length r.length t.length
  unfold ordI at p q ⊢
  by_cases e1 : cmpI l.length r.length = 0
  · have e3 := h0.one e1
    rw [if_pos e1] at p
    by_cases e2 : cmpI r.length t.length = 0
    · rw [if_pos e2] at q
      rw [if_pos (by omega)]
      have f1 := cmpI_zero e1
      have f2 := cmpI_zero e2
      exact ordL_part3 (by omega) (by omega) k p q
    · rw [if_neg e2] at q
      rw [if_neg (by omega)]
      omega
  · rw [if_neg e1] at p
    by_cases e2 : cmpI r.length t.length = 0
    · have e3 := h0.two e2
      rw [if_neg (by omega)]
      omega
    · rw [if_neg e2] at q
      have := h0.three p q
      rw [if_neg (by omega)]
      omega
theorem ordV_trans_n (n : Nat) : ∀ a b c : Vl, a.size ≤ n → ordV a b < 0 → ordV b c < 0 → ordV a c < 0 := by
  induction n with
  | zero =>
    intro a b c h
    have := a.size_pos
    omega
  | succ n ih =>
    intro a b c h p q
    have h5 := part_L (l := a.items) (r := b.items) (t := c.items) fun x hx y z => part_V (ih x y z (by have := Vl.size_item hx; omega))
    rw [ordV_is] at p q ⊢
    revert p q
    refine orI_part (by rfl) (by rfl) (fun j h1 h2 h3 => ?_)
    match j, h1 with
    | 0, _ => exact part_I _ _ _
    | 1, _ => exact part_I _ _ _
    | 2, _ => exact part_I _ _ _
    | 3, _ => exact part_S _ _ _
    | 4, _ => exact h5
    | j + 5, h => exact absurd (show j + 5 < 5 from h) (by omega)
theorem ordV_trans {a b c : Vl} : ordV a b < 0 → ordV b c < 0 → ordV a c < 0 := ordV_trans_n a.size a b c (Nat.le_refl _)
end Go.Proofs.YthmhcpghfbifiaaGreatDoor
