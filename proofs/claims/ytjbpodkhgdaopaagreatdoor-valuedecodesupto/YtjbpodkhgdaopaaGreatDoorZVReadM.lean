/- What the reference reads of bytes is what the program reads, where the value is right: plain mathematics. -/
import Derived.Test.YtjbpodkhgdaopaaGreatDoorZVDecV
import Derived.Test.YtjbpodkhgdaopaaGreatDoorGVFO
namespace Go.Proofs.YtjbpodkhgdaopaaGreatDoor

/-- A value at a place, as the reference reads it, with so many parts begun; n: how many levels there are still. -/
def readM (l : List UInt8) : Nat → Nat → Nat → Option (Vl × Nat × Nat)
  | 0, _, _ => none
  | n + 1, p, q => if 4096 < q + 1 then none else match headM (l.drop p) with
    | none => none
    | some (v, k, r) => if v.kind < 1 ∨ 7 < v.kind then none else match itsM (readM l n) k (p + ((l.drop p).length - r.length)) (q + 1) with
      | none => none
      | some (xs, t) => some (⟨v.kind, v.int, v.im, v.text, xs⟩, t)
theorem frontGo_ext (s : List UInt8) : ∀ (t : List UInt8) (i a v u : Nat), frontGo i a t = (v, u, 0) → frontGo i a (t ++ s) = (v, u, 0)
  | [], i, a, v, u, h => by simp [frontGo] at h
  | c :: t, i, a, v, u, h => by
    rw [List.cons_append]
    rw [frontGo] at h ⊢
    split at h
    · simp at h
    · rename_i h1
      rw [if_neg h1]
      split at h
      · rename_i h2
        rw [if_pos h2]
        exact frontGo_ext s t _ _ _ _ h
      · rename_i h2
        rw [if_neg h2]
        exact h
theorem frontGo_cut : ∀ (t : List UInt8) (i a v u : Nat), i ≤ 9 → frontGo i a t = (v, u, 0) → i < u ∧ u ≤ 10 ∧ ∀ N, u ≤ i + N → frontGo i a (t.take N) = (v, u, 0)
  | [], i, a, v, u, _, h => by simp [frontGo] at h
  | c :: t, i, a, v, u, hi, h => by
    rw [frontGo] at h
    split at h
    · simp at h
    · rename_i h1
      split at h
      · rename_i h2
        have h9 : i ≠ 9 := fun e => by
          have : c.toNat ≠ 1 := by omega
          exact h1 ⟨e, this⟩
        obtain ⟨k1, k2, k3⟩ := frontGo_cut t (i + 1) _ v u (by omega) h
        refine ⟨by omega, k2, fun N hN => ?_⟩
        obtain ⟨M, rfl⟩ : ∃ M, N = M + 1 := ⟨N - 1, by omega⟩
        rw [List.take_succ_cons, frontGo, if_neg h1, if_pos h2]
        exact k3 M (by omega)
      · rename_i h2
        split at h
        · simp at h
        · rename_i h3
          simp only [Prod.mk.injEq] at h
          obtain ⟨rfl, rfl, _⟩ := h
          refine ⟨by omega, by omega, fun N hN => ?_⟩
          obtain ⟨M, rfl⟩ : ∃ M, N = M + 1 := ⟨N - 1, by omega⟩
          rw [List.take_succ_cons, frontGo, if_neg h1, if_neg h2, if_neg h3]
theorem front_ext {t : List UInt8} (s : List UInt8) (h : (front t).2.2 = 0) : front (t ++ s) = front t := by
  unfold front at *
  obtain ⟨⟨v, u, e⟩, hx⟩ : ∃ y, frontGo 0 0 t = y := ⟨_, rfl⟩
  rw [hx] at h
  simp only at h
  subst h
  rw [hx]
  exact frontGo_ext s t 0 0 v u hx
theorem front_cut {t : List UInt8} (h : (front t).2.2 = 0) : (front t).2.1 ≤ 10 ∧ ∀ N, (front t).2.1 ≤ N → front (t.take N) = front t := by
  unfold front at *
  obtain ⟨⟨v, u, e⟩, hx⟩ : ∃ y, frontGo 0 0 t = y := ⟨_, rfl⟩
  rw [hx] at h
  simp only at h
  subst h
  obtain ⟨_, k2, k3⟩ := frontGo_cut t 0 0 v u (by omega) hx
  rw [hx]
  exact ⟨k2, fun N hN => k3 N (by simpa using hN)⟩
theorem textErr_zero {t : List UInt8} (h : textErr t = 0) : (front t).2.2 = 0 ∧ (front t).1 ≤ t.length - (front t).2.1 := by
  unfold textErr at h
  split at h
  · cases h
  · rename_i h1
    refine ⟨h, ?_⟩
    by_cases h2 : (front t).1 ≤ t.length - (front t).2.1
    · exact h2
    · exact absurd ⟨h, h2⟩ h1
theorem text_extD {t : List UInt8} (s : List UInt8) (h : textErr t = 0) : textErr (t ++ s) = 0 ∧ textOf (t ++ s) = textOf t ∧ textRest (t ++ s) = textRest t ++ s := by
  obtain ⟨h1, h2⟩ := textErr_zero h
  have e := front_ext s h1
  have hf := front_fits t
  have h3 : (front t).1 ≤ (t ++ s).length - (front t).2.1 := by rw [List.length_append]; omega
  refine ⟨?_, ?_, ?_⟩
  · unfold textErr
    rw [e, if_neg (fun h => h.2 h3)]
    exact h1
  · unfold textOf
    rw [e, if_pos ⟨h1, h3⟩, if_pos ⟨h1, h2⟩, List.drop_append_of_le_length hf, List.take_append_of_le_length (by rw [List.length_drop]; omega)]
  · unfold textRest
    rw [e, if_pos ⟨h1, h3⟩, if_pos ⟨h1, h2⟩, List.drop_append_of_le_length (by omega)]
theorem text_cutD {t : List UInt8} {N : Nat} (h : textErr t = 0) (hN : (front t).2.1 + (front t).1 ≤ N) : textErr (t.take N) = 0 ∧ textOf (t.take N) = textOf t ∧ (textRest t).length + ((front t).2.1 + (front t).1) = t.length ∧ (textRest (t.take N)).length + ((front t).2.1 + (front t).1) = (t.take N).length ∧ (textOf t).length = (front t).1 := by
  obtain ⟨h1, h2⟩ := textErr_zero h
  have e := (front_cut h1).2 N (by omega)
  have hf := front_fits t
  have hl : (t.take N).length = min N t.length := List.length_take
  have h3 : (front t).1 ≤ (t.take N).length - (front t).2.1 := by omega
  refine ⟨?_, ?_, ?_, ?_, ?_⟩
  · unfold textErr
    rw [e, if_neg (fun h => h.2 h3)]
    exact h1
  · unfold textOf
    rw [e, if_pos ⟨h1, h3⟩, if_pos ⟨h1, h2⟩, List.drop_take, List.take_take, Nat.min_eq_left (by omega)]
  · unfold textRest
    rw [if_pos ⟨h1, h2⟩, List.length_drop]
    omega
  · unfold textRest
    rw [e, if_pos ⟨h1, h3⟩, List.length_drop]
    omega
  · unfold textOf
    rw [if_pos ⟨h1, h2⟩, List.length_take, List.length_drop]
    omega
/-- What stands behind a head's bytes turns nothing. -/
theorem head_ext {t : List UInt8} {u : Vl} {k : Nat} {r : List UInt8} (s : List UInt8) (h : headM t = some (u, k, r)) : headM (t ++ s) = some (u, k, r ++ s) := by
  cases t with
  | nil => simp [headM] at h
  | cons c t =>
    rw [List.cons_append]
    simp only [headM] at h ⊢
    split at h
    · rename_i hk
      rw [if_pos hk]
      cases t with
      | nil => simp at h
      | cons x t =>
        simp only [Option.some.injEq, Prod.mk.injEq] at h
        obtain ⟨rfl, rfl, rfl⟩ := h
        rfl
    · rename_i hk
      rw [if_neg hk]
      split at h
      · rename_i hk2
        rw [if_pos hk2]
        split at h
        · rename_i hf
          have e := front_ext s hf
          simp only [Option.some.injEq, Prod.mk.injEq] at h
          obtain ⟨rfl, rfl, rfl⟩ := h
          rw [e, if_pos hf, List.drop_append_of_le_length (front_fits t)]
        · cases h
      · rename_i hk2
        rw [if_neg hk2]
        split at h
        · rename_i hk3
          rw [if_pos hk3]
          split at h
          · rename_i hf
            have e := front_ext s hf
            split at h
            · rename_i hf2
              have e2 := front_ext s hf2
              simp only [Option.some.injEq, Prod.mk.injEq] at h
              obtain ⟨rfl, rfl, rfl⟩ := h
              rw [e, if_pos hf, List.drop_append_of_le_length (front_fits t), e2, if_pos hf2, List.drop_append_of_le_length (front_fits _)]
            · cases h
          · cases h
        · rename_i hk3
          rw [if_neg hk3]
          split at h
          · rename_i hk4
            rw [if_pos hk4]
            split at h
            · rename_i hf
              obtain ⟨e1, e2, e3⟩ := text_extD s hf
              simp only [Option.some.injEq, Prod.mk.injEq] at h
              obtain ⟨rfl, rfl, rfl⟩ := h
              rw [if_pos e1, e2, e3]
            · cases h
          · rename_i hk4
            rw [if_neg hk4]
            split at h
            · rename_i hk5
              rw [if_pos hk5]
              split at h
              · rename_i hf
                have e := front_ext s hf
                simp only [Option.some.injEq, Prod.mk.injEq] at h
                obtain ⟨rfl, rfl, rfl⟩ := h
                rw [e, if_pos hf, List.drop_append_of_le_length (front_fits t)]
              · cases h
            · rename_i hk5
              rw [if_neg hk5]
              simp only [Option.some.injEq, Prod.mk.injEq] at h
              obtain ⟨rfl, rfl, rfl⟩ := h
              rfl
/-- A head of a short name lies within the first 139 bytes. -/
theorem head_cut {t : List UInt8} {u : Vl} {k : Nat} {r : List UInt8} (h : headM t = some (u, k, r)) (hu : u.text.size ≤ 128) : ∃ r', headM (t.take 139) = some (u, k, r') ∧ (t.take 139).length - r'.length = t.length - r.length := by
  cases t with
  | nil => simp [headM] at h
  | cons c t =>
    have hl : ∀ N, (t.take N).length = min N t.length := fun N => List.length_take
    rw [List.take_succ_cons]
    simp only [headM] at h ⊢
    split at h
    · rename_i hk
      rw [if_pos hk]
      cases t with
      | nil => simp at h
      | cons x t =>
        simp only [Option.some.injEq, Prod.mk.injEq] at h
        obtain ⟨rfl, rfl, rfl⟩ := h
        refine ⟨t.take 137, rfl, ?_⟩
        simp only [List.length_cons, List.length_take]
        omega
    · rename_i hk
      rw [if_neg hk]
      split at h
      · rename_i hk2
        rw [if_pos hk2]
        split at h
        · rename_i hf
          obtain ⟨c1, c2⟩ := front_cut hf
          have e := c2 138 (by omega)
          have hff := front_fits t
          simp only [Option.some.injEq, Prod.mk.injEq] at h
          obtain ⟨rfl, rfl, rfl⟩ := h
          refine ⟨(t.take 138).drop (front t).2.1, by rw [e, if_pos hf], ?_⟩
          simp only [List.length_cons, List.length_drop, hl]
          omega
        · cases h
      · rename_i hk2
        rw [if_neg hk2]
        split at h
        · rename_i hk3
          rw [if_pos hk3]
          split at h
          · rename_i hf
            obtain ⟨c1, c2⟩ := front_cut hf
            have e := c2 138 (by omega)
            have hff := front_fits t
            split at h
            · rename_i hf2
              obtain ⟨d1, d2⟩ := front_cut hf2
              have e2 : front ((t.take 138).drop (front t).2.1) = front (t.drop (front t).2.1) := by
                rw [List.drop_take]
                exact d2 _ (by omega)
              have hff2 := front_fits (t.drop (front t).2.1)
              rw [List.length_drop] at hff2
              simp only [Option.some.injEq, Prod.mk.injEq] at h
              obtain ⟨rfl, rfl, rfl⟩ := h
              refine ⟨((t.take 138).drop (front t).2.1).drop (front (t.drop (front t).2.1)).2.1, by rw [e, if_pos hf, e2, if_pos hf2], ?_⟩
              simp only [List.length_cons, List.length_drop, hl]
              omega
            · cases h
          · cases h
        · rename_i hk3
          rw [if_neg hk3]
          split at h
          · rename_i hk4
            rw [if_pos hk4]
            split at h
            · rename_i hf
              obtain ⟨t1, t2⟩ := textErr_zero hf
              have c1 := (front_cut t1).1
              simp only [Option.some.injEq, Prod.mk.injEq] at h
              obtain ⟨rfl, rfl, rfl⟩ := h
              have hsz : (bytesOf (textOf t)).size = (textOf t).length := by unfold bytesOf; simp [ByteArray.size]
              have hsz2 : (textOf t).length = (front t).1 := by
                unfold textOf
                have := front_fits t
                rw [if_pos ⟨t1, t2⟩, List.length_take, List.length_drop]
                omega
              have hu' : (bytesOf (textOf t)).size ≤ 128 := hu
              rw [hsz, hsz2] at hu'
              obtain ⟨e1, e2, e3, e4, _⟩ := text_cutD (N := 138) hf (by omega)
              refine ⟨textRest (t.take 138), by rw [if_pos e1, e2], ?_⟩
              simp only [List.length_cons]
              omega
            · cases h
          · rename_i hk4
            rw [if_neg hk4]
            split at h
            · rename_i hk5
              rw [if_pos hk5]
              split at h
              · rename_i hf
                obtain ⟨c1, c2⟩ := front_cut hf
                have e := c2 138 (by omega)
                have hff := front_fits t
                simp only [Option.some.injEq, Prod.mk.injEq] at h
                obtain ⟨rfl, rfl, rfl⟩ := h
                refine ⟨(t.take 138).drop (front t).2.1, by rw [e, if_pos hf], ?_⟩
                simp only [List.length_cons, List.length_drop, hl]
                omega
              · cases h
            · rename_i hk5
              rw [if_neg hk5]
              simp only [Option.some.injEq, Prod.mk.injEq] at h
              obtain ⟨rfl, rfl, rfl⟩ := h
              refine ⟨t.take 138, rfl, ?_⟩
              simp only [List.length_cons, hl]
              omega
theorem its_map {g g' : Nat → Nat → Option (Vl × Nat × Nat)} : ∀ (k p q : Nat) (xs : List Vl) (t : Nat × Nat), itsM g k p q = some (xs, t) → (∀ x ∈ xs, ∀ p q t', g p q = some (x, t') → g' p q = some (x, t')) → itsM g' k p q = some (xs, t)
  | 0, p, q, xs, t, h, _ => by simpa [itsM] using h
  | k + 1, p, q, xs, t, h, hg => by
    simp only [itsM] at h ⊢
    cases e : g p q with
    | none => rw [e] at h; cases h
    | some y =>
      obtain ⟨x, p1, q1⟩ := y
      rw [e] at h
      simp only at h
      cases e2 : itsM g k p1 q1 with
      | none => rw [e2] at h; cases h
      | some y =>
        obtain ⟨ys, t2⟩ := y
        rw [e2] at h
        simp only [Option.some.injEq, Prod.mk.injEq] at h
        obtain ⟨rfl, rfl⟩ := h
        rw [hg x (by simp) _ _ _ e]
        simp only
        rw [its_map k p1 q1 ys t2 e2 (fun z hz => hg z (by simp [hz]))]
theorem formV_item {v x : Vl} (h : formV v = true) (hx : x ∈ v.items) : formV x = true := by
  rw [formV_eq] at h
  simp only [Bool.and_eq_true, List.all_eq_true] at h
  exact h.2.1 x hx
theorem formV_kind {v : Vl} (h : formV v = true) : 1 ≤ v.kind ∧ v.kind ≤ 7 := by
  rw [formV_eq] at h
  simp only [Bool.and_eq_true] at h
  have hg := h.1.2
  unfold goodB at hg
  split at hg
  · omega
  · split at hg
    · omega
    · split at hg
      · omega
      · split at hg
        · omega
        · cases hg
theorem ru_le4 : ∀ l : List UInt8, l.length ≤ 4 * (ru l).length := by
  refine ru_ind (by simp) ?_
  intro l hl ih
  rw [ru_step l hl, List.length_cons]
  have := wd_le4 l
  rw [List.length_drop] at ih
  omega
theorem formV_text {v : Vl} (h : formV v = true) : v.text.size ≤ 128 := by
  rw [formV_eq] at h
  simp only [Bool.and_eq_true] at h
  by_cases hk : v.kind = 4
  · have hg := h.1.2
    unfold goodB at hg
    rw [if_neg (by omega), if_neg (by omega), if_pos hk] at hg
    unfold symB at hg
    simp only [Bool.and_eq_true, beq_iff_eq] at hg
    have hn := hg.2
    unfold nameE at hn
    split at hn
    · cases hn
    · rename_i h1
      have h2 := ru_le4 v.text.data.toList
      have h3 : v.text.data.toList.length = v.text.size := by rw [Array.length_toList]; rfl
      have h4 : ¬ 32 < (ru v.text.data.toList).length := fun h => h1 (.inr h)
      omega
  · have hu := h.1.1
    unfold usedB at hu
    simp only [Bool.and_eq_true, Bool.or_eq_true, beq_iff_eq] at hu
    have ht := hu.1.2
    rcases ht with ht | ht
    · have h3 : v.text.toList.length = v.text.size := by rw [ByteArray.toList_eq, Array.length_toList]; rfl
      rw [ht] at h3
      simp at h3
      omega
    · exact absurd ht hk
/-- What the program reads of a right value the reference reads. -/
theorem dec_read (l : List UInt8) : ∀ (m n p q : Nat) (v : Vl) (t : Nat × Nat), decM l m p q = some (v, t) → deepLe n v → formV v = true → readM l n p q = some (v, t)
  | 0, _, _, _, _, _, h, _, _ => by simp [decM] at h
  | m + 1, 0, _, _, _, _, _, hd, _ => hd.elim
  | m + 1, n + 1, p, q, v, t, h, hd, hf => by
    simp only [decM] at h
    simp only [readM]
    split at h
    · cases h
    · rename_i hq
      rw [if_neg hq]
      cases e : headM (seen l p) with
      | none => rw [e] at h; cases h
      | some y =>
        obtain ⟨u, k, r⟩ := y
        rw [e] at h
        simp only at h
        cases e2 : itsM (decM l m) k (p + ((seen l p).length - r.length)) (q + 1) with
        | none => rw [e2] at h; cases h
        | some y =>
          obtain ⟨xs, t2⟩ := y
          rw [e2] at h
          simp only [Option.some.injEq, Prod.mk.injEq] at h
          obtain ⟨rfl, rfl⟩ := h
          have hk := formV_kind hf
          simp only at hk
          have e3 := head_ext ((l.drop p).drop 139) e
          have e4 : seen l p ++ (l.drop p).drop 139 = l.drop p := List.take_append_drop 139 (l.drop p)
          rw [e4] at e3
          rw [e3]
          simp only
          rw [if_neg (by omega)]
          have hlen : (l.drop p).length - (r ++ (l.drop p).drop 139).length = (seen l p).length - r.length := by
            rw [← e4, List.length_append, List.length_append]
            rw [e4]
            omega
          rw [hlen, its_map k _ _ xs t2 e2 (fun x hx p' q' t' hh => dec_read l m n p' q' x t' hh (hd x hx) (formV_item hf hx))]
/-- What the reference reads of a right value the program reads. -/
theorem read_dec (l : List UInt8) : ∀ (n m p q : Nat) (v : Vl) (t : Nat × Nat), n ≤ m → readM l n p q = some (v, t) → formV v = true → decM l m p q = some (v, t)
  | 0, _, _, _, _, _, _, h, _ => by simp [readM] at h
  | n + 1, 0, _, _, _, _, hm, _, _ => by omega
  | n + 1, m + 1, p, q, v, t, hm, h, hf => by
    simp only [readM] at h
    simp only [decM]
    split at h
    · cases h
    · rename_i hq
      rw [if_neg hq]
      cases e : headM (l.drop p) with
      | none => rw [e] at h; cases h
      | some y =>
        obtain ⟨u, k, r⟩ := y
        rw [e] at h
        simp only at h
        split at h
        · cases h
        · cases e2 : itsM (readM l n) k (p + ((l.drop p).length - r.length)) (q + 1) with
          | none => rw [e2] at h; cases h
          | some y =>
            obtain ⟨xs, t2⟩ := y
            rw [e2] at h
            simp only [Option.some.injEq, Prod.mk.injEq] at h
            obtain ⟨rfl, rfl⟩ := h
            have ht := formV_text hf
            obtain ⟨r', c1, c2⟩ := head_cut e ht
            have c3 : headM (seen l p) = some (u, k, r') := c1
            have c4 : (seen l p).length - r'.length = (l.drop p).length - r.length := c2
            rw [c3]
            simp only
            rw [c4, its_map k _ _ xs t2 e2 (fun x hx p' q' t' hh => read_dec l n m p' q' x t' (by omega) hh (formV_item hf hx))]
theorem rightV_is (v : Vl) : rightV v = true ↔ v.size ≤ 4096 ∧ deepLe 16 v ∧ formV v = true := (rw_is 16 v 4096).1
theorem dec_both (l : List UInt8) (m : Nat) (hm : 16 ≤ m) (v : Vl) (t : Nat × Nat) (hr : rightV v = true) : decM l m 0 0 = some (v, t) ↔ readM l 16 0 0 = some (v, t) := by
  obtain ⟨_, h2, h3⟩ := (rightV_is v).1 hr
  exact ⟨fun h => dec_read l m 16 0 0 v t h h2 h3, fun h => read_dec l 16 m 0 0 v t hm h h3⟩
end Go.Proofs.YtjbpodkhgdaopaaGreatDoor
