/- What the reference reads of bytes is what the program reads, where the value is right: plain mathematics. -/
import Derived.Test.YthmhcpghfbifiaaGreatDoorGE3
import Derived.Test.YthmhcpghfbifiaaGreatDoorGVFO
import Derived.Test.YthmhcpghfbifiaaGreatDoorGOctet
import Derived.Test.YthmhcpghfbifiaaGreatDoorGSets
import Derived.Test.YthmhcpghfbifiaaGreatDoorGParA
namespace Go.Proofs.YthmhcpghfbifiaaGreatDoor

/-- A value at a place, as the reference reads it, with so many parts begun; n: how many levels there are still. -/
def readM (l : List UInt8) : Nat → Nat → Nat → Option (Vl × Nat × Nat)
  | 0, _, _ => none
  | n + 1, p, q => if 4096 < q + 1 then none else match headM (l.drop p) with
    | none => none
    | some (v, k, r) => if v.kind < 1 ∨ 7 < v.kind then none else match itsM (readM l n) k (p + ((l.drop p).length - r.length)) (q + 1) with
      | none => none
      | some (xs, t) => some (⟨v.kind, v.int, v.im, v.text, xs⟩, t)
theorem frontGo_ext (s : List UInt8) : ∀ (t : List UInt8) (i a v u : Nat), frontGo i a t = (v, u, 0) → frontGo i a (t ++ s) = (v, u, 0)
  | [], i, a, v, u, h => by simp [frontGo] at h
  | c :: t, i, a, v, u, h => by
    rw [List.cons_append]
    rw [frontGo] at h ⊢
    split at h
    · simp at h
    · rename_i h1
      rw [if_neg h1]
      split at h
      · rename_i h2
        rw [if_pos h2]
        exact frontGo_ext s t _ _ _ _ h
      · rename_i h2
        rw [if_neg h2]
        exact h
theorem frontGo_cut : ∀ (t : List UInt8) (i a v u : Nat), i ≤ 9 → frontGo i a t = (v, u, 0) → i < u ∧ u ≤ 10 ∧ ∀ N, u ≤ i + N → frontGo i a (t.take N) = (v, u, 0)
  | [], i, a, v, u, _, h => by simp [frontGo] at h
  | c :: t, i, a, v, u, hi, h => by
    rw [frontGo] at h
    split at h
    · simp at h
    · rename_i h1
      split at h
      · rename_i h2
        have h9 : i ≠ 9 := fun e => by
          have : c.toNat ≠ 1 := by omega
          exact h1 ⟨e, this⟩
        obtain ⟨k1, k2, k3⟩ := frontGo_cut t (i + 1) _ v u (by omega) h
        refine ⟨by omega, k2, fun N hN => ?_⟩
        obtain ⟨M, rfl⟩ : ∃ M, N = M + 1 := ⟨N - 1, by omega⟩
        rw [List.take_succ_cons, frontGo, if_neg h1, if_pos h2]
        exact k3 M (by omega)
      · rename_i h2
        split at h
        · simp at h
        · rename_i h3
          simp only [Prod.mk.injEq] at h
          obtain ⟨rfl, rfl, _⟩ := h
          refine ⟨by omega, by omega, fun N hN => ?_⟩
          obtain ⟨M, rfl⟩ : ∃ M, N = M + 1 := ⟨N - 1, by omega⟩
          rw [List.take_succ_cons, frontGo, if_neg h1, if_neg h2, if_neg h3]
theorem front_ext {t : List UInt8} (s : List UInt8) (h : (front t).2.2 = 0) : front (t ++ s) = front t := by
  unfold front at *
  obtain ⟨⟨v, u, e⟩, hx⟩ : ∃ y, frontGo 0 0 t = y := ⟨_, rfl⟩
  rw [hx] at h
  simp only at h
  subst h
  rw [hx]
  exact frontGo_ext s t 0 0 v u hx
theorem front_cut {t : List UInt8} (h : (front t).2.2 = 0) : (front t).2.1 ≤ 10 ∧ ∀ N, (front t).2.1 ≤ N → front (t.take N) = front t := by
  unfold front at *
  obtain ⟨⟨v, u, e⟩, hx⟩ : ∃ y, frontGo 0 0 t = y := ⟨_, rfl⟩
  rw [hx] at h
  simp only at h
  subst h
  obtain ⟨_, k2, k3⟩ := frontGo_cut t 0 0 v u (by omega) hx
  rw [hx]
  exact ⟨k2, fun N hN => k3 N (by simpa using hN)⟩
theorem textErr_zero {t : List UInt8} (h : textErr t = 0) : (front t).2.2 = 0 ∧ (front t).1 ≤ t.length - (front t).2.1 := by
  unfold textErr at h
  split at h
  · cases h
  · rename_i h1
    refine ⟨h, ?_⟩
    by_cases h2 : (front t).1 ≤ t.length - (front t).2.1
    · exact h2
    · exact absurd ⟨h, h2⟩ h1
theorem text_extD {t : List UInt8} (s : List UInt8) (h : textErr t = 0) : textErr (t ++ s) = 0 ∧ textOf (t ++ s) = textOf t ∧ textRest (t ++ s) = textRest t ++ s := by
  obtain ⟨h1, h2⟩ := textErr_zero h
  have e := front_ext s h1
  have hf := front_fits t
  have h3 : (front t).1 ≤ (t ++ s).length - (front t).2.1 := by rw [List.length_append]; omega
  refine ⟨?_, ?_, ?_⟩
  · unfold textErr
    rw [e, if_neg (fun h => h.2 h3)]
    exact h1
  · unfold textOf
    rw [e, if_pos ⟨h1, h3⟩, if_pos ⟨h1, h2⟩, List.drop_append_of_le_length hf, List.take_append_of_le_length (by rw [List.length_drop]; omega)]
  · unfold textRest
    rw [e, if_pos ⟨h1, h3⟩, if_pos ⟨h1, h2⟩, List.drop_append_of_le_length (by omega)]
theorem text_cutD {t : List UInt8} {N : Nat} (h : textErr t = 0) (hN : (front t).2.1 + (front t).1 ≤ N) : textErr (t.take N) = 0 ∧ textOf (t.take N) = textOf t ∧ (textRest t).length + ((front t).2.1 + (front t).1) = t.length ∧ (textRest (t.take N)).length + ((front t).2.1 + (front t).1) = (t.take N).length ∧ (textOf t).length = (front t).1 := by
  obtain ⟨h1, h2⟩ := textErr_zero h
  have e := (front_cut h1).2 N (by omega)
  have hf := front_fits t
  have hl : (t.take N).length = min N t.length := List.length_take
  have h3 : (front t).1 ≤ (t.take N).length - (front t).2.1 := by omega
  refine ⟨?_, ?_, ?_, ?_, ?_⟩
  · unfold textErr
    rw [e, if_neg (fun h => h.2 h3)]
    exact h1
  · unfold textOf
    rw [e, if_pos ⟨h1, h3⟩, if_pos ⟨h1, h2⟩, List.drop_take, List.take_take, Nat.min_eq_left (by omega)]
  · unfold textRest
    rw [if_pos ⟨h1, h2⟩, List.length_drop]
    omega
  · unfold textRest
    rw [e, if_pos ⟨h1, h3⟩, List.length_drop]
    omega
  · unfold textOf
    rw [if_pos ⟨h1, h2⟩, List.length_take, List.length_drop]
    omega
/-- What stands behind a head's bytes turns nothing. -/
theorem head_ext {t : List UInt8} {u : Vl} {k : Nat} {r : List UInt8} (s : List UInt8) (h : headM t = some (u, k, r)) : headM (t ++ s) = some (u, k, r ++ s) := by
  cases t with
  | nil => simp [headM] at h
  | cons c t =>
    rw [List.cons_append]
    simp only [headM] at h ⊢
    split at h
    · rename_i hk
      rw [if_pos hk]
      cases t with
      | nil => simp at h
      | cons x t =>
        simp only [Option.some.injEq, Prod.mk.injEq] at h
        obtain ⟨rfl, rfl, rfl⟩ := h
        rfl
    · rename_i hk
      rw [if_neg hk]
      split at h
      · rename_i hk2
        rw [if_pos hk2]
        split at h
        · rename_i hf
          have e := front_ext s hf
          simp only [Option.some.injEq, Prod.mk.injEq] at h
          obtain ⟨rfl, rfl, rfl⟩ := h
          rw [e, if_pos hf, List.drop_append_of_le_length (front_fits t)]
        · cases h
      · rename_i hk2
        rw [if_neg hk2]
        split at h
        · rename_i hk3
          rw [if_pos hk3]
          split at h
          · rename_i hf
            have e := front_ext s hf
            split at h
            · rename_i hf2
              have e2 := front_ext s hf2
              simp only [Option.some.injEq, Prod.mk.injEq] at h
              obtain ⟨rfl, rfl, rfl⟩ := h
              rw [e, if_pos hf, List.drop_append_of_le_length (front_fits t), e2, if_pos hf2, List.drop_append_of_le_length (front_fits _)]
            · cases h
          · cases h
        · rename_i hk3
          rw [if_neg hk3]
          split at h
          · rename_i hk4
            rw [if_pos hk4]
            split at h
            · rename_i hf
              obtain ⟨e1, e2, e3⟩ := text_extD s hf
              simp only [Option.some.injEq, Prod.mk.injEq] at h
              obtain ⟨rfl, rfl, rfl⟩ := h
              rw [if_pos e1, e2, e3]
            · cases h
          · rename_i hk4
            rw [if_neg hk4]
            split at h
            · rename_i hk5
              rw [if_pos hk5]
              split at h
              · rename_i hf
                have e := front_ext s hf
                simp only [Option.some.injEq, Prod.mk.injEq] at h
                obtain ⟨rfl, rfl, rfl⟩ := h
                rw [e, if_pos hf, List.drop_append_of_le_length (front_fits t)]
              · cases h
            · rename_i hk5
              rw [if_neg hk5]
              simp only [Option.some.injEq, Prod.mk.injEq] at h
              obtain ⟨rfl, rfl, rfl⟩ := h
              rfl
/-- A head of a short name lies within the first 139 bytes. -/
theorem head_cut {t : List UInt8} {u : Vl} {k : Nat} {r : List UInt8} (h : headM t = some (u, k, r)) (hu : u.text.size ≤ 128) : ∃ r', headM (t.take 139) = some (u, k, r') ∧ (t.take 139).length - r'.length = t.length - r.length := by
  cases t with
  | nil => simp [headM] at h
  | cons c t =>
    have hl : ∀ N, (t.take N).length = min N t.length := fun N => List.length_take
    rw [List.take_succ_cons]
    simp only [headM] at h ⊢
    split at h
    · rename_i hk
      rw [if_pos hk]
      cases t with
      | nil => simp at h
      | cons x t =>
        simp only [Option.some.injEq, Prod.mk.injEq] at h
        obtain ⟨rfl, rfl, rfl⟩ := h
        refine ⟨t.take 137, rfl, ?_⟩
        simp only [List.length_cons, List.length_take]
        omega
    · rename_i hk
      rw [if_neg hk]
      split at h
      · rename_i hk2
        rw [if_pos hk2]
        split at h
        · rename_i hf
          obtain ⟨c1, c2⟩ := front_cut hf
          have e := c2 138 (by omega)
          have hff := front_fits t
          simp only [Option.some.injEq, Prod.mk.injEq] at h
          obtain ⟨rfl, rfl, rfl⟩ := h
          refine ⟨(t.take 138).drop (front t).2.1, by rw [e, if_pos hf], ?_⟩
          simp only [List.length_cons, List.length_drop, hl]
          omega
        · cases h
      · rename_i hk2
        rw [if_neg hk2]
        split at h
        · rename_i hk3
          rw [if_pos hk3]
          split at h
          · rename_i hf
            obtain ⟨c1, c2⟩ := front_cut hf
            have e := c2 138 (by omega)
            have hff := front_fits t
            split at h
            · rename_i hf2
              obtain ⟨d1, d2⟩ := front_cut hf2
              have e2 : front ((t.take 138).drop (front t).2.1) = front (t.drop (front t).2.1) := by
                rw [List.drop_take]
                exact d2 _ (by omega)
              have hff2 := front_fits (t.drop (front t).2.1)
              rw [List.length_drop] at hff2
              simp only [Option.some.injEq, Prod.mk.injEq] at h
              obtain ⟨rfl, rfl, rfl⟩ := h
              refine ⟨((t.take 138).drop (front t).2.1).drop (front (t.drop (front t).2.1)).2.1, by rw [e, if_pos hf, e2, if_pos hf2], ?_⟩
              simp only [List.length_cons, List.length_drop, hl]
              omega
            · cases h
          · cases h
        · rename_i hk3
          rw [if_neg hk3]
          split at h
          · rename_i hk4
            rw [if_pos hk4]
            split at h
            · rename_i hf
              obtain ⟨t1, t2⟩ := textErr_zero hf
              have c1 := (front_cut t1).1
              simp only [Option.some.injEq, Prod.mk.injEq] at h
              obtain ⟨rfl, rfl, rfl⟩ := h
              have hsz : (bytesOf (textOf t)).size = (textOf t).length := by unfold bytesOf; simp [ByteArray.size]
              have hsz2 : (textOf t).length = (front t).1 := by
                unfold textOf
                have := front_fits t
                rw [if_pos ⟨t1, t2⟩, List.length_take, List.length_drop]
                omega
              have hu' : (bytesOf (textOf t)).size ≤ 128 := hu
              rw [hsz, hsz2] at hu'
              obtain ⟨e1, e2, e3, e4, _⟩ := text_cutD (N := 138) hf (by omega)
              refine ⟨textRest (t.take 138), by rw [if_pos e1, e2], ?_⟩
              simp only [List.length_cons]
              omega
            · cases h
          · rename_i hk4
            rw [if_neg hk4]
            split at h
            · rename_i hk5
              rw [if_pos hk5]
              split at h
              · rename_i hf
                obtain ⟨c1, c2⟩ := front_cut hf
                have e := c2 138 (by omega)
                have hff := front_fits t
                simp only [Option.some.injEq, Prod.mk.injEq] at h
                obtain ⟨rfl, rfl, rfl⟩ := h
                refine ⟨(t.take 138).drop (front t).2.1, by rw [e, if_pos hf], ?_⟩
                simp only [List.length_cons, List.length_drop, hl]
                omega
              · cases h
            · rename_i hk5
              rw [if_neg hk5]
              simp only [Option.some.injEq, Prod.mk.injEq] at h
              obtain ⟨rfl, rfl, rfl⟩ := h
              refine ⟨t.take 138, rfl, ?_⟩
              simp only [List.length_cons, hl]
              omega
theorem its_map {g g' : Nat → Nat → Option (Vl × Nat × Nat)} : ∀ (k p q : Nat) (xs : List Vl) (t : Nat × Nat), itsM g k p q = some (xs, t) → (∀ x ∈ xs, ∀ p q t', g p q = some (x, t') → g' p q = some (x, t')) → itsM g' k p q = some (xs, t)
  | 0, p, q, xs, t, h, _ => by simpa [itsM] using h
  | k + 1, p, q, xs, t, h, hg => by
    simp only [itsM] at h ⊢
    cases e : g p q with
    | none => rw [e] at h; cases h
    | some y =>
      obtain ⟨x, p1, q1⟩ := y
      rw [e] at h
      simp only at h
      cases e2 : itsM g k p1 q1 with
      | none => rw [e2] at h; cases h
      | some y =>
        obtain ⟨ys, t2⟩ := y
        rw [e2] at h
        simp only [Option.some.injEq, Prod.mk.injEq] at h
        obtain ⟨rfl, rfl⟩ := h
        rw [hg x (by simp) _ _ _ e]
        simp only
        rw [its_map k p1 q1 ys t2 e2 (fun z hz => hg z (by simp [hz]))]
theorem formV_item {v x : Vl} (h : formV v = true) (hx : x ∈ v.items) : formV x = true := by
  rw [formV_eq] at h
  simp only [Bool.and_eq_true, List.all_eq_true] at h
  exact h.2.1 x hx
theorem formV_kind {v : Vl} (h : formV v = true) : 1 ≤ v.kind ∧ v.kind ≤ 7 := by
  rw [formV_eq] at h
  simp only [Bool.and_eq_true] at h
  have hg := h.1.2
  unfold goodB at hg
  split at hg
  · omega
  · split at hg
    · omega
    · split at hg
      · omega
      · split at hg
        · omega
        · cases hg
theorem ru_le4 : ∀ l : List UInt8, l.length ≤ 4 * (ru l).length := by
  refine ru_ind (by simp) ?_
  intro l hl ih
  rw [ru_step l hl, List.length_cons]
  have := wd_le4 l
  rw [List.length_drop] at ih
  omega
theorem formV_text {v : Vl} (h : formV v = true) : v.text.size ≤ 128 := by
  rw [formV_eq] at h
  simp only [Bool.and_eq_true] at h
  by_cases hk : v.kind = 4
  · have hg := h.1.2
    unfold goodB at hg
    rw [if_neg (by omega), if_neg (by omega), if_pos hk] at hg
    unfold symB at hg
    simp only [Bool.and_eq_true, beq_iff_eq] at hg
    have hn := hg.2
    unfold nameE at hn
    split at hn
    · cases hn
    · rename_i h1
      have h2 := ru_le4 v.text.data.toList
      have h3 : v.text.data.toList.length = v.text.size := by rw [Array.length_toList]; rfl
      have h4 : ¬ 32 < (ru v.text.data.toList).length := fun h => h1 (.inr h)
      omega
  · have hu := h.1.1
    unfold usedB at hu
    simp only [Bool.and_eq_true, Bool.or_eq_true, beq_iff_eq] at hu
    have ht := hu.1.2
    rcases ht with ht | ht
    · have h3 : v.text.toList.length = v.text.size := by rw [ByteArray.toList_eq, Array.length_toList]; rfl
      rw [ht] at h3
      simp at h3
      omega
    · exact absurd ht hk
/-- What the program reads of a right value the reference reads. -/
theorem dec_read (l : List UInt8) : ∀ (m n p q : Nat) (v : Vl) (t : Nat × Nat), decM l m p q = some (v, t) → deepLe n v → formV v = true → readM l n p q = some (v, t)
  | 0, _, _, _, _, _, h, _, _ => by simp [decM] at h
  | m + 1, 0, _, _, _, _, _, hd, _ => hd.elim
  | m + 1, n + 1, p, q, v, t, h, hd, hf => by
    simp only [decM] at h
    simp only [readM]
    split at h
    · cases h
    · rename_i hq
      rw [if_neg hq]
      cases e : headM (seen l p) with
      | none => rw [e] at h; cases h
      | some y =>
        obtain ⟨u, k, r⟩ := y
        rw [e] at h
        simp only at h
        cases e2 : itsM (decM l m) k (p + ((seen l p).length - r.length)) (q + 1) with
        | none => rw [e2] at h; cases h
        | some y =>
          obtain ⟨xs, t2⟩ := y
          rw [e2] at h
          simp only [Option.some.injEq, Prod.mk.injEq] at h
          obtain ⟨rfl, rfl⟩ := h
          have hk := formV_kind hf
          simp only at hk
          have e3 := head_ext ((l.drop p).drop 139) e
          have e4 : seen l p ++ (l.drop p).drop 139 = l.drop p := List.take_append_drop 139 (l.drop p)
          rw [e4] at e3
          rw [e3]
          simp only
          rw [if_neg (by omega)]
          have hlen : (l.drop p).length - (r ++ (l.drop p).drop 139).length = (seen l p).length - r.length := by
            rw [← e4, List.length_append, List.length_append]
            rw [e4]
            omega
          rw [hlen, its_map k _ _ xs t2 e2 (fun x hx p' q' t' hh => dec_read l m n p' q' x t' hh (hd x hx) (formV_item hf hx))]
/-- What the reference reads of a right value the program reads. -/
theorem read_dec (l : List UInt8) : ∀ (n m p q : Nat) (v : Vl) (t : Nat × Nat), n ≤ m → readM l n p q = some (v, t) → formV v = true → decM l m p q = some (v, t)
  | 0, _, _, _, _, _, _, h, _ => by simp [readM] at h
  | n + 1, 0, _, _, _, _, hm, _, _ => by omega
  | n + 1, m + 1, p, q, v, t, hm, h, hf => by
    simp only [readM] at h
    simp only [decM]
    split at h
    · cases h
    · rename_i hq
      rw [if_neg hq]
      cases e : headM (l.drop p) with
      | none => rw [e] at h; cases h
      | some y =>
        obtain ⟨u, k, r⟩ := y
        rw [e] at h
        simp only at h
        split at h
        · cases h
        · cases e2 : itsM (readM l n) k (p + ((l.drop p).length - r.length)) (q + 1) with
          | none => rw [e2] at h; cases h
          | some y =>
            obtain ⟨xs, t2⟩ := y
            rw [e2] at h
            simp only [Option.some.injEq, Prod.mk.injEq] at h
            obtain ⟨rfl, rfl⟩ := h
            have ht := formV_text hf
            obtain ⟨r', c1, c2⟩ := head_cut e ht
            have c3 : headM (seen l p) = some (u, k, r') := c1
            have c4 : (seen l p).length - r'.length = (l.drop p).length - r.length := c2
            rw [c3]
            simp only
            rw [c4, its_map k _ _ xs t2 e2 (fun x hx p' q' t' hh => read_dec l n m p' q' x t' (by omega) hh (formV_item hf hx))]
theorem rightV_is (v : Vl) : rightV v = true ↔ v.size ≤ 4096 ∧ deepLe 16 v ∧ formV v = true := (rw_is 16 v 4096).1
theorem dec_both (l : List UInt8) (m : Nat) (hm : 16 ≤ m) (v : Vl) (t : Nat × Nat) (hr : rightV v = true) : decM l m 0 0 = some (v, t) ↔ readM l 16 0 0 = some (v, t) := by
  obtain ⟨_, h2, h3⟩ := (rightV_is v).1 hr
  exact ⟨fun h => dec_read l m 16 0 0 v t h h2 h3, fun h => read_dec l 16 m 0 0 v t hm h h3⟩
end Go.Proofs.YthmhcpghfbifiaaGreatDoor

/- There and back, in plain numbers: what is written as a number is read as it, and what is read was written so. -/
namespace Go.Proofs.YthmhcpghfbifiaaGreatDoor
open Go.Lib (uvarint uvarint_small uvarint_big uvarint_length64 uvarint_pos)

theorem u8_of (c : UInt8) : c.toNat.toUInt8 = c := by
  rw [Nat.toUInt8_eq, UInt8.ofNat_toNat]

/-- What is read as a number is its one form. -/
theorem frontGo_one : ∀ (l : List UInt8) (i v u n : Nat), frontGo i v l = (u, n, 0) →
    ∃ x m, u = v + x * 2 ^ (7 * i) ∧ n = i + m ∧ uvarint x = l.take m ∧ (0 < i → 0 < x) ∧ m ≤ l.length
  | [], i, v, u, n, h => by simp [frontGo] at h
  | c :: r, i, v, u, n, h => by
    have hc : c.toNat < 256 := c.toNat_lt
    rw [frontGo] at h
    split at h
    · simp at h
    · split at h
      · rename_i h128
        obtain ⟨x, m, e1, e2, e3, e4, e5⟩ := frontGo_one r _ _ _ _ h
        have hx : 0 < x := e4 (by omega)
        refine ⟨c.toNat % 128 + 128 * x, m + 1, ?_, by omega, ?_, fun _ => by omega, by simp; omega⟩
        · rw [e1, show 7 * (i + 1) = 7 * i + 7 by omega, Nat.pow_add, Nat.add_mul, Nat.add_assoc]
          congr 1
          congr 1
          show x * (2 ^ (7 * i) * 128) = _
          rw [Nat.mul_comm (2 ^ (7 * i)) 128, ← Nat.mul_assoc, Nat.mul_comm x 128]
        · rw [uvarint_big (by omega), List.take_succ_cons, ← e3]
          have d1 : (c.toNat % 128 + 128 * x) % 128 + 128 = c.toNat := by omega
          have d2 : (c.toNat % 128 + 128 * x) / 128 = x := by omega
          rw [d1, d2, u8_of]
      · rename_i h128
        split at h
        · simp at h
        · rename_i h0
          simp only [Prod.mk.injEq, and_true] at h
          refine ⟨c.toNat, 1, ?_, by omega, ?_, fun hi => by omega, by simp⟩
          · rw [← h.1, Nat.mod_eq_of_lt (by omega)]
          · rw [uvarint_small (by omega), u8_of]; simp

theorem front_one (l : List UInt8) (u n : Nat) (h : front l = (u, n, 0)) : uvarint u = l.take n ∧ n ≤ l.length := by
  obtain ⟨x, m, e1, e2, e3, _, e5⟩ := frontGo_one l 0 0 u n h
  have : u = x := by rw [e1]; simp
  subst this
  have : n = m := by omega
  subst this
  exact ⟨e3, e5⟩

/-- What is written as a number is read as it. -/
theorem frontGo_back : ∀ (x : Nat) (i v : Nat) (r : List UInt8), i ≤ 9 → x * 2 ^ (7 * i) < 18446744073709551616 → (0 < i → 0 < x) →
    frontGo i v (uvarint x ++ r) = (v + x * 2 ^ (7 * i), i + (uvarint x).length, 0) := by
  intro x
  induction x using Nat.strongRecOn with
  | ind x ih =>
    intro i v r hi hx hpos
    have hb : ∀ y : Nat, y < 256 → y.toUInt8.toNat = y := fun y hy => by
      rw [Nat.toUInt8_eq, UInt8.toNat_ofNat']
      omega
    by_cases h : x < 128
    · rw [uvarint_small h, List.singleton_append, frontGo, hb x (by omega)]
      have h9 : ¬ (i = 9 ∧ x ≠ 1) := by
        rintro ⟨rfl, h1⟩
        have : 0 < x := hpos (by omega)
        have : x * 9223372036854775808 < 18446744073709551616 := hx
        omega
      rw [if_neg h9, if_neg (by omega), if_neg (by omega), Nat.mod_eq_of_lt h]
      simp
    · have hlt : x / 128 < x := by omega
      have hi8 : i ≤ 8 := by
        rcases Nat.lt_or_ge i 9 with h' | h'
        · omega
        · have : i = 9 := by omega
          subst this
          have : x * 9223372036854775808 < 18446744073709551616 := hx
          omega
      have e : x = x % 128 + 128 * (x / 128) := by omega
      rw [uvarint_big (by omega), List.cons_append, frontGo, hb _ (by omega), if_neg (by omega), if_pos (by omega)]
      have hmul : x / 128 * 2 ^ (7 * (i + 1)) + x % 128 * 2 ^ (7 * i) = x * 2 ^ (7 * i) := by
        have : x * 2 ^ (7 * i) = (x % 128 + 128 * (x / 128)) * 2 ^ (7 * i) := by rw [← e]
        rw [this, show 7 * (i + 1) = 7 * i + 7 by omega, Nat.pow_add, Nat.add_mul, Nat.add_comm]
        congr 1
        show x / 128 * (2 ^ (7 * i) * 128) = _
        rw [Nat.mul_comm (2 ^ (7 * i)) 128, ← Nat.mul_assoc, Nat.mul_comm (x / 128) 128]
      rw [ih (x / 128) hlt (i + 1) _ r (by omega) (by omega) (fun _ => by omega)]
      have e3 : (x % 128 + 128) % 128 = x % 128 := by omega
      rw [e3, List.length_cons]
      refine Prod.ext ?_ (Prod.ext ?_ rfl)
      · show v + x % 128 * 2 ^ (7 * i) + x / 128 * 2 ^ (7 * (i + 1)) = v + x * 2 ^ (7 * i)
        omega
      · show i + 1 + (uvarint (x / 128)).length = i + ((uvarint (x / 128)).length + 1)
        omega

theorem front_back (x : Nat) (hx : x < 18446744073709551616) (r : List UInt8) : front (uvarint x ++ r) = (x, (uvarint x).length, 0) := by
  have := frontGo_back x 0 0 r (by omega) (by simpa using hx) (fun h => absurd h (by omega))
  simpa [front] using this

theorem zz_unz (u : Nat) : zz (unz u) = u := by
  unfold unz
  split
  · unfold zz; rw [if_pos (by omega)]; omega
  · unfold zz; rw [if_neg (by omega)]; omega

theorem unz_zz (v : Int) : unz (zz v) = v := by
  unfold zz
  split
  · unfold unz; rw [if_pos (by omega)]; omega
  · unfold unz; rw [if_neg (by omega)]; omega

theorem unz_bounds (u : Nat) (h : u < 18446744073709551616) : -9223372036854775808 ≤ unz u ∧ unz u ≤ 9223372036854775807 := by
  unfold unz
  split <;> omega

/-- What is read as a text is its one form. -/
theorem text_one (l : List UInt8) (h : textErr l = 0) :
    txt (bytesOf (textOf l)) = l.take (l.length - (textRest l).length) ∧ (textRest l).length ≤ l.length ∧ (textOf l).length ≤ l.length := by
  have hno := front_no l
  unfold textErr at h
  split at h
  · omega
  · rename_i hc
    have hc' : (front l).1 ≤ l.length - (front l).2.1 := Decidable.byContradiction fun hh => hc ⟨h, hh⟩
    generalize hf : front l = f at *
    obtain ⟨x, n, e⟩ := f
    simp only at h hc'
    subst h
    obtain ⟨e1, e2⟩ := front_one l x n hf
    have h1 : textOf l = (l.drop n).take x := by unfold textOf; rw [hf]; exact if_pos ⟨rfl, hc'⟩
    have h2 : textRest l = l.drop (n + x) := by unfold textRest; rw [hf]; exact if_pos ⟨rfl, hc'⟩
    have hl : ((l.drop n).take x).length = x := by rw [List.length_take, List.length_drop]; omega
    rw [h1, h2, List.length_drop, hl]
    refine ⟨?_, by omega, by omega⟩
    unfold txt bytesOf
    have es : (⟨((l.drop n).take x).toArray⟩ : ByteArray).size = x := by
      show ((l.drop n).take x).toArray.size = x
      rw [List.size_toArray, hl]
    rw [es, e1]
    show l.take n ++ ((l.drop n).take x) = _
    rw [← List.take_add]
    congr 1
    omega
end Go.Proofs.YthmhcpghfbifiaaGreatDoor

/- What is encoded is decoded: plain mathematics. -/
namespace Go.Proofs.YthmhcpghfbifiaaGreatDoor
open Go.Lib (uvarint uvarint_small uvarint_big uvarint_length64 uvarint_pos)

theorem text_backV (s : ByteArray) (hs : s.size ≤ 1048576) (r : List UInt8) : textOf (txt s ++ r) = s.data.toList ∧ textErr (txt s ++ r) = 0 ∧ textRest (txt s ++ r) = r := by
  have hf : front (txt s ++ r) = (s.size, (uvarint s.size).length, 0) := by
    unfold txt
    rw [List.append_assoc]
    exact front_back s.size (by omega) _
  have hl : s.data.toList.length = s.size := Array.length_toList
  have hfit : s.size ≤ (txt s ++ r).length - (uvarint s.size).length := by
    unfold txt
    simp only [List.length_append, hl]
    omega
  have hd : (txt s ++ r).drop (uvarint s.size).length = s.data.toList ++ r := by
    unfold txt
    rw [List.append_assoc, List.drop_left]
  refine ⟨?_, ?_, ?_⟩
  · unfold textOf
    rw [hf]
    simp only [true_and]
    rw [if_pos hfit, hd, ← hl, List.take_left]
  · unfold textErr
    rw [hf]
    exact if_neg (fun h => h.2 hfit)
  · unfold textRest
    rw [hf]
    simp only [true_and]
    rw [if_pos hfit, ← List.drop_drop, hd, ← hl, List.drop_left]
theorem used_parts {v : Vl} (h : usedB v = true) : (v.int = 0 ∨ v.kind = 1 ∨ v.kind = 2 ∨ v.kind = 3) ∧ (v.im = 0 ∨ v.kind = 3) ∧ (v.text.toList = [] ∨ v.kind = 4) ∧ (v.items = [] ∨ v.kind = 5 ∨ v.kind = 6 ∨ v.kind = 7) := by
  simp only [usedB, Bool.and_eq_true, Bool.or_eq_true, beq_iff_eq] at h
  obtain ⟨⟨⟨h1, h2⟩, h3⟩, h4⟩ := h
  refine ⟨by omega, by omega, h3, ?_⟩
  rcases h4 with h4 | h4
  · exact .inl (List.length_eq_zero_iff.1 (by omega))
  · exact .inr (by omega)
theorem bytes_back (s : ByteArray) : bytesOf s.data.toList = s := by
  unfold bytesOf
  rw [Array.toArray_toList]
/-- The head of a value's bytes, whatever follows. -/
theorem head_enc (v : Vl) (hf : formV v = true) (hok : v.ok) (hn : v.items.length < 4611686018427387904) : ∃ hd, encV v = hd ++ (v.items.map encV).flatten ∧ ∀ r, headM (hd ++ r) = some (⟨v.kind, v.int, v.im, v.text, []⟩, v.items.length, r) := by
  obtain ⟨hu, hg⟩ := form_used hf
  obtain ⟨u1, u2, u3, u4⟩ := used_parts hu
  obtain ⟨o1, o2, o3⟩ := hok
  have ht : v.kind ≠ 4 → v.text = ⟨#[]⟩ := fun h => text_nil (u3.resolve_right h)
  have hi : v.kind ≠ 5 ∧ v.kind ≠ 6 ∧ v.kind ≠ 7 → v.items = [] := fun h => u4.resolve_right (by omega)
  have hz : ∀ i : Int, -9223372036854775808 ≤ i → i ≤ 9223372036854775807 → zz i < 18446744073709551616 := fun i h1 h2 => by unfold zz; split <;> omega
  rw [encV_eq]
  rcases good_kind hg with k | k | k | k | k | k | k
  · have hl := hi (by omega)
    have e2 : v.im = 0 := by omega
    have hb : v.int = 0 ∨ v.int = 1 := by
      unfold goodB at hg
      rw [if_neg (by omega), if_pos k] at hg
      simpa using hg
    rw [k, hl, e2, ht (by omega)]
    refine ⟨[1, UInt8.ofNat v.int.toNat], by simp, fun r => ?_⟩
    rcases hb with hb | hb
    · rw [hb]; rfl
    · rw [hb]; rfl
  · have hl := hi (by omega)
    have e2 : v.im = 0 := by omega
    rw [k, hl, e2, ht (by omega)]
    refine ⟨2 :: uvarint (zz v.int), by simp, fun r => ?_⟩
    have hfr := front_back (zz v.int) (hz _ o2.1 o2.2) r
    rw [List.cons_append, headM.eq_def]
    dsimp only
    rw [if_neg (by decide), if_pos (by rfl), hfr]
    simp only [if_true, List.drop_left, unz_zz, List.length_nil]
  · have hl := hi (by omega)
    rw [k, hl, ht (by omega)]
    refine ⟨3 :: (uvarint (zz v.int) ++ uvarint (zz v.im)), by simp, fun r => ?_⟩
    have hfr := front_back (zz v.int) (hz _ o2.1 o2.2) (uvarint (zz v.im) ++ r)
    have hfr2 := front_back (zz v.im) (hz _ o3.1 o3.2) r
    rw [List.cons_append, List.append_assoc, headM.eq_def]
    dsimp only
    rw [if_neg (by decide), if_neg (by decide), if_pos (by rfl), hfr]
    simp only [if_true, List.drop_left, hfr2, unz_zz, List.length_nil]
  · have hl := hi (by omega)
    have e1 : v.int = 0 := by omega
    have e2 : v.im = 0 := by omega
    rw [k, hl, e1, e2]
    refine ⟨4 :: txt v.text, by simp, fun r => ?_⟩
    obtain ⟨t1, t2, t3⟩ := text_backV v.text o1 r
    rw [List.cons_append, headM.eq_def]
    dsimp only
    rw [if_neg (by decide), if_neg (by decide), if_neg (by decide), if_pos (by rfl), if_pos t2, t1, t3, bytes_back]
    rfl
  · have e1 : v.int = 0 := by omega
    have e2 : v.im = 0 := by omega
    rw [k, e1, e2, ht (by omega)]
    refine ⟨5 :: uvarint v.items.length, by simp, fun r => ?_⟩
    have hfr := front_back v.items.length (by omega) r
    rw [List.cons_append, headM.eq_def]
    dsimp only
    rw [if_neg (by decide), if_neg (by decide), if_neg (by decide), if_neg (by decide), if_pos (by decide), hfr]
    simp only [if_true, List.drop_left]
    rfl
  · have e1 : v.int = 0 := by omega
    have e2 : v.im = 0 := by omega
    rw [k, e1, e2, ht (by omega)]
    refine ⟨6 :: uvarint v.items.length, by simp, fun r => ?_⟩
    have hfr := front_back v.items.length (by omega) r
    rw [List.cons_append, headM.eq_def]
    dsimp only
    rw [if_neg (by decide), if_neg (by decide), if_neg (by decide), if_neg (by decide), if_pos (by decide), hfr]
    simp only [if_true, List.drop_left]
    rfl
  · have e1 : v.int = 0 := by omega
    have e2 : v.im = 0 := by omega
    rw [k, e1, e2, ht (by omega)]
    refine ⟨7 :: uvarint v.items.length, by simp, fun r => ?_⟩
    have hfr := front_back v.items.length (by omega) r
    rw [List.cons_append, headM.eq_def]
    dsimp only
    rw [if_neg (by decide), if_neg (by decide), if_neg (by decide), if_neg (by decide), if_pos (by decide), hfr]
    simp only [if_true, List.drop_left]
    rfl
theorem its_enc {l : List UInt8} {g : Nat → Nat → Option (Vl × Nat × Nat)} : ∀ (xs : List Vl) (p q : Nat) (r : List UInt8), (∀ x ∈ xs, ∀ p q r, l.drop p = encV x ++ r → q + x.size ≤ 4096 → g p q = some (x, p + (encV x).length, q + x.size)) →
    l.drop p = (xs.map encV).flatten ++ r → q + (xs.map Vl.size).sum ≤ 4096 → itsM g xs.length p q = some (xs, p + (xs.map encV).flatten.length, q + (xs.map Vl.size).sum)
  | [], p, q, r, _, _, _ => by simp [itsM]
  | x :: xs, p, q, r, hg, hd, hq => by
    simp only [List.map_cons, List.flatten_cons, List.append_assoc, List.sum_cons] at hd hq
    have h1 := hg x (by simp) p q _ hd (by omega)
    have hd2 : l.drop (p + (encV x).length) = (xs.map encV).flatten ++ r := by rw [← List.drop_drop, hd, List.drop_left]
    have h2 := its_enc xs (p + (encV x).length) (q + x.size) r (fun y hy => hg y (by simp [hy])) hd2 (by omega)
    simp only [List.length_cons, itsM, h1, h2, List.map_cons, List.flatten_cons, List.sum_cons, List.length_append]
    simp only [Option.some.injEq, Prod.mk.injEq, true_and]
    omega
/-- Texts and numbers are in bounds, all the way down. -/
def okD : Nat → Vl → Prop
  | 0, _ => True
  | n + 1, v => v.ok ∧ ∀ x ∈ v.items, okD n x
theorem okD_at {w : World} {B : Nat} : ∀ (n m : Nat) (v : Vl) (sl : Value), v.ok → ItemsAt w B n sl v.items → okD m v
  | _, 0, _, _, _, _ => trivial
  | 0, _ + 1, _, _, _, h => h.elim
  | n + 1, m + 1, v, sl, hok, h => by
    refine ⟨hok, fun x hx => ?_⟩
    obtain ⟨a, c, rfl, _⟩ := h.len
    obtain ⟨j, hj, rfl⟩ := List.getElem_of_mem hx
    obtain ⟨b, o, s', _, _, _, _, _, _, _, h5, h6⟩ := h.item j hj
    exact okD_at n m _ s' h6 h5
theorem dec_enc (l : List UInt8) : ∀ (n : Nat) (v : Vl) (p q : Nat) (r : List UInt8), formV v = true → deepLe n v → okD n v → l.drop p = encV v ++ r → q + v.size ≤ 4096 → decM l n p q = some (v, p + (encV v).length, q + v.size)
  | 0, _, _, _, _, _, h, _, _, _ => h.elim
  | n + 1, v, p, q, r, hf, hdp, hok, hd, hq => by
    have hsz := Vl.size_eq v
    have hln : v.items.length ≤ (v.items.map Vl.size).sum := by
      have h : ∀ l : List Vl, l.length ≤ (l.map Vl.size).sum := fun l => by
        induction l with
        | nil => simp
        | cons x l ih => have := x.size_pos; simp; omega
      exact h _
    obtain ⟨hd0, he, hh⟩ := head_enc v hf hok.1 (by omega)
    have e1 := hh ((v.items.map encV).flatten ++ r)
    have hdl : l.drop p = hd0 ++ ((v.items.map encV).flatten ++ r) := by rw [hd, he, List.append_assoc]
    rw [← hdl] at e1
    obtain ⟨r', e2, e3⟩ := head_cut e1 (show v.text.size ≤ 128 from formV_text hf)
    rw [hdl, List.length_append, Nat.add_sub_cancel, ← hdl] at e3
    have hd2 : l.drop (p + hd0.length) = (v.items.map encV).flatten ++ r := by rw [← List.drop_drop, hdl, List.drop_left]
    have h2 := its_enc (g := decM l n) v.items (p + hd0.length) (q + 1) r (fun x hx p q r hp hq => dec_enc l n x p q r (formV_item hf hx) (hdp x hx) (hok.2 x hx) hp hq) hd2 (by omega)
    have hl : (encV v).length = hd0.length + (v.items.map encV).flatten.length := by rw [he, List.length_append]
    simp only [decM]
    rw [if_neg (by omega)]
    show (match headM ((l.drop p).take 139) with | none => none | some (v, k, r) => _) = _
    unfold seen
    rw [e2]
    simp only [e3, h2, Option.some.injEq, Prod.mk.injEq]
    exact ⟨by cases v; rfl, by omega, by omega⟩
end Go.Proofs.YthmhcpghfbifiaaGreatDoor

/- What is decoded was encoded so; the codes of Parse: plain mathematics. -/
namespace Go.Proofs.YthmhcpghfbifiaaGreatDoor
open Go.Lib (uvarint uvarint_small uvarint_big uvarint_length64 uvarint_pos)

theorem front_zero {l : List UInt8} (h : (front l).2.2 = 0) : uvarint (front l).1 = l.take (front l).2.1 ∧ (front l).2.1 ≤ l.length :=
  front_one l (front l).1 (front l).2.1 (Prod.ext rfl (Prod.ext rfl h))
theorem head_dec {t : List UInt8} {u : Vl} {k : Nat} {r : List UInt8} (h : headM t = some (u, k, r)) (xs : List Vl) (hl : xs.length = k) (hf : formV ⟨u.kind, u.int, u.im, u.text, xs⟩ = true) :
    ∃ hd, encV ⟨u.kind, u.int, u.im, u.text, xs⟩ = hd ++ (xs.map encV).flatten ∧ t = hd ++ r := by
  cases t with
  | nil => simp [headM] at h
  | cons kk r0 =>
    have hkk : ∀ n, kk.toNat = n → UInt8.ofNat n = kk := fun n e => by rw [← e, UInt8.ofNat_toNat]
    have hnil : k = 0 → xs = [] := fun e => List.length_eq_zero_iff.1 (by omega)
    obtain ⟨_, hg⟩ := form_used hf
    rw [headM.eq_def] at h
    dsimp only at h
    rw [encV_eq]
    split at h
    · rename_i k1
      cases r0 with
      | nil => cases h
      | cons x l =>
        simp only [Option.some.injEq, Prod.mk.injEq] at h
        obtain ⟨rfl, rfl, rfl⟩ := h
        obtain rfl := hnil rfl
        refine ⟨[kk, x], ?_, rfl⟩
        have e := hkk 1 k1
        simp only [if_true, Int.toNat_natCast, UInt8.ofNat_toNat]
        rw [show (1 : Int).toNat = 1 from rfl, e]
        simp
    rename_i k1
    split at h
    · rename_i k2
      split at h
      rotate_left
      · cases h
      rename_i hz
      simp only [Option.some.injEq, Prod.mk.injEq] at h
      obtain ⟨rfl, rfl, rfl⟩ := h
      obtain rfl := hnil rfl
      obtain ⟨f1, f2⟩ := front_zero hz
      refine ⟨kk :: r0.take (front r0).2.1, ?_, by rw [List.cons_append, List.take_append_drop]⟩
      simp only [zz_unz, f1]
      rw [show (2 : Int).toNat = 2 from rfl, hkk 2 k2]
      simp
    rename_i k2
    split at h
    · rename_i k3
      split at h
      rotate_left
      · cases h
      rename_i hz
      split at h
      rotate_left
      · cases h
      rename_i hz2
      simp only [Option.some.injEq, Prod.mk.injEq] at h
      obtain ⟨rfl, rfl, rfl⟩ := h
      obtain rfl := hnil rfl
      obtain ⟨f1, f2⟩ := front_zero hz
      obtain ⟨g1, g2⟩ := front_zero hz2
      refine ⟨kk :: (r0.take (front r0).2.1 ++ (r0.drop (front r0).2.1).take (front (r0.drop (front r0).2.1)).2.1), ?_, by rw [List.cons_append, List.append_assoc, List.take_append_drop, List.take_append_drop]⟩
      simp only [zz_unz, f1, g1]
      rw [show (3 : Int).toNat = 3 from rfl, hkk 3 k3]
      simp
    rename_i k3
    split at h
    · rename_i k4
      split at h
      rotate_left
      · cases h
      rename_i hz
      simp only [Option.some.injEq, Prod.mk.injEq] at h
      obtain ⟨rfl, rfl, rfl⟩ := h
      obtain rfl := hnil rfl
      obtain ⟨hz1, hz2⟩ := textErr_zero hz
      obtain ⟨f1, f2⟩ := front_zero hz1
      have ht : textOf r0 = (r0.drop (front r0).2.1).take (front r0).1 := by unfold textOf; rw [if_pos ⟨hz1, hz2⟩]
      have hrs : textRest r0 = r0.drop ((front r0).2.1 + (front r0).1) := by unfold textRest; rw [if_pos ⟨hz1, hz2⟩]
      have hsz : (bytesOf (textOf r0)).size = (front r0).1 := by
        show (textOf r0).toArray.size = _
        rw [List.size_toArray, ht, List.length_take, List.length_drop]
        omega
      have hto : (bytesOf (textOf r0)).data.toList = textOf r0 := rfl
      refine ⟨kk :: (r0.take (front r0).2.1 ++ (r0.drop (front r0).2.1).take (front r0).1), ?_, by rw [hrs, List.cons_append, List.append_assoc, ← List.drop_drop, List.take_append_drop, List.take_append_drop]⟩
      unfold txt
      rw [show (4 : Int).toNat = 4 from rfl, hkk 4 k4, hsz, hto, f1, ht]
      simp
    rename_i k4
    split at h
    · rename_i k5
      split at h
      rotate_left
      · cases h
      rename_i hz
      simp only [Option.some.injEq, Prod.mk.injEq] at h
      obtain ⟨rfl, hk, rfl⟩ := h
      obtain ⟨f1, f2⟩ := front_zero hz
      refine ⟨kk :: r0.take (front r0).2.1, ?_, by rw [List.cons_append, List.take_append_drop]⟩
      rw [← hk] at hl
      simp only [Int.toNat_natCast, UInt8.ofNat_toNat]
      rw [if_neg (by omega), if_neg (by omega), if_neg (by omega), if_neg (by omega), hl, f1]
      simp
    · rename_i k5
      simp only [Option.some.injEq, Prod.mk.injEq] at h
      obtain ⟨rfl, rfl, rfl⟩ := h
      have := good_kind hg
      simp only at this
      omega
theorem its_form {l : List UInt8} {g : Nat → Nat → Option (Vl × Nat × Nat)} (hg : ∀ p q v p' q', p ≤ l.length → g p q = some (v, p', q') → formV v = true → p ≤ p' ∧ p' ≤ l.length ∧ l.drop p = encV v ++ l.drop p') :
    ∀ (k p q : Nat) (xs : List Vl) (p' q' : Nat), p ≤ l.length → itsM g k p q = some (xs, p', q') → (∀ x ∈ xs, formV x = true) → p ≤ p' ∧ p' ≤ l.length ∧ l.drop p = (xs.map encV).flatten ++ l.drop p'
  | 0, p, q, xs, p', q', hp, h, _ => by
    simp only [itsM, Option.some.injEq, Prod.mk.injEq] at h
    obtain ⟨rfl, rfl, rfl⟩ := h
    exact ⟨Nat.le_refl _, hp, by simp⟩
  | k + 1, p, q, xs, p', q', hp, h, hx => by
    simp only [itsM] at h
    cases e : g p q with
    | none => rw [e] at h; cases h
    | some y =>
      obtain ⟨x, p1, q1⟩ := y
      rw [e] at h
      simp only at h
      cases e2 : itsM g k p1 q1 with
      | none => rw [e2] at h; cases h
      | some y =>
        obtain ⟨ys, p2, q2⟩ := y
        rw [e2] at h
        simp only [Option.some.injEq, Prod.mk.injEq] at h
        obtain ⟨rfl, rfl, rfl⟩ := h
        obtain ⟨a1, a2, a3⟩ := hg p q x p1 q1 hp e (hx x (by simp))
        obtain ⟨b1, b2, b3⟩ := its_form hg k p1 q1 ys p2 q2 a2 e2 (fun z hz => hx z (by simp [hz]))
        refine ⟨by omega, b2, ?_⟩
        rw [a3, b3]
        simp
theorem its_len {g : Nat → Nat → Option (Vl × Nat × Nat)} : ∀ (k p q : Nat) (xs : List Vl) (t : Nat × Nat), itsM g k p q = some (xs, t) → xs.length = k
  | 0, p, q, xs, t, h => by
    simp only [itsM, Option.some.injEq, Prod.mk.injEq] at h
    obtain ⟨rfl, _⟩ := h
    rfl
  | k + 1, p, q, xs, t, h => by
    simp only [itsM] at h
    cases e : g p q with
    | none => rw [e] at h; cases h
    | some y =>
      obtain ⟨x, p1, q1⟩ := y
      rw [e] at h
      simp only at h
      cases e2 : itsM g k p1 q1 with
      | none => rw [e2] at h; cases h
      | some y =>
        obtain ⟨ys, t2⟩ := y
        rw [e2] at h
        simp only [Option.some.injEq, Prod.mk.injEq] at h
        obtain ⟨rfl, _⟩ := h
        rw [List.length_cons, its_len k p1 q1 ys t2 e2]
theorem dec_form (l : List UInt8) : ∀ (n p q : Nat) (v : Vl) (p' q' : Nat), p ≤ l.length → decM l n p q = some (v, p', q') → formV v = true → p ≤ p' ∧ p' ≤ l.length ∧ l.drop p = encV v ++ l.drop p'
  | 0, _, _, _, _, _, _, h, _ => by simp [decM] at h
  | n + 1, p, q, v, p', q', hp, h, hf => by
    simp only [decM] at h
    split at h
    · cases h
    cases e : headM (seen l p) with
    | none => rw [e] at h; cases h
    | some y =>
    obtain ⟨u, k, r⟩ := y
    rw [e] at h
    simp only at h
    cases e2 : itsM (decM l n) k (p + ((seen l p).length - r.length)) (q + 1) with
    | none => rw [e2] at h; cases h
    | some y =>
    obtain ⟨xs, p2, q2⟩ := y
    rw [e2] at h
    simp only [Option.some.injEq, Prod.mk.injEq] at h
    obtain ⟨rfl, rfl, rfl⟩ := h
    obtain ⟨hd, h1, h2⟩ := head_dec e xs (its_len _ _ _ _ _ e2) hf
    have hlen : (seen l p).length - r.length = hd.length := by rw [h2, List.length_append, Nat.add_sub_cancel]
    have hsl : (seen l p).length ≤ l.length - p := by unfold seen; rw [List.length_take, List.length_drop]; omega
    have hhl : hd.length ≤ (seen l p).length := by rw [h2, List.length_append]; omega
    have hpre : l.drop p = hd ++ l.drop (p + hd.length) := by
      have h3 : (l.drop p).take hd.length = hd := by
        have : (seen l p).take hd.length = hd := by rw [h2, List.take_left]
        refine Eq.trans ?_ this
        unfold seen
        unfold seen at hhl
        rw [List.length_take] at hhl
        rw [List.take_take, Nat.min_eq_left (by omega)]
      have h4 := List.take_append_drop hd.length (l.drop p)
      rw [h3, List.drop_drop] at h4
      exact h4.symm
    rw [hlen] at e2
    obtain ⟨b1, b2, b3⟩ := its_form (l := l) (fun p q v p' q' hp h hf => dec_form l n p q v p' q' hp h hf) k (p + hd.length) (q + 1) xs _ _ (by omega) e2 (fun x hx => formV_item hf hx)
    refine ⟨by omega, b2, ?_⟩
    rw [hpre, b3, h1]
    simp
theorem enc_pos (v : Vl) : 1 ≤ (encV v).length := by
  rw [encV_eq]
  simp
/-- The bytes that Decode has read are the value's. -/
theorem dec_bytes {l : List UInt8} {n q : Nat} {v : Vl} {p' : Nat} (h : decM l n 0 0 = some (v, p', q)) (hf : formV v = true) : 1 ≤ p' ∧ p' ≤ l.length ∧ l.take p' = encV v := by
  obtain ⟨_, h2, h3⟩ := dec_form l n 0 0 v p' q (Nat.zero_le _) h hf
  rw [List.drop_zero] at h3
  have hl := congrArg List.length h3
  rw [List.length_append, List.length_drop] at hl
  have hp := enc_pos v
  have hpe : p' = (encV v).length := by omega
  refine ⟨by omega, h2, ?_⟩
  rw [hpe]
  conv => lhs; rw [h3]
  rw [List.take_left]
/-- The errors of a way down. -/
def CodeOk (c : Int) : Prop := c = 21 ∨ c = 22 ∨ c = 41 ∨ c = 42
theorem more_code {s : List UInt8} {g : Tk → Nat → Except (Int × Nat) (Vl × Tk × Nat)} (hg : ∀ t q c o, g t q = .error (c, o) → CodeOk c) (k : Int) : ∀ (f : Nat) (its : List Vl) (t : Tk) (q : Nat) (c : Int) (o : Nat), moreM s g k f its t q = .error (c, o) → CodeOk c
  | 0, its, t, q, c, o, h => by
    simp only [moreM, Except.error.injEq, Prod.mk.injEq] at h
    unfold CodeOk
    omega
  | f + 1, its, t, q, c, o, h => by
    simp only [moreM] at h
    cases e : g t q with
    | error x =>
      rw [e] at h
      simp only [Except.error.injEq] at h
      exact hg t q c o (by rw [e, h])
    | ok x =>
      obtain ⟨v, t1, q1⟩ := x
      rw [e] at h
      simp only at h
      split at h
      · cases h
      split at h
      · exact more_code hg k f _ _ _ c o h
      · simp only [Except.error.injEq, Prod.mk.injEq] at h
        unfold CodeOk
        omega
theorem valM_code (s : List UInt8) : ∀ (n : Nat) (t : Tk) (q : Nat) (c : Int) (o : Nat), valM s n t q = .error (c, o) → CodeOk c
  | 0, t, q, c, o, h => by
    simp only [valM] at h
    unfold CodeOk
    split at h
    · simp only [Except.error.injEq, Prod.mk.injEq] at h; omega
    · simp only [Except.error.injEq, Prod.mk.injEq] at h; omega
  | n + 1, t, q, c, o, h => by
    have ih := valM_code s n
    have lit : ∀ (a : Int) (b : Nat) (x : Except (Int × Nat) (Vl × Tk × Nat)), x = .error (a, b) → x = .error (c, o) → CodeOk a → CodeOk c := fun a b x h1 h2 h3 => by
      rw [h1] at h2
      simp only [Except.error.injEq, Prod.mk.injEq] at h2
      rw [← h2.1]
      exact h3
    have items : ∀ k t q z, itemsM s (valM s n) k t q = .error z → z = (c, o) → CodeOk c := fun k t q z h1 h2 => by
      subst h2
      unfold itemsM at h1
      split at h1
      · cases h1
      · exact more_code ih k _ _ _ _ c o h1
    simp only [valM] at h
    split at h
    rotate_left
    · exact lit 41 t.off _ rfl h (by unfold CodeOk; omega)
    split at h
    · exact lit 42 t.off _ rfl h (by unfold CodeOk; omega)
    split at h
    · cases e : tupleM s (valM s n) (stepM s t) (q + 1) with
      | ok x => rw [e] at h; cases h
      | error x =>
        rw [e] at h
        simp only [Except.error.injEq] at h
        subst h
        unfold tupleM at e
        split at e
        · cases e
        · cases e2 : valM s n (stepM s t) (q + 1) with
          | error y =>
            rw [e2] at e
            simp only [Except.error.injEq] at e
            subst e
            exact ih _ _ _ _ e2
          | ok y =>
            obtain ⟨v, t1, q1⟩ := y
            rw [e2] at e
            simp only at e
            split at e
            · split at e
              · cases e
              · exact more_code ih 41 _ _ _ _ c o e
            · simp only [Except.error.injEq, Prod.mk.injEq] at e
              unfold CodeOk
              omega
    split at h
    · cases e : itemsM s (valM s n) 93 (stepM s t) (q + 1) with
      | ok x => rw [e] at h; cases h
      | error x =>
        rw [e] at h
        simp only [Except.error.injEq] at h
        exact items _ _ _ _ e h
    split at h
    · cases e : itemsM s (valM s n) 125 (stepM s t) (q + 1) with
      | ok x => rw [e] at h; cases h
      | error x =>
        rw [e] at h
        simp only [Except.error.injEq] at h
        exact items _ _ _ _ e h
    split at h
    · cases e : nameM t with
      | ok x => rw [e] at h; cases h
      | error x =>
        rw [e] at h
        simp only [Except.error.injEq] at h
        subst h
        unfold nameM at e
        split at e
        · cases e
        split at e
        · cases e
        split at e
        · cases e
        · simp only [Except.error.injEq, Prod.mk.injEq] at e
          unfold CodeOk
          omega
    split at h
    · cases e : gaussM t with
      | ok x => rw [e] at h; cases h
      | error x =>
        rw [e] at h
        simp only [Except.error.injEq] at h
        subst h
        unfold gaussM at e
        simp only at e
        unfold CodeOk
        split at e
        · simp only [Except.error.injEq, Prod.mk.injEq] at e; omega
        split at e
        · simp only [Except.error.injEq, Prod.mk.injEq] at e; omega
        split at e
        · split at e
          · simp only [Except.error.injEq, Prod.mk.injEq] at e; omega
          split at e
          · cases e
          · simp only [Except.error.injEq, Prod.mk.injEq] at e; omega
        · split at e
          · cases e
          · simp only [Except.error.injEq, Prod.mk.injEq] at e; omega
    split at h
    · exact lit 22 t.off _ rfl h (by unfold CodeOk; omega)
    · cases h
theorem parM_code {s : List UInt8} {c : Int} {o : Nat} (h : parM s = .error (c, o)) : CodeOk c := by
  unfold parM at h
  cases e : valM s 16 (cutM s 0) 0 with
  | error x =>
    rw [e] at h
    simp only [Except.error.injEq] at h
    subst h
    exact valM_code s 16 _ _ _ _ e
  | ok x =>
    obtain ⟨v, t1, q1⟩ := x
    rw [e] at h
    simp only at h
    split at h
    · cases h
    · simp only [Except.error.injEq, Prod.mk.injEq] at h
      unfold CodeOk
      omega
end Go.Proofs.YthmhcpghfbifiaaGreatDoor
