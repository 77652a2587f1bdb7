/- The decoder's value, where it succeeds. -/
import Derived.Test.YtngnlofjjlkcmaaGreatDoorGHead
import Derived.Test.YtngnlofjjlkcmaaGreatDoorZVOwn
namespace Go.Proofs.YtngnlofjjlkcmaaGreatDoor
open Go.RowKit

theorem unz_ok (u : Nat) (h : u < 18446744073709551616) : -9223372036854775808 ≤ unz u ∧ unz u ≤ 9223372036854775807 := by
  unfold unz
  split <;> omega
theorem ok_mk {k i m : Int} {t : ByteArray} {l : List Vl} (h1 : t.size ≤ 1048576) (h2 : -9223372036854775808 ≤ i ∧ i ≤ 9223372036854775807) (h3 : -9223372036854775808 ≤ m ∧ m ≤ 9223372036854775807) : (⟨k, i, m, t, l⟩ : Vl).ok := ⟨h1, h2, h3⟩
theorem headM_ok {l : List UInt8} {v : Vl} {k : Nat} {r : List UInt8} (h : headM l = some (v, k, r)) (hl : l.length ≤ 139) : v.ok ∧ v.items = [] ∧ r.length ≤ l.length ∧ k < 18446744073709551616 := by
  have e0 : (⟨#[]⟩ : ByteArray).size ≤ 1048576 := by decide
  cases l with
  | nil => simp [headM] at h
  | cons c t =>
    simp only [List.length_cons] at hl
    simp only [headM] at h
    have hf := front_lt t
    split at h
    · cases t with
      | nil => simp at h
      | cons x t =>
        simp only [Option.some.injEq, Prod.mk.injEq] at h
        obtain ⟨rfl, rfl, rfl⟩ := h
        have := x.toNat_lt
        exact ⟨ok_mk e0 ⟨by omega, by omega⟩ ⟨by omega, by omega⟩, rfl, by simp; omega, by omega⟩
    · split at h
      · split at h
        · simp only [Option.some.injEq, Prod.mk.injEq] at h
          obtain ⟨rfl, rfl, rfl⟩ := h
          exact ⟨ok_mk e0 (unz_ok _ hf) ⟨by omega, by omega⟩, rfl, by simp; omega, by omega⟩
        · cases h
      · split at h
        · split at h
          · split at h
            · simp only [Option.some.injEq, Prod.mk.injEq] at h
              obtain ⟨rfl, rfl, rfl⟩ := h
              exact ⟨ok_mk e0 (unz_ok _ hf) (unz_ok _ (front_lt _)), rfl, by simp; omega, by omega⟩
            · cases h
          · cases h
        · split at h
          · split at h
            · simp only [Option.some.injEq, Prod.mk.injEq] at h
              obtain ⟨rfl, rfl, rfl⟩ := h
              refine ⟨ok_mk ?_ ⟨by omega, by omega⟩ ⟨by omega, by omega⟩, rfl, by have := textRest_le t; simp; omega, by omega⟩
              have : (bytesOf (textOf t)).size = (textOf t).length := by unfold bytesOf; simp [ByteArray.size]
              show (bytesOf (textOf t)).size ≤ 1048576
              rw [this]
              unfold textOf
              split
              · simp; omega
              · simp
            · cases h
          · split at h
            · split at h
              · simp only [Option.some.injEq, Prod.mk.injEq] at h
                obtain ⟨rfl, rfl, rfl⟩ := h
                exact ⟨ok_mk e0 ⟨by omega, by omega⟩ ⟨by omega, by omega⟩, rfl, by simp; omega, hf⟩
              · cases h
            · simp only [Option.some.injEq, Prod.mk.injEq] at h
              obtain ⟨rfl, rfl, rfl⟩ := h
              exact ⟨ok_mk e0 ⟨by omega, by omega⟩ ⟨by omega, by omega⟩, rfl, by simp, by omega⟩
/-- head, where it succeeds. -/
theorem head_k (w : World) (db B : Nat) (sl : Value) (l : List UInt8) (p q : Nat) (hD : DecAt w db sl p q) (hB : BytesIn w 0 B sl l) (hb : B ≤ db) (hp : p ≤ l.length) (hl : l.length ≤ 1000000000000) {v : Vl} {n : Nat} {r : List UInt8} (h : headM (seen l p) = some (v, n, r)) :
    Calls Tryz.prog 34 #[.pointer (some ⟨db, 0, none⟩)] w fun e w' => e = .returned (.tuple #[.agg (vcells v (.slice none 0 0)), .int .u64 n]) ∧ DecAt w' db sl (p + ((seen l p).length - r.length)) q ∧ w.grownBy w' (some db) := by
  cases hs : seen l p with
  | nil => rw [hs] at h; simp [headM] at h
  | cons k t =>
    rw [hs] at h
    rw [← hs]
    simp only [headM] at h
    split at h
    · rename_i hk
      cases t with
      | nil => simp at h
      | cons x t =>
        simp only [Option.some.injEq, Prod.mk.injEq] at h
        obtain ⟨rfl, rfl, rfl⟩ := h
        exact head_bool w db B sl l p q hD hB hb hp hl k _ hs hk x t rfl
    · split at h
      · rename_i hk
        split at h
        · rename_i hf
          simp only [Option.some.injEq, Prod.mk.injEq] at h
          obtain ⟨rfl, rfl, rfl⟩ := h
          exact head_int w db B sl l p q hD hB hb hp hl k _ hs hk hf
        · cases h
      · split at h
        · rename_i hk
          split at h
          · rename_i hf
            split at h
            · rename_i hf2
              simp only [Option.some.injEq, Prod.mk.injEq] at h
              obtain ⟨rfl, rfl, rfl⟩ := h
              exact head_gauss w db B sl l p q hD hB hb hp hl k _ hs hk hf hf2
            · cases h
          · cases h
        · split at h
          · rename_i hk
            split at h
            · rename_i hf
              simp only [Option.some.injEq, Prod.mk.injEq] at h
              obtain ⟨rfl, rfl, rfl⟩ := h
              exact head_sym w db B sl l p q hD hB hb hp hl k _ hs hk hf
            · cases h
          · split at h
            · rename_i hk
              split at h
              · rename_i hf
                simp only [Option.some.injEq, Prod.mk.injEq] at h
                obtain ⟨rfl, rfl, rfl⟩ := h
                rcases hk with hk | hk | hk
                · rw [hk]; exact head_items5 w db B sl l p q hD hB hb hp hl k _ hs hk hf
                · rw [hk]; exact head_items6 w db B sl l p q hD hB hb hp hl k _ hs hk hf
                · rw [hk]; exact head_items7 w db B sl l p q hD hB hb hp hl k _ hs hk hf
              · cases h
            · rename_i h1 h2 h3 h4 h5
              simp only [Option.some.injEq, Prod.mk.injEq] at h
              obtain ⟨rfl, rfl, rfl⟩ := h
              exact head_other w db B sl l p q hD hB hb hp hl k _ hs (by omega)
theorem itsM_le {l : List UInt8} {g : Nat → Nat → Option (Vl × Nat × Nat)} (hg : ∀ {p q v p' q'}, p ≤ l.length → g p q = some (v, p', q') → p' ≤ l.length ∧ q < q' ∧ q' ≤ 4096) : ∀ (n : Nat) {p q : Nat} {xs : List Vl} {p' q' : Nat}, p ≤ l.length → q ≤ 4096 → itsM g n p q = some (xs, p', q') → p' ≤ l.length ∧ q + n ≤ q' ∧ q' ≤ 4096 ∧ xs.length = n
  | 0, p, q, xs, p', q', hp, hq, h => by
    simp only [itsM, Option.some.injEq, Prod.mk.injEq] at h
    obtain ⟨rfl, rfl, rfl⟩ := h
    exact ⟨hp, Nat.le_refl _, hq, rfl⟩
  | n + 1, p, q, xs, p', q', hp, hq, h => by
    simp only [itsM] at h
    cases e : g p q with
    | none => rw [e] at h; cases h
    | some t =>
      obtain ⟨x, p1, q1⟩ := t
      rw [e] at h
      simp only at h
      obtain ⟨h1, h2, h3⟩ := hg hp e
      cases e2 : itsM g n p1 q1 with
      | none => rw [e2] at h; cases h
      | some t =>
        obtain ⟨ys, p2, q2⟩ := t
        rw [e2] at h
        simp only [Option.some.injEq, Prod.mk.injEq] at h
        obtain ⟨rfl, rfl, rfl⟩ := h
        obtain ⟨k1, k2, k3, k4⟩ := itsM_le hg n h1 h3 e2
        exact ⟨k1, by omega, k3, by simp [k4]⟩
theorem decM_le (l : List UInt8) : ∀ (n : Nat) {p q : Nat} {v : Vl} {p' q' : Nat}, p ≤ l.length → decM l n p q = some (v, p', q') → p' ≤ l.length ∧ q < q' ∧ q' ≤ 4096
  | 0, _, _, _, _, _, _, h => by simp [decM] at h
  | n + 1, p, q, v, p', q', hp, h => by
    simp only [decM] at h
    split at h
    · cases h
    · rename_i hq
      cases e : headM (seen l p) with
      | none => rw [e] at h; cases h
      | some t =>
        obtain ⟨u, k, r⟩ := t
        rw [e] at h
        simp only at h
        have hsz : (seen l p).length ≤ 139 ∧ (seen l p).length ≤ l.length - p := by unfold seen; simp; omega
        have ho := headM_ok e hsz.1
        cases e2 : itsM (decM l n) k (p + ((seen l p).length - r.length)) (q + 1) with
        | none => rw [e2] at h; cases h
        | some t =>
          obtain ⟨ys, p2, q2⟩ := t
          rw [e2] at h
          simp only [Option.some.injEq, Prod.mk.injEq] at h
          obtain ⟨rfl, rfl, rfl⟩ := h
          obtain ⟨k1, k2, k3, k4⟩ := itsM_le (l := l) (fun hp h => decM_le l n hp h) k (by omega) (by omega) e2
          exact ⟨k1, by omega, k3⟩
end Go.Proofs.YtngnlofjjlkcmaaGreatDoor
