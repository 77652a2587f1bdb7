/- Rows that may be written over, all the way down; smear, of the statements' own. -/
import Derived.Test.YtnmkggoampkekaaGreatDoorZVCopied
namespace Go.Proofs.YtnmkggoampkekaaGreatDoor
open Go.RowKit

theorem sOther {w : World} {a b : Addr} {v : Value} (h : a ≠ b) : (w.setCell a v).cell? b = w.cell? b := by apply World.cell?_setCell_other; exact h
theorem sSame {w : World} {a : Addr} {u v : Value} (h : w.cell? a = some u) : (w.setCell a v).cell? a = some v := by apply World.cell?_setCell_same; exact h
/-- Five cells in a row are stored. -/
abbrev put5 (w : World) (g o : Nat) (v0 v1 v2 v3 v4 : Value) : World := ((((w.setCell ⟨g, o, none⟩ v0).setCell ⟨g, o + 1, none⟩ v1).setCell ⟨g, o + 2, none⟩ v2).setCell ⟨g, o + 3, none⟩ v3).setCell ⟨g, o + 4, none⟩ v4
theorem put5_other {w : World} {g o b o' : Nat} {v0 v1 v2 v3 v4 : Value} (h : b ≠ g ∨ o' < o ∨ o + 5 ≤ o') : (put5 w g o v0 v1 v2 v3 v4).cell? ⟨b, o', none⟩ = w.cell? ⟨b, o', none⟩ := by
  have ne : ∀ i, i < 5 → (⟨g, o + i, none⟩ : Addr) ≠ ⟨b, o', none⟩ := fun i hi e => by
    simp only [Addr.mk.injEq, and_true] at e
    omega
  unfold put5
  rw [sOther (ne 4 (by omega)), sOther (ne 3 (by omega)), sOther (ne 2 (by omega)), sOther (ne 1 (by omega))]
  exact sOther (ne 0 (by omega))
theorem put5_at {w : World} {g o : Nat} {v0 v1 v2 v3 v4 u0 u1 u2 u3 u4 : Value} (h0 : w.cell? ⟨g, o, none⟩ = some u0) (h1 : w.cell? ⟨g, o + 1, none⟩ = some u1) (h2 : w.cell? ⟨g, o + 2, none⟩ = some u2) (h3 : w.cell? ⟨g, o + 3, none⟩ = some u3) (h4 : w.cell? ⟨g, o + 4, none⟩ = some u4) :
    (put5 w g o v0 v1 v2 v3 v4).cell? ⟨g, o, none⟩ = some v0 ∧ (put5 w g o v0 v1 v2 v3 v4).cell? ⟨g, o + 1, none⟩ = some v1 ∧ (put5 w g o v0 v1 v2 v3 v4).cell? ⟨g, o + 2, none⟩ = some v2 ∧ (put5 w g o v0 v1 v2 v3 v4).cell? ⟨g, o + 3, none⟩ = some v3 ∧ (put5 w g o v0 v1 v2 v3 v4).cell? ⟨g, o + 4, none⟩ = some v4 := by
  have ne : ∀ i j, i ≠ j → (⟨g, o + i, none⟩ : Addr) ≠ ⟨g, o + j, none⟩ := fun i j hi e => by
    simp only [Addr.mk.injEq, true_and, and_true] at e
    omega
  have n10 : (⟨g, o + 1, none⟩ : Addr) ≠ ⟨g, o, none⟩ := ne 1 0 (by omega)
  have n20 : (⟨g, o + 2, none⟩ : Addr) ≠ ⟨g, o, none⟩ := ne 2 0 (by omega)
  have n30 : (⟨g, o + 3, none⟩ : Addr) ≠ ⟨g, o, none⟩ := ne 3 0 (by omega)
  have n40 : (⟨g, o + 4, none⟩ : Addr) ≠ ⟨g, o, none⟩ := ne 4 0 (by omega)
  have n01 : (⟨g, o, none⟩ : Addr) ≠ ⟨g, o + 1, none⟩ := ne 0 1 (by omega)
  have n02 : (⟨g, o, none⟩ : Addr) ≠ ⟨g, o + 2, none⟩ := ne 0 2 (by omega)
  have n03 : (⟨g, o, none⟩ : Addr) ≠ ⟨g, o + 3, none⟩ := ne 0 3 (by omega)
  have n04 : (⟨g, o, none⟩ : Addr) ≠ ⟨g, o + 4, none⟩ := ne 0 4 (by omega)
  unfold put5
  refine ⟨?_, ?_, ?_, ?_, ?_⟩
  · rw [sOther n40, sOther n30, sOther n20, sOther n10]
    exact sSame h0
  · rw [sOther (ne 4 1 (by omega)), sOther (ne 3 1 (by omega)), sOther (ne 2 1 (by omega))]
    exact sSame ((sOther n01).trans h1)
  · rw [sOther (ne 4 2 (by omega)), sOther (ne 3 2 (by omega))]
    exact sSame ((sOther (ne 1 2 (by omega))).trans ((sOther n02).trans h2))
  · rw [sOther (ne 4 3 (by omega))]
    exact sSame ((sOther (ne 2 3 (by omega))).trans ((sOther (ne 1 3 (by omega))).trans ((sOther n03).trans h3)))
  · exact sSame ((sOther (ne 3 4 (by omega))).trans ((sOther (ne 2 4 (by omega))).trans ((sOther (ne 1 4 (by omega))).trans ((sOther n04).trans h4))))
theorem put5_frozen (w : World) (g o : Nat) (v0 v1 v2 v3 v4 : Value) (x : Addr) : (put5 w g o v0 v1 v2 v3 v4).frozen? x = w.frozen? x := by unfold put5; simp
theorem put5_heap {w : World} {g o b : Nat} {v0 v1 v2 v3 v4 : Value} (h : b ≠ g) : (put5 w g o v0 v1 v2 v3 v4).heap[b]? = w.heap[b]? := by
  unfold put5
  rw [Below.heap_setCell _ _ _ _ h, Below.heap_setCell _ _ _ _ h, Below.heap_setCell _ _ _ _ h, Below.heap_setCell _ _ _ _ h, Below.heap_setCell _ _ _ _ h]
theorem put5_size (w : World) (g o : Nat) (v0 v1 v2 v3 v4 : Value) : (put5 w g o v0 v1 v2 v3 v4).heap.size = w.heap.size := by simp [put5, World.setCell]
theorem put5_below {w w' : World} {L g o : Nat} {v0 v1 v2 v3 v4 : Value} (h : Below L w w') (hg : L ≤ g) : Below L w (put5 w' g o v0 v1 v2 v3 v4) := ((((h.setCell hg _).setCell hg _).setCell hg _).setCell hg _).setCell hg _
theorem frozen_of_block {w w' : World} {b o : Nat} (h : w'.heap[b]? = w.heap[b]?) : w'.frozen? ⟨b, o, none⟩ = w.frozen? ⟨b, o, none⟩ := by unfold World.frozen?; rw [h]
/-- A slice of values in rows of the blocks S that may be written, all the way down. -/
def SmAt (w : World) (S : Nat → Prop) : Nat → Value → Prop
  | 0, _ => False
  | n + 1, sl => ∃ a len c, sl = .slice a len c ∧ len ≤ 1000000000 ∧ ∀ j, j < len → ∃ b k i m t s', a = some ⟨b, 0, none⟩ ∧ S b ∧ w.cell? ⟨b, j * 5, none⟩ = some (.int .i64 k) ∧ w.cell? ⟨b, j * 5 + 1, none⟩ = some (.int .i64 i) ∧ w.cell? ⟨b, j * 5 + 2, none⟩ = some (.int .i64 m) ∧
      w.cell? ⟨b, j * 5 + 3, none⟩ = some (.string t) ∧ w.cell? ⟨b, j * 5 + 4, none⟩ = some s' ∧ (∀ i, i < 5 → w.frozen? ⟨b, j * 5 + i, none⟩ = false) ∧ SmAt w S n s'
theorem SmAt.nil (w : World) (S : Nat → Prop) (n : Nat) (a : Option Addr) (c : Nat) : SmAt w S (n + 1) (.slice a 0 c) := ⟨a, 0, c, rfl, by omega, fun j h => by omega⟩
theorem SmAt.pos {w : World} {S : Nat → Prop} {n : Nat} {s : Value} (h : SmAt w S n s) : ∃ m, n = m + 1 := by
  cases n with
  | zero => exact h.elim
  | succ n => exact ⟨n, rfl⟩
theorem SmAt.kept {w w' : World} {S : Nat → Prop} (hk : ∀ b, S b → b < w.heap.size → w'.heap[b]? = w.heap[b]?) : ∀ {n : Nat} {s : Value}, SmAt w S n s → SmAt w' S n s
  | 0, _, h => h.elim
  | n + 1, _, h => by
    obtain ⟨a, len, c, e, hl, hc⟩ := h
    refine ⟨a, len, c, e, hl, fun j hj => ?_⟩
    obtain ⟨b, k, i, m, t, s', e, hb, h0, h1, h2, h3, h4, hf, h5⟩ := hc j hj
    have hbk := hk b hb (World.block_lt_of_cell? w _ h0)
    have hcell : ∀ o, w'.cell? ⟨b, o, none⟩ = w.cell? ⟨b, o, none⟩ := fun o => World.cell?_of_block hbk
    exact ⟨b, k, i, m, t, s', e, hb, (hcell _).trans h0, (hcell _).trans h1, (hcell _).trans h2, (hcell _).trans h3, (hcell _).trans h4, fun i hi => (frozen_of_block hbk).trans (hf i hi), SmAt.kept hk h5⟩
/-- What is written over in S alone. -/
def Smeared (L : Nat) (S : Nat → Prop) (w w' : World) : Prop := (∀ n s, SmAt w S n s → SmAt w' S n s) ∧ Below L w w' ∧ ∀ b, ¬ S b → b < w.heap.size → w'.heap[b]? = w.heap[b]?
theorem Smeared.refl (L : Nat) (S : Nat → Prop) (w : World) : Smeared L S w w := ⟨fun _ _ h => h, Below.refl _ _, fun _ _ _ => rfl⟩
theorem Smeared.trans {L : Nat} {S : Nat → Prop} {u v w : World} (h : Smeared L S u v) (k : Smeared L S v w) : Smeared L S u w :=
  ⟨fun n s hs => k.1 n s (h.1 n s hs), h.2.1.trans k.2.1, fun b hb hl => (k.2.2 b hb (by have := h.2.1.size; omega)).trans (h.2.2 b hb hl)⟩
theorem Smeared.below {L : Nat} {S : Nat → Prop} {w w' : World} (h : Below w.heap.size w w') (hL : L ≤ w.heap.size) : Smeared L S w w' :=
  ⟨fun _ _ hs => hs.kept (fun b _ hb => h.block b hb), h.mono hL, fun b _ hb => h.block b hb⟩
theorem Smeared.put {L n : Nat} {S : Nat → Prop} {w : World} {g len c : Nat} (h : SmAt w S (n + 1) (.slice (some ⟨g, 0, none⟩) len c)) (hL : ∀ b, S b → L ≤ b) (j : Nat) (hj : j < len) : Smeared L S w (put5 w g (j * 5) (.int .i64 9) (.int .i64 0) (.int .i64 0) (.string ⟨#[]⟩) (.slice none 0 0)) := by
  obtain ⟨a, len', c', e, hl, hc⟩ := h
  cases e
  obtain ⟨b, k, i, m, t, s', e, hb, h0, h1, h2, h3, h4, hf, h5⟩ := hc j hj
  cases e
  obtain ⟨p0, p1, p2, p3, p4⟩ := put5_at (v0 := .int .i64 9) (v1 := .int .i64 0) (v2 := .int .i64 0) (v3 := .string ⟨#[]⟩) (v4 := .slice none 0 0) h0 h1 h2 h3 h4
  refine ⟨?_, put5_below (Below.refl _ _) (hL _ hb), fun b hn _ => put5_heap (fun e => hn (by rw [e]; exact hb))⟩
  intro n
  induction n with
  | zero => intro s hs; exact hs.elim
  | succ n ih =>
    rintro s ⟨a2, l2, c2, e2, hl2, hc2⟩
    refine ⟨a2, l2, c2, e2, hl2, fun j2 hj2 => ?_⟩
    obtain ⟨b2, k2, i2, m2, t2, s2, e2, hb2, q0, q1, q2, q3, q4, qf, q5⟩ := hc2 j2 hj2
    obtain ⟨n', rfl⟩ := q5.pos
    by_cases hs : b2 = g ∧ j2 = j
    · obtain ⟨rfl, rfl⟩ := hs
      exact ⟨b2, 9, 0, 0, ⟨#[]⟩, .slice none 0 0, e2, hb2, p0, p1, p2, p3, p4, fun i hi => by rw [put5_frozen]; exact qf i hi, SmAt.nil _ _ _ _ _⟩
    · have out : ∀ x, x < 5 → (put5 w g (j * 5) (.int .i64 9) (.int .i64 0) (.int .i64 0) (.string ⟨#[]⟩) (.slice none 0 0)).cell? ⟨b2, j2 * 5 + x, none⟩ = w.cell? ⟨b2, j2 * 5 + x, none⟩ := fun x hx => put5_other (by omega)
      exact ⟨b2, k2, i2, m2, t2, s2, e2, hb2, (out 0 (by omega)).trans q0, (out 1 (by omega)).trans q1, (out 2 (by omega)).trans q2, (out 3 (by omega)).trans q3, (out 4 (by omega)).trans q4, fun i hi => by rw [put5_frozen]; exact qf i hi, ih _ q5⟩
end Go.Proofs.YtnmkggoampkekaaGreatDoor
