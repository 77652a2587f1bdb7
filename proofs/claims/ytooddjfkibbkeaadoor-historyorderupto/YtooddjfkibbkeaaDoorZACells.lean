/- Rows of values of the call's own: which may be written, all the way down, and what they hold. -/
import Derived.Test.YtooddjfkibbkeaaDoorGSmr
namespace Go.Proofs.YtooddjfkibbkeaaDoor
open Go.RowKit

/-- A value that is item j of the row in block g. -/
def ItemCells (w : World) (g j : Nat) (v : Vl) (s : Value) : Prop := w.cell? ⟨g, j * 5, none⟩ = some (.int .i64 v.kind) ∧ w.cell? ⟨g, j * 5 + 1, none⟩ = some (.int .i64 v.int) ∧ w.cell? ⟨g, j * 5 + 2, none⟩ = some (.int .i64 v.im) ∧
  w.cell? ⟨g, j * 5 + 3, none⟩ = some (.string v.text) ∧ w.cell? ⟨g, j * 5 + 4, none⟩ = some s ∧ ∀ i, i < 5 → w.frozen? ⟨g, j * 5 + i, none⟩ = false
theorem ItemCells.kept {w w' : World} {g j : Nat} {v : Vl} {s : Value} (h : ItemCells w g j v s) (hk : w'.heap[g]? = w.heap[g]?) : ItemCells w' g j v s :=
  have hc : ∀ o, w'.cell? ⟨g, o, none⟩ = w.cell? ⟨g, o, none⟩ := fun _ => World.cell?_of_block hk
  ⟨(hc _).trans h.1, (hc _).trans h.2.1, (hc _).trans h.2.2.1, (hc _).trans h.2.2.2.1, (hc _).trans h.2.2.2.2.1, fun i hi => (frozen_of_block hk).trans (h.2.2.2.2.2 i hi)⟩
theorem ItemCells.put {w : World} {g j : Nat} {v : Vl} {s : Value} (h : ItemCells w g j v s) (k : Nat) (hk : j ≠ k) (v0 v1 v2 v3 v4 : Value) : ItemCells (put5 w g (k * 5) v0 v1 v2 v3 v4) g j v s := by
  have out : ∀ x, x < 5 → (put5 w g (k * 5) v0 v1 v2 v3 v4).cell? ⟨g, j * 5 + x, none⟩ = w.cell? ⟨g, j * 5 + x, none⟩ := fun x hx => put5_other (by omega)
  exact ⟨(out 0 (by omega)).trans h.1, (out 1 (by omega)).trans h.2.1, (out 2 (by omega)).trans h.2.2.1, (out 3 (by omega)).trans h.2.2.2.1, (out 4 (by omega)).trans h.2.2.2.2.1, fun i hi => by rw [put5_frozen]; exact h.2.2.2.2.2 i hi⟩
theorem ItemCells.new {w : World} {g k : Nat} {v : Vl} {s : Value} (h : ItemCells w g k v s) (v' : Vl) (s' : Value) : ItemCells (put5 w g (k * 5) (.int .i64 v'.kind) (.int .i64 v'.int) (.int .i64 v'.im) (.string v'.text) s') g k v' s' := by
  obtain ⟨h0, h1, h2, h3, h4, hf⟩ := h
  obtain ⟨p0, p1, p2, p3, p4⟩ := put5_at (v0 := .int .i64 v'.kind) (v1 := .int .i64 v'.int) (v2 := .int .i64 v'.im) (v3 := .string v'.text) (v4 := s') h0 h1 h2 h3 h4
  exact ⟨p0, p1, p2, p3, p4, fun i hi => by rw [put5_frozen]; exact hf i hi⟩
/-- A slice of values in rows of the blocks S that may be written, all the way down, with what they hold. -/
def ItemsS (w : World) (S : Nat → Prop) : Nat → Value → List Vl → Prop
  | 0, _, _ => False
  | n + 1, sl, its => ∃ a c, sl = .slice a its.length c ∧ its.length ≤ 1000000000 ∧ ∀ j (h : j < its.length), ∃ b s', a = some ⟨b, 0, none⟩ ∧ S b ∧ ItemCells w b j its[j] s' ∧ ItemsS w S n s' its[j].items ∧ its[j].ok
theorem ItemsS.kept {w w' : World} {S S' : Nat → Prop} (hk : ∀ b, S b → b < w.heap.size → w'.heap[b]? = w.heap[b]?) (hS : ∀ b, S b → S' b) : ∀ {n : Nat} {sl : Value} {its : List Vl}, ItemsS w S n sl its → ItemsS w' S' n sl its
  | 0, _, _, h => h.elim
  | n + 1, _, its, h => by
    obtain ⟨a, c, e, hl, hc⟩ := h
    refine ⟨a, c, e, hl, fun j hj => ?_⟩
    obtain ⟨b, s', e, hb, h0, h5, h6⟩ := hc j hj
    exact ⟨b, s', e, hS _ hb, h0.kept (hk b hb (World.block_lt_of_cell? w _ h0.1)), ItemsS.kept hk hS h5, h6⟩
theorem ItemsS.more {w : World} {S : Nat → Prop} : ∀ {n : Nat} {sl : Value} {its : List Vl}, ItemsS w S n sl its → ItemsS w S (n + 1) sl its
  | 0, _, _, h => h.elim
  | n + 1, _, its, h => by
    obtain ⟨a, c, e, hl, hc⟩ := h
    refine ⟨a, c, e, hl, fun j hj => ?_⟩
    obtain ⟨b, s', e, hb, h0, h5, h6⟩ := hc j hj
    exact ⟨b, s', e, hb, h0, ItemsS.more h5, h6⟩
theorem ItemsS.in {w : World} {S : Nat → Prop} : ∀ {n : Nat} {sl : Value} {its : List Vl}, ItemsS w S n sl its → ItemsIn w S n sl its
  | 0, _, _, h => h.elim
  | n + 1, _, its, h => by
    obtain ⟨a, c, e, hl, hc⟩ := h
    refine ⟨a, c, e, by unfold maxLen; omega, fun j hj => ?_⟩
    obtain ⟨b, s', e, hb, ⟨h0, h1, h2, h3, h4, _⟩, h5, h6⟩ := hc j hj
    exact ⟨b, 0, s', e, hb, by rw [Nat.zero_add]; exact h0, by rw [Nat.zero_add]; exact h1, by rw [Nat.zero_add]; exact h2, by rw [Nat.zero_add]; exact h3, by rw [Nat.zero_add]; exact h4, ItemsS.in h5, h6⟩
theorem ItemsS.sm {w : World} {S : Nat → Prop} : ∀ {n : Nat} {sl : Value} {its : List Vl}, ItemsS w S n sl its → SmAt w S n sl
  | 0, _, _, h => h.elim
  | n + 1, _, its, h => by
    obtain ⟨a, c, e, hl, hc⟩ := h
    refine ⟨a, its.length, c, e, hl, fun j hj => ?_⟩
    obtain ⟨b, s', e, hb, ⟨h0, h1, h2, h3, h4, h7⟩, h5, h6⟩ := hc j hj
    exact ⟨b, _, _, _, _, s', e, hb, h0, h1, h2, h3, h4, h7, ItemsS.sm h5⟩
end Go.Proofs.YtooddjfkibbkeaaDoor
