/- Two sets of the program's and the document's two, side by side. -/
import Derived.Test.YtfagjejknnkhdaaDoorBPlayMath
namespace Go.Proofs.YtfagjejknnkhdaaDoor
open Go.RowKit

/-- A set of the program's (struct, words, their room, the set's room, the words) and the one of the document's that it is held against (struct, truths, their room, the truths). -/
structure Side where
  sb : Nat
  g : Nat
  cap : Nat
  n : Nat
  ws : List Nat
  pb : Nat
  hb : Nat
  cb : Nat
  bs : List Bool
structure Side.At (s : Side) (W : World) : Prop where
  set : SetAt W s.sb s.g s.cap s.n s.ws
  ref : RefAt W s.pb s.hb s.cb s.bs
  rel : Rel s.ws s.bs
  len : s.bs.length = s.n
theorem Side.At.kept {s : Side} {W W' : World} {r : Nat} (h : s.At W) (hg : W.grownBy W' (some r)) (h1 : r ≠ s.sb) (h2 : r ≠ s.g) (h3 : r ≠ s.pb) (h4 : r ≠ s.hb) : s.At W' :=
  ⟨h.set.kept hg (by simpa using h1) (by simpa using h2), h.ref.kept hg (by simpa using h3) (by simpa using h4), h.rel, h.len⟩
theorem Side.At.below {s : Side} {W W' : World} (h : s.At W) (hb : Below W.heap.size W W') : s.At W' :=
  ⟨h.set.below hb h.set.lt h.set.glt, h.ref.below hb h.ref.lt h.ref.glt, h.rel, h.len⟩

/-- Blocks of different types are different. -/
theorem row_type {w : World} {base base' : Nat} {e e' : TypeId} {g g' n n' cap cap' : Nat} {xs xs' : List Value} (h : w.ownsRow base e 1 (.slice (some ⟨g, 0, none⟩) n cap) n xs) (h' : w.ownsRow base' e' 1 (.slice (some ⟨g', 0, none⟩) n' cap') n' xs') (hne : e ≠ e') : g ≠ g' := by
  intro e1
  subst e1
  obtain ⟨c, hc⟩ := row_block_is h
  obtain ⟨c', hc'⟩ := row_block_is h'
  rw [hc] at hc'
  simp at hc'
  exact hne hc'.2

/-- Both pairs, and the two rows of pointers to them; all that is turned lies from L on. -/
structure Two (L : Nat) (W : World) (sr tr : Nat) (s : Nat → Side) : Prop where
  srow : W.ownsRow L 23 1 (.slice (some ⟨sr, 0, none⟩) 2 2) 2 [.pointer (some ⟨(s 0).sb, 0, none⟩), .pointer (some ⟨(s 1).sb, 0, none⟩)]
  trow : W.ownsRow L 34 1 (.slice (some ⟨tr, 0, none⟩) 2 2) 2 [.pointer (some ⟨(s 0).pb, 0, none⟩), .pointer (some ⟨(s 1).pb, 0, none⟩)]
  each : ∀ j, j < 2 → (s j).At W
  lo : ∀ j, j < 2 → L ≤ (s j).g ∧ L ≤ (s j).hb
  apart : ∀ i j, i < 2 → j < 2 → i ≠ j → (s i).g ≠ (s j).g ∧ (s i).hb ≠ (s j).hb
def upd (s : Nat → Side) (k : Nat) (x : Side) : Nat → Side := fun j => if j = k then x else s j
theorem Two.ptr {L : Nat} {W : World} {sr tr : Nat} {s : Nat → Side} (h : Two L W sr tr s) (k : Nat) (hk : k < 2) :
    W.cell? ⟨sr, k, none⟩ = some (.pointer (some ⟨(s k).sb, 0, none⟩)) ∧ W.cell? ⟨tr, k, none⟩ = some (.pointer (some ⟨(s k).pb, 0, none⟩)) := by
  have h1 := h.srow.cellAt k hk
  have h2 := h.trow.cellAt k hk
  have : k = 0 ∨ k = 1 := by omega
  rcases this with rfl | rfl
  · exact ⟨h1, h2⟩
  · exact ⟨h1, h2⟩
/-- The words of one side and its truths are turned. -/
theorem Two.turned {L : Nat} {W W1 W2 : World} {sr tr : Nat} {s : Nat → Side} (h : Two L W sr tr s) (k : Nat) (hk : k < 2) {ws' : List Nat} {bs' : List Bool} (g1 : W.grownBy W1 (some (s k).g)) (s1 : SetAt W1 (s k).sb (s k).g (s k).cap (s k).n ws') (g2 : W1.grownBy W2 (some (s k).hb)) (r2 : RefAt W2 (s k).pb (s k).hb (s k).cb bs') (hr : Rel ws' bs') (hl : bs'.length = (s k).n) :
    Two L W2 sr tr (upd s k { (s k) with ws := ws', bs := bs' }) := by
  have hA := h.each k hk
  have e1 : (s k).g ≠ sr := row_type hA.set.row h.srow (by decide)
  have e2 : (s k).g ≠ tr := row_type hA.set.row h.trow (by decide)
  have e3 : (s k).hb ≠ sr := row_type hA.ref.row h.srow (by decide)
  have e4 : (s k).hb ≠ tr := row_type hA.ref.row h.trow (by decide)
  have e5 : (s k).hb ≠ (s k).g := row_type hA.ref.row hA.set.row (by decide)
  have f1 := (h.srow.kept g1 (.inr (by simpa [Value.ownBlock] using Ne.symm e1))).kept g2 (.inr (by simpa [Value.ownBlock] using Ne.symm e3))
  have f2 := (h.trow.kept g1 (.inr (by simpa [Value.ownBlock] using Ne.symm e2))).kept g2 (.inr (by simpa [Value.ownBlock] using Ne.symm e4))
  have a1 := RefAt.apart hA.set hA.ref
  have hsb : (s k).hb ≠ (s k).sb := a1.2.2.1
  have u1 : ∀ j, (upd s k { (s k) with ws := ws', bs := bs' } j).sb = (s j).sb ∧ (upd s k { (s k) with ws := ws', bs := bs' } j).pb = (s j).pb ∧ (upd s k { (s k) with ws := ws', bs := bs' } j).g = (s j).g ∧ (upd s k { (s k) with ws := ws', bs := bs' } j).hb = (s j).hb := fun j => by
    unfold upd
    split
    · rename_i e; subst e; exact ⟨rfl, rfl, rfl, rfl⟩
    · exact ⟨rfl, rfl, rfl, rfl⟩
  refine ⟨by rw [(u1 0).1, (u1 1).1]; exact f1, by rw [(u1 0).2.1, (u1 1).2.1]; exact f2, fun j hj => ?_, fun j hj => by rw [(u1 j).2.2.1, (u1 j).2.2.2]; exact h.lo j hj, fun i j hi hj hne => by rw [(u1 i).2.2.1, (u1 i).2.2.2, (u1 j).2.2.1, (u1 j).2.2.2]; exact h.apart i j hi hj hne⟩
  by_cases e : j = k
  · subst e
    have : upd s j { (s j) with ws := ws', bs := bs' } j = { (s j) with ws := ws', bs := bs' } := by simp [upd]
    rw [this]
    exact ⟨s1.kept g2 (by simpa using hsb) (by simpa using e5), r2, hr, hl⟩
  · have : upd s k { (s k) with ws := ws', bs := bs' } j = s j := by simp [upd, e]
    rw [this]
    have hB := h.each j hj
    have ap := h.apart k j hk hj (Ne.symm e)
    have b1 := RefAt.apart hA.set hB.ref
    have b2 : (s k).g ≠ (s j).sb := Ne.symm (SetAt.apart hA.set hB.set)
    have hB1 := hB.kept g1 b2 ap.1 (Ne.symm b1.1) (Ne.symm b1.2.1)
    have c1 : (s k).hb ≠ (s j).g := row_type hA.ref.row hB.set.row (by decide)
    have c2 : (s k).hb ≠ (s j).sb := fun e' => by
      obtain ⟨cur, hc⟩ := row_block_is hA.ref.row
      have := hB.set.st
      rw [← e', hc] at this
      simp at this
    have c3 : (s k).hb ≠ (s j).pb := fun e' => by
      obtain ⟨cur, hc⟩ := row_block_is hA.ref.row
      have := hB.ref.st
      rw [← e', hc] at this
      simp at this
    exact hB1.kept g2 c2 c1 c3 ap.2
end Go.Proofs.YtfagjejknnkhdaaDoor
