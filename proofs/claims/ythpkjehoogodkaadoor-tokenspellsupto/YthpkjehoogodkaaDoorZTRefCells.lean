/- The document's runes, cell by cell. -/
import Derived.Test.YthpkjehoogodkaaDoorZTRefRunes
namespace Go.Proofs.YthpkjehoogodkaaDoor
open Go.RowKit

theorem rsCells_at : ∀ (x : List (Int × Nat × Nat)) (k : Nat) (h : k < x.length), (rsCells x)[k * 3]? = some (.int .i64 (x[k]'h).1) ∧ (rsCells x)[k * 3 + 1]? = some (.int .i64 (x[k]'h).2.1) ∧ (rsCells x)[k * 3 + 2]? = some (.int .i64 (x[k]'h).2.2)
  | [], k, h => absurd h (by simp)
  | c :: r, 0, _ => ⟨rfl, rfl, rfl⟩
  | c :: r, k + 1, h => by
    have := rsCells_at r k (by simpa using h)
    have e : rsCells (c :: r) = [.int .i64 c.1, .int .i64 c.2.1, .int .i64 c.2.2] ++ rsCells r := rfl
    have e1 : (k + 1) * 3 = k * 3 + 3 := by omega
    rw [e, e1]
    exact this

/-- What a list of runes holds. -/
def RsAt (x : List (Int × Nat × Nat)) (a : Option Addr) (W : World) : Prop := ∀ k (h : k < x.length), ∃ g, a = some ⟨g, 0, none⟩ ∧ W.cell? ⟨g, k * 3, none⟩ = some (.int .i64 (x[k]'h).1) ∧ W.cell? ⟨g, k * 3 + 1, none⟩ = some (.int .i64 (x[k]'h).2.1) ∧ W.cell? ⟨g, k * 3 + 2, none⟩ = some (.int .i64 (x[k]'h).2.2)
theorem RsAt.below {x : List (Int × Nat × Nat)} {a : Option Addr} {W W' : World} (h : RsAt x a W) (hb : Below W.heap.size W W') : RsAt x a W' := fun k hk => by
  obtain ⟨g, e, h1, h2, h3⟩ := h k hk
  exact ⟨g, e, keepCell h1 hb, keepCell h2 hb, keepCell h3 hb⟩

theorem refRunes_cells (s : ByteArray) (hs : s.size ≤ 1048576) (w : World) :
    Calls Tryd.prog 19 #[.string s] w fun e w' => ∃ a c, e = .returned (.slice a (rs s.data.toList).length c) ∧ RsAt (rs s.data.toList) a w' ∧ Below w.heap.size w w' := by
  refine (refRunes_k s hs w).mono ?_
  rintro e w' ⟨v, rfl, h1, hb⟩
  obtain ⟨a, c, rfl⟩ := row_slice h1
  refine ⟨a, c, rfl, fun k hk => ?_, hb⟩
  obtain ⟨M, hM⟩ : ∃ M, (rs s.data.toList).length = M + 1 := ⟨_, (Nat.sub_add_cancel (by omega : 1 ≤ (rs s.data.toList).length)).symm⟩
  obtain ⟨q1, q2, q3⟩ := rsCells_at _ k hk
  rw [hM] at h1
  obtain ⟨g1, c1, e⟩ := ownsRow_succ h1
  cases e
  exact ⟨g1, rfl, rowCell h1 _ _ q1, rowCell h1 _ _ q2, rowCell h1 _ _ q3⟩
theorem rs_le (s : ByteArray) : (rs s.data.toList).length ≤ s.size := by
  have := ru_length_le s.data.toList
  rw [rs_length]
  have h2 : s.data.toList.length = s.size := by rw [Array.length_toList]; rfl
  omega
end Go.Proofs.YthpkjehoogodkaaDoor
