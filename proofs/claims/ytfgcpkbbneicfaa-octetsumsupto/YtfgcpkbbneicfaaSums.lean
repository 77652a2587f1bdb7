/- What OctetSums does, where what it is given is small. -/
import Derived.Test.YtfgcpkbbneicfaaRefSum
import Derived.Maps.AppendAt
namespace Go.Proofs.Ytfgcpkbbneicfaa
open Go.RowKit

theorem info_row : (Try.prog.info? 23).map (fun i => (i.zero, i.size, i.bytes)) = some (some (.slice none 0 0), 1, 24) := by kernel_rfl

theorem run_append_bytes_at (w : World) (base : Nat) (ty : TypeId) (v : Value) (n : Nat) (xs : List Value) (hown : w.ownsRow base 5 1 v n xs) (x : Value) (l : List UInt8) (hb : Bytes w x l)
    (hn : n + l.length ≤ 140737488355328) (hbase : base ≤ w.heap.size) :
    ∃ v' w', (Builtin.append_ #[23, 23] ty #[v, x]).run Try.prog w = .ok v' w' ∧ w'.ownsRow base 5 1 v' (n + l.length) (xs ++ cellsOf l) ∧ w.grownBy w' v.ownBlock ∧ (v'.ownBlock = v.ownBlock ∨ v'.ownBlock = some w.heap.size) := by
  obtain ⟨i0, hi, hz0, hz1, hz2⟩ := info_parts info_u8
  obtain ⟨a, c, rfl, _⟩ := id hb
  rcases a with _ | ad
  · have : l = [] := by
      rcases hb.elim with ⟨h, _⟩ | ⟨_, b, off, c, h, _⟩
      · exact h
      · cases h
    subst this
    refine ⟨v, w, ?_, by simpa [cellsOf] using hown, grownBy_refl _ _, .inl rfl⟩
    rcases hown.2 with ⟨rfl, rfl⟩ | ⟨g, cap, cur, rfl, hbg, hg, hnc, hcm, hcs, htake⟩
    · simp [Builtin.append_, run_underlying Try.underlying23, sizeOf, typeInfo, hi, Builtin.lenOf, Builtin.firstCells]
    · simp [Builtin.append_, run_underlying Try.underlying23, sizeOf, typeInfo, hi, Builtin.lenOf, Builtin.firstCells, hnc, storeCells]
  · obtain ⟨v', w', h1, h2, h3, _, h5⟩ := run_append_own_at (P := Try.prog) w base 23 ty 5 i0 (.int .u8 0) 1 1 Try.underlying23 hi hz0 hz1 hz2 rfl (by decide) v n xs hown ad l.length c (cellsOf l) (by rw [cellsOf_length, Nat.mul_one]) hb.cells (cellsOf_one l) (by unfold maxLen; omega) (by omega) hbase
    exact ⟨v', w', h1, h2, h3, h5⟩

/-- Rows of rows: the own slice v of slices, each a row of bytes in a block of its own; and beside them the own row of bytes u. -/
def Rowed (B : Nat) (w : World) (u : Value) (flat : List UInt8) (v : Value) (ls : List (List UInt8)) : Prop :=
  w.ownsRow B 5 1 u flat.length (cellsOf flat) ∧
  ∃ vs : List Value, vs.length = ls.length ∧ w.ownsRow B 23 1 v ls.length vs ∧
    ∀ i (h : i < ls.length), ∃ g cap, vs[i]? = some (.slice (some ⟨g, 0, none⟩) ls[i].length cap) ∧ w.ownsRow B 5 1 (.slice (some ⟨g, 0, none⟩) ls[i].length cap) ls[i].length (cellsOf ls[i]) ∧ u.ownBlock ≠ some g

/-- Rows of two unlike kinds lie in two blocks. -/
theorem apart_kinds {w : World} {B : Nat} {u v : Value} {n m : Nat} {xs ys : List Value} (h1 : w.ownsRow B 5 1 u n xs) (h2 : w.ownsRow B 23 1 v m ys) : v.ownBlock = none ∨ v.ownBlock ≠ u.ownBlock := by
  rcases h1.2 with ⟨rfl, _⟩ | ⟨g1, c1, cur1, rfl, _, hg1, _⟩
  · cases hv : v.ownBlock <;> simp [Value.ownBlock]
  · rcases h2.2 with ⟨rfl, _⟩ | ⟨g2, c2, cur2, rfl, _, hg2, _⟩
    · exact .inl rfl
    · refine .inr fun e => ?_
      simp only [Value.ownBlock, Option.some.injEq] at e
      subst e
      rw [hg1] at hg2
      simp at hg2

theorem apart_kinds' {w : World} {B : Nat} {u v : Value} {n m : Nat} {xs ys : List Value} (h1 : w.ownsRow B 5 1 u n xs) (h2 : w.ownsRow B 23 1 v m ys) : u.ownBlock = none ∨ u.ownBlock ≠ v.ownBlock := by
  rcases apart_kinds h1 h2 with h | h
  · rw [h]
    cases u.ownBlock <;> simp
  · exact .inr (fun e => h e.symm)

/-- The bytes' row is appended to. -/
theorem Rowed.flat {B : Nat} {w w1 : World} {u u' v : Value} {f f' : List UInt8} {ls : List (List UInt8)} (h : Rowed B w u f v ls) (hg : w.grownBy w1 u.ownBlock) (hu : w1.ownsRow B 5 1 u' f'.length (cellsOf f'))
    (hb : u'.ownBlock = u.ownBlock ∨ u'.ownBlock = some w.heap.size) : Rowed B w1 u' f' v ls := by
  obtain ⟨h1, vs, h2, h3, h4⟩ := h
  refine ⟨hu, vs, h2, h3.kept hg (apart_kinds h1 h3), fun i hi => ?_⟩
  obtain ⟨g, cap, h5, h6, h7⟩ := h4 i hi
  refine ⟨g, cap, h5, h6.kept hg (.inr (fun e => h7 e.symm)), ?_⟩
  rcases hb with e | e
  · rw [e]; exact h7
  · rw [e]
    have := (h6.lt g rfl).2
    intro e'
    cases e'
    omega

/-- Memory grows, none of it is written. -/
theorem Rowed.later {B : Nat} {w w1 : World} {u v : Value} {f : List UInt8} {ls : List (List UInt8)} (h : Rowed B w u f v ls) (hb : Below w.heap.size w w1) : Rowed B w1 u f v ls := by
  have hg : w.grownBy w1 none := ⟨hb.os, hb.tape, hb.output, hb.size, fun k hk _ => hb.block k hk⟩
  have ne : ∀ x : Value, x.ownBlock = none ∨ x.ownBlock ≠ none := fun x => by cases x.ownBlock <;> simp
  obtain ⟨h1, vs, h2, h3, h4⟩ := h
  refine ⟨h1.kept hg (ne _), vs, h2, h3.kept hg (ne _), fun i hi => ?_⟩
  obtain ⟨g, cap, h5, h6, h7⟩ := h4 i hi
  exact ⟨g, cap, h5, h6.kept hg (ne _), h7⟩

/-- A row more. -/
theorem Rowed.more {B : Nat} {w w1 : World} {u v v' : Value} {f l : List UInt8} {ls : List (List UInt8)} {vs : List Value} {g cap : Nat} (h : Rowed B w u f v ls)
    (hvs : w.ownsRow B 23 1 v ls.length vs) (hrow : w.ownsRow B 5 1 (.slice (some ⟨g, 0, none⟩) l.length cap) l.length (cellsOf l)) (hug : u.ownBlock ≠ some g)
    (hg : w.grownBy w1 v.ownBlock) (hv : w1.ownsRow B 23 1 v' (ls.length + 1) (vs ++ [.slice (some ⟨g, 0, none⟩) l.length cap])) : Rowed B w1 u f v' (ls ++ [l]) := by
  obtain ⟨h1, vs', h2, h3, h4⟩ := h
  have e : vs' = vs := by
    rcases hvs.2 with ⟨rfl, h0⟩ | ⟨gg, cc, cur, rfl, _, hgg, _, _, _, ht⟩
    · have a1 : vs = [] := List.eq_nil_of_length_eq_zero (by have := hvs.1; omega)
      have a2 : vs' = [] := List.eq_nil_of_length_eq_zero (by omega)
      rw [a1, a2]
    · rcases h3.2 with ⟨h, _⟩ | ⟨gg', cc', cur', hv', _, hgg', _, _, _, ht'⟩
      · cases h
      · simp only [Value.slice.injEq, Option.some.injEq, Addr.mk.injEq, and_true, true_and] at hv'
        obtain ⟨rfl, rfl⟩ := hv'
        rw [hgg] at hgg'
        simp only [Option.some.injEq, Obj.cells.injEq, and_true] at hgg'
        rw [← ht, ← ht', hgg']
  subst e
  refine ⟨h1.kept hg (apart_kinds' h1 h3), vs' ++ [.slice (some ⟨g, 0, none⟩) l.length cap], by simp [h2], by simpa using hv, fun i hi => ?_⟩
  by_cases hlt : i < ls.length
  · obtain ⟨g', cap', h5, h6, h7⟩ := h4 i hlt
    have e1 : (ls ++ [l])[i] = ls[i] := List.getElem_append_left hlt
    rw [e1]
    exact ⟨g', cap', by rw [List.getElem?_append_left (by omega)]; exact h5, h6.kept hg (apart_kinds' h6 h3), h7⟩
  · have e0 : i = ls.length := by simp at hi; omega
    subst e0
    have e1 : (ls ++ [l])[ls.length] = l := by simp
    rw [e1]
    exact ⟨g, cap, by rw [← h2, List.getElem?_append_right (by omega)]; simp, hrow.kept hg (apart_kinds' hrow h3), hug⟩
end Go.Proofs.Ytfgcpkbbneicfaa
