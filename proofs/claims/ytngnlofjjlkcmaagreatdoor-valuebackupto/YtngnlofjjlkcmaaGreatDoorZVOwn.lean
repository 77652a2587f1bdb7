/- Rows of values that a call has made, while other blocks turn. -/
import Derived.Test.YtngnlofjjlkcmaaGreatDoorZVCopied
namespace Go.Proofs.YtngnlofjjlkcmaaGreatDoor
open Go.RowKit

theorem own_far {W W' : World} {L : Nat} {e : TypeId} {size : Nat} {v : Value} {k : Nat} {xs : List Value} (h : W.ownsRow L e size v k xs) (hl : ∀ j, L ≤ j → j < W.heap.size → W'.heap[j]? = W.heap[j]?) : W'.ownsRow L e size v k xs := by
  refine ⟨h.1, ?_⟩
  rcases h.2 with h0 | ⟨g, cap, cur, hv, hb, hh, rest⟩
  · exact .inl h0
  · exact .inr ⟨g, cap, cur, hv, hb, (hl g hb (Array.getElem?_eq_some_iff.1 hh).1).trans hh, rest⟩
theorem OwnAt.far {w w' : World} {L n : Nat} {v : Value} {its : List Vl} (h : OwnAt w L n v its) (hs : w.heap.size ≤ w'.heap.size) (hk : ∀ k, L ≤ k → k < w.heap.size → w'.heap[k]? = w.heap[k]?) : OwnAt w' L n v its := by
  obtain ⟨ss, hl, hr, hc⟩ := h
  refine ⟨ss, hl, own_far hr hk, fun j hj => ?_⟩
  obtain ⟨h1, h2⟩ := hc j hj
  exact ⟨h1.kept (fun b o hb => World.cell?_of_block (hk b hb.1 hb.2.1)) (fun b hb => ⟨hb.1, by omega, hb.2.2⟩), h2⟩
/-- One value more is laid behind; its items lie in blocks of their own. -/
theorem OwnAt.pushX {W : World} {L n : Nat} {v s : Value} {its : List Vl} {x : Vl} (h : OwnAt W L n v its) (hL : L ≤ W.heap.size) (hx : ItemsIn W (fun b => L ≤ b ∧ b < W.heap.size ∧ some b ≠ v.ownBlock) n s x.items) (ht : x.ok) (hn : its.length + 1 ≤ 1000000000) (ty : TypeId) :
    ∃ v' w', (Builtin.append_ #[24, 24] ty #[v, .slice (some ⟨W.heap.size, 0, none⟩) 1 1]).run Tryz.prog (W.alloc (.cells #[.int .i64 x.kind, .int .i64 x.int, .int .i64 x.im, .string x.text, s] 26)) = .ok v' w' ∧ OwnAt w' L n v' (its ++ [x]) ∧ Below L W w' := by
  obtain ⟨i0, hi, hz0, hz1, hz2⟩ := info_partsV infoVal
  obtain ⟨ss, hl, hr, hc⟩ := h
  obtain ⟨sa, sc, rfl, _⟩ := hx.len
  have hbA : Below W.heap.size W (W.alloc (.cells #[.int .i64 x.kind, .int .i64 x.int, .int .i64 x.im, .string x.text, .slice sa x.items.length sc] 26)) := alloc_v (Below.refl _ _) _
  have eA := World.alloc_heap_new W (.cells #[.int .i64 x.kind, .int .i64 x.int, .int .i64 x.im, .string x.text, .slice sa x.items.length sc] 26)
  have hrA : (W.alloc (.cells #[.int .i64 x.kind, .int .i64 x.int, .int .i64 x.im, .string x.text, .slice sa x.items.length sc] 26)).ownsRow L 26 5 v its.length (rowC its ss) := hr.kept (grown_of_below (r := none) hbA) (by cases v.ownBlock <;> simp)
  obtain ⟨g, cap, w', hrun, A1, A2, A3, A4⟩ := run_append_lies (P := Tryz.prog) (W.alloc (.cells #[.int .i64 x.kind, .int .i64 x.int, .int .i64 x.im, .string x.text, .slice sa x.items.length sc] 26)) 24 ty L 26 i0 _ 5 64 Tryz.underlying24 hi hz0 hz1 hz2 rfl (by decide) v its.length (rowC its ss) hrA ⟨W.heap.size, 0, none⟩ 1 1 (cells5 x (.slice sa x.items.length sc)) rfl (fun j u hj => by
      rw [Addr.add_lit, Nat.zero_add]
      exact cells_at eA j u (by simpa [cells5] using hj)) (fun u hu => by simp [cells5] at hu; rcases hu with rfl | rfl | rfl | rfl | rfl <;> rfl) (by omega) (by unfold maxLen; omega) (by omega) (by rw [World.size_alloc]; omega) (W.heap.size + 1) (by rw [World.size_alloc])
  have hgz := A2.size
  rw [World.size_alloc] at hgz
  have hvl := hr.lt
  refine ⟨_, w', hrun, ⟨ss ++ [.slice sa x.items.length sc], by simp [hl], ?_, fun j hj => ?_⟩, ?_⟩
  · rw [rowC_snoc _ _ hl, List.length_append]
    exact A1
  · have keep : ∀ b o, b < W.heap.size → some b ≠ v.ownBlock → w'.cell? ⟨b, o, none⟩ = W.cell? ⟨b, o, none⟩ := fun b o h1 h2 => (World.cell?_of_block (A2.block b (by rw [World.size_alloc]; omega) h2)).trans ((bcellV hbA).1 b o h1)
    have apart : ∀ b, b < W.heap.size → some b ≠ v.ownBlock → some b ≠ Value.ownBlock (.slice (some ⟨g, 0, none⟩) (its.length + 1) cap) := fun b h1 h2 eq => by
      simp only [Value.ownBlock, Option.some.injEq] at eq
      rcases A3 with A3 | A3
      · exact h2 (by rw [A3, eq])
      · omega
    by_cases e : j < its.length
    · obtain ⟨h1, h2⟩ := hc j e
      rw [List.getElem_append_left (by omega), List.getElem_append_left e]
      exact ⟨h1.kept (fun b o hb => keep b o hb.2.1 hb.2.2) (fun b hb => ⟨hb.1, by omega, apart b hb.2.1 hb.2.2⟩), h2⟩
    · have ej : j = its.length := by rw [List.length_append, List.length_singleton] at hj; omega
      subst ej
      rw [List.getElem_append_right (by omega), List.getElem_append_right (by omega)]
      simp only [hl, Nat.sub_self, List.getElem_singleton]
      exact ⟨hx.kept (fun b o hb => keep b o hb.2.1 hb.2.2) (fun b hb => ⟨hb.1, by omega, apart b hb.2.1 hb.2.2⟩), ht⟩
  · have hb1 : Below L W (W.alloc (.cells #[.int .i64 x.kind, .int .i64 x.int, .int .i64 x.im, .string x.text, .slice sa x.items.length sc] 26)) := hbA.mono hL
    exact hb1.grown A2 (by rw [World.size_alloc]; omega) (fun k hk => (hvl k hk).1)
end Go.Proofs.YtngnlofjjlkcmaaGreatDoor
