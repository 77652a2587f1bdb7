/- Rows of values that a call has made, whose items lie where they lay. -/
import Derived.Test.YtnmkggoampkekaaGreatDoorZVCopied
namespace Go.Proofs.YtnmkggoampkekaaGreatDoor
open Go.RowKit

/-- Items in blocks from lo on and below B. -/
def ItemsLo (lo : Nat) (w : World) (B n : Nat) (sl : Value) (its : List Vl) : Prop := ItemsIn w (fun b => lo ≤ b ∧ b < B) n sl its
theorem ItemsLo.below {lo : Nat} {w w' : World} {B n : Nat} {sl : Value} {its : List Vl} (h : ItemsLo lo w B n sl its) (hb : Below B w w') : ItemsLo lo w' B n sl its :=
  ItemsIn.kept (fun b o hB => hb.cell (p := ⟨b, o, none⟩) hB.2) (fun _ h => h) h
theorem ItemsLo.up {lo : Nat} {w : World} {B B' n : Nat} {sl : Value} {its : List Vl} (h : ItemsLo lo w B n sl its) (hB : B ≤ B') : ItemsLo lo w B' n sl its :=
  ItemsIn.kept (fun _ _ _ => rfl) (fun _ h => ⟨h.1, Nat.lt_of_lt_of_le h.2 hB⟩) h
theorem ItemsLo.at {lo : Nat} {w : World} {B n : Nat} {sl : Value} {its : List Vl} (h : ItemsLo lo w B n sl its) : ItemsAt w B n sl its := ItemsIn.at (fun _ h => h.2) h
theorem ItemsLo.len {lo : Nat} {w : World} {B n : Nat} {sl : Value} {its : List Vl} (h : ItemsLo lo w B n sl its) : ∃ a c, sl = .slice a its.length c ∧ its.length ≤ maxLen := ItemsIn.len h
theorem ItemsAt.lo {w : World} {B : Nat} : ∀ {n : Nat} {sl : Value} {its : List Vl}, ItemsAt w B n sl its → ItemsLo 0 w B n sl its
  | 0, _, _, h => h.elim
  | n + 1, _, its, h => by
    obtain ⟨a, c, e, hl, hc⟩ := h
    refine ⟨a, c, e, hl, fun j hj => ?_⟩
    obtain ⟨b, off, s', e, hb, h0, h1, h2, h3, h4, h5, h6⟩ := hc j hj
    exact ⟨b, off, s', e, ⟨Nat.zero_le _, hb⟩, h0, h1, h2, h3, h4, ItemsAt.lo h5, h6⟩
theorem ItemsLo.item {lo : Nat} {w : World} {B n : Nat} {a : Option Addr} {l c : Nat} {its : List Vl} (h : ItemsLo lo w B (n + 1) (.slice a l c) its) (j : Nat) (hj : j < its.length) : ∃ b off s', a = some ⟨b, off, none⟩ ∧ (lo ≤ b ∧ b < B) ∧
      w.cell? ⟨b, off + j * 5, none⟩ = some (.int .i64 its[j].kind) ∧ w.cell? ⟨b, off + j * 5 + 1, none⟩ = some (.int .i64 its[j].int) ∧ w.cell? ⟨b, off + j * 5 + 2, none⟩ = some (.int .i64 its[j].im) ∧
      w.cell? ⟨b, off + j * 5 + 3, none⟩ = some (.string its[j].text) ∧ w.cell? ⟨b, off + j * 5 + 4, none⟩ = some s' ∧ ItemsLo lo w B n s' its[j].items ∧ its[j].ok := by
  obtain ⟨a', c', e, _, hc⟩ := h
  cases e
  exact hc j hj
/-- A row of the call's own, from block L on; its items' own items lie below B. -/
def RowS (lo : Nat) (w : World) (L B n : Nat) (v : Value) (its : List Vl) : Prop := ∃ ss : List Value, ∃ hl : ss.length = its.length, w.ownsRow L 57 5 v its.length (rowC its ss) ∧
  ∀ j (h : j < its.length), ItemsLo lo w B n (ss[j]'(by omega)) its[j].items ∧ its[j].ok
theorem RowS.nil (lo : Nat) (w : World) (L B n : Nat) : RowS lo w L B n (.slice none 0 0) [] := ⟨[], rfl, ⟨rfl, .inl ⟨rfl, rfl⟩⟩, fun j h => by simp at h⟩
theorem RowS.below {lo : Nat} {w w' : World} {L B n : Nat} {v : Value} {its : List Vl} (h : RowS lo w L B n v its) (hB : B ≤ w.heap.size) (hb : Below w.heap.size w w') : RowS lo w' L B n v its := by
  obtain ⟨ss, hl, hr, hc⟩ := h
  exact ⟨ss, hl, hr.kept (grown_of_below (r := none) hb) (by cases v.ownBlock <;> simp), fun j hj => ⟨(hc j hj).1.below (hb.mono hB), (hc j hj).2⟩⟩
theorem RowS.len {lo : Nat} {w : World} {L B n : Nat} {v : Value} {its : List Vl} (h : RowS lo w L B n v its) : ∃ a c, v = .slice a its.length c := by
  obtain ⟨ss, hl, hr, hc⟩ := h
  rcases hr.2 with ⟨hv, h0⟩ | ⟨g, cap, cur, hv, _⟩
  · exact ⟨none, 0, by rw [hv, h0]⟩
  · exact ⟨_, _, hv⟩
/-- Such a row as items. -/
theorem RowS.items {lo : Nat} {w : World} {L B n : Nat} {v : Value} {its : List Vl} (h : RowS lo w L B n v its) (hB : B ≤ w.heap.size) (hm : its.length ≤ maxLen) (hlo : lo ≤ L) : ItemsLo lo w w.heap.size (n + 1) v its := by
  obtain ⟨ss, hl, hr, hc⟩ := h
  have hlt := hr.lt
  rcases hr.2 with ⟨hv, h0⟩ | ⟨g, cap, cur, hv, _⟩
  · refine ⟨none, 0, by rw [hv, h0], hm, fun j hj => by omega⟩
  · subst hv
    refine ⟨some ⟨g, 0, none⟩, cap, rfl, hm, fun j hj => ?_⟩
    obtain ⟨h1, h2⟩ := hc j hj
    have hg := hlt g rfl
    have ce : ∀ i, i < 5 → w.cell? ⟨g, 0 + j * 5 + i, none⟩ = (cells5 its[j] (ss[j]'(by omega)))[i]? := fun i hi => by
      rw [Nat.zero_add, hr.cellAt (j * 5 + i) (by have := Nat.mul_le_mul_right 5 (show j + 1 ≤ its.length by omega); omega), rowC_get hl j hj i hi]
    exact ⟨g, 0, ss[j]'(by omega), rfl, ⟨Nat.le_trans hlo hg.1, hg.2⟩, ce 0 (by omega), ce 1 (by omega), ce 2 (by omega), ce 3 (by omega), ce 4 (by omega), h1.up hB, h2⟩
/-- One value more is laid behind. -/
theorem RowS.push {lo : Nat} {W : World} {L B n : Nat} {v s : Value} {its : List Vl} {x : Vl} (h : RowS lo W L B n v its) (hL : L ≤ W.heap.size) (hB : B ≤ L) (hx : ItemsLo lo W B n s x.items) (ht : x.ok) (hn : its.length + 1 ≤ 1000000000) (ty : TypeId) :
    ∃ v' w', (Builtin.append_ #[55, 55] ty #[v, .slice (some ⟨W.heap.size, 0, none⟩) 1 1]).run Tryz.prog (W.alloc (.cells #[.int .i64 x.kind, .int .i64 x.int, .int .i64 x.im, .string x.text, s] 57)) = .ok v' w' ∧ RowS lo w' L B n v' (its ++ [x]) ∧ Below L W w' := by
  obtain ⟨i0, hi, hz0, hz1, hz2⟩ := info_partsV infoVal
  obtain ⟨ss, hl, hr, hc⟩ := h
  obtain ⟨sa, sc, rfl, _⟩ := hx.len
  have hbA : Below W.heap.size W (W.alloc (.cells #[.int .i64 x.kind, .int .i64 x.int, .int .i64 x.im, .string x.text, .slice sa x.items.length sc] 57)) := alloc_v (Below.refl _ _) _
  have eA := World.alloc_heap_new W (.cells #[.int .i64 x.kind, .int .i64 x.int, .int .i64 x.im, .string x.text, .slice sa x.items.length sc] 57)
  have hrA : (W.alloc (.cells #[.int .i64 x.kind, .int .i64 x.int, .int .i64 x.im, .string x.text, .slice sa x.items.length sc] 57)).ownsRow L 57 5 v its.length (rowC its ss) := hr.kept (grown_of_below (r := none) hbA) (by cases v.ownBlock <;> simp)
  obtain ⟨g, cap, w', hrun, A1, A2, A3, A4⟩ := run_append_lies (P := Tryz.prog) (W.alloc (.cells #[.int .i64 x.kind, .int .i64 x.int, .int .i64 x.im, .string x.text, .slice sa x.items.length sc] 57)) 55 ty L 57 i0 _ 5 64 Tryz.underlying55 hi hz0 hz1 hz2 rfl (by decide) v its.length (rowC its ss) hrA ⟨W.heap.size, 0, none⟩ 1 1 (cells5 x (.slice sa x.items.length sc)) rfl (fun j u hj => by
      rw [Addr.add_lit, Nat.zero_add]
      exact cells_at eA j u (by simpa [cells5] using hj)) (fun u hu => by simp [cells5] at hu; rcases hu with rfl | rfl | rfl | rfl | rfl <;> rfl) (by omega) (by unfold maxLen; omega) (by omega) (by rw [World.size_alloc]; omega) (W.heap.size + 1) (by rw [World.size_alloc])
  have hvl := hr.lt
  have bL : Below L W w' := (hbA.mono hL).grown A2 (by rw [World.size_alloc]; omega) (fun k hk => (hvl k hk).1)
  refine ⟨_, w', hrun, ⟨ss ++ [.slice sa x.items.length sc], by simp [hl], ?_, fun j hj => ?_⟩, bL⟩
  · rw [rowC_snoc _ _ hl, List.length_append]
    exact A1
  · by_cases e : j < its.length
    · obtain ⟨h1, h2⟩ := hc j e
      rw [List.getElem_append_left (by omega), List.getElem_append_left e]
      exact ⟨h1.below (bL.mono hB), h2⟩
    · have ej : j = its.length := by rw [List.length_append, List.length_singleton] at hj; omega
      subst ej
      rw [List.getElem_append_right (by omega), List.getElem_append_right (by omega)]
      simp only [hl, Nat.sub_self, List.getElem_singleton]
      exact ⟨hx.below (bL.mono hB), ht⟩
end Go.Proofs.YtnmkggoampkekaaGreatDoor
