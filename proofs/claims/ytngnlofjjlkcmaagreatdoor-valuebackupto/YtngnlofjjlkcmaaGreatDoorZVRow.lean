/- A row of values: writing one, clearing the end; of like neighbours the first alone. -/
import Derived.Test.YtngnlofjjlkcmaaGreatDoorZVSort
import Derived.Test.YtngnlofjjlkcmaaGreatDoorZVMake
namespace Go.Proofs.YtngnlofjjlkcmaaGreatDoor
open Go.RowKit

/-- Behind p: those that are not like the one ahead of them. -/
def ddGo {α : Type} (eq : α → α → Bool) : α → List α → List α
  | _, [] => []
  | p, a :: l => if eq a p then ddGo eq a l else a :: ddGo eq a l
def dd {α : Type} (eq : α → α → Bool) : List α → List α
  | [] => []
  | a :: l => a :: ddGo eq a l
theorem ddGo_take {α : Type} (eq : α → α → Bool) : ∀ (l : List α) (p : α) (k : Nat) (h : k < l.length), ddGo eq p (l.take (k + 1)) = ddGo eq p (l.take k) ++ (if eq l[k] ((p :: l)[k]'(by simp; omega)) then [] else [l[k]])
  | a :: l, p, 0, _ => by
    simp only [List.take_succ_cons, List.take_zero, ddGo, List.nil_append, List.getElem_cons_zero]
  | a :: l, p, k + 1, h => by
    have := ddGo_take eq l a k (by simpa using h)
    simp only [List.take_succ_cons, ddGo, List.getElem_cons_succ] at this ⊢
    rw [this]
    split <;> simp
theorem dd_take {α : Type} (eq : α → α → Bool) (l : List α) (k : Nat) (h0 : 0 < k) (h : k < l.length) : dd eq (l.take (k + 1)) = dd eq (l.take k) ++ (if eq l[k] (l[k - 1]'(by omega)) then [] else [l[k]]) := by
  cases l with
  | nil => simp at h
  | cons a l =>
    obtain ⟨k, rfl⟩ : ∃ j, k = j + 1 := ⟨k - 1, by omega⟩
    have := ddGo_take eq l a k (by simpa using h)
    simp only [List.take_succ_cons, dd, List.getElem_cons_succ, Nat.add_sub_cancel, List.cons_append] at this ⊢
    rw [this]
theorem ddGo_len {α : Type} (eq : α → α → Bool) : ∀ (l : List α) (p : α), (ddGo eq p l).length ≤ l.length
  | [], _ => Nat.le_refl _
  | a :: l, p => by
    have := ddGo_len eq l a
    simp only [ddGo]
    split <;> simp only [List.length_cons] <;> omega
theorem dd_len {α : Type} (eq : α → α → Bool) (l : List α) : (dd eq l).length ≤ l.length := by
  cases l with
  | nil => exact Nat.le_refl _
  | cons a l => have := ddGo_len eq l a; simp only [dd, List.length_cons]; omega
theorem RowV.outside {w w' : World} {blk off : Nat} {cs : List (List Value)} (h : RowV w blk off cs) (k : w'.heap[blk]? = w.heap[blk]?) : RowV w' blk off cs := fun j hj c hc =>
  ⟨(World.cell?_of_block k).trans (h j hj c hc).1, (World.frozen?_of_block k).trans (h j hj c hc).2⟩
/-- One is written. -/
theorem RowV.store {w : World} {blk off : Nat} {cs : List (List Value)} (h : RowV w blk off cs) {k : Nat} (hk : k < cs.length) (vs : List Value) (hv : vs.length = 5) : RowV (w.setCells blk (off + k * 5) vs) blk off (cs.set k vs) := by
  intro j hj c hc
  rw [List.length_set] at hj
  rw [World.frozen?_setCells]
  refine ⟨?_, (h j hj c hc).2⟩
  by_cases e : k = j
  · subst e
    rw [World.cell?_setCells_in blk vs (off + k * 5) w (fun i hi => by rw [(h k hk i (by omega)).1]; rfl) c (by omega)]
    simp [getElem!_pos, hv, hc]
  · rw [World.cell?_setCells_out blk vs (off + k * 5) w _ (fun _ _ => by simp only; omega), (h j hj c hc).1]
    simp [List.getElem_set_ne e]
/-- The end is written over. -/
theorem RowV.cut {w : World} {blk off : Nat} {cs : List (List Value)} (h : RowV w blk off cs) (k : Nat) (vs : List Value) : RowV (w.setCells blk (off + k * 5) vs) blk off (cs.take k) := by
  intro j hj c hc
  rw [List.length_take] at hj
  rw [World.frozen?_setCells, World.cell?_setCells_out blk vs (off + k * 5) w _ (fun _ _ => by simp only; omega), (h j (by omega) c hc).1]
  exact ⟨by simp, (h j (by omega) c hc).2⟩
theorem setCells_heap (b : Nat) : ∀ (vs : List Value) (o : Nat) (w : World), (w.setCells b o vs).heap.size = w.heap.size ∧ (w.setCells b o vs).os = w.os ∧ (w.setCells b o vs).tape = w.tape ∧ (w.setCells b o vs).output = w.output ∧ ∀ k, k ≠ b → (w.setCells b o vs).heap[k]? = w.heap[k]?
  | [], _, _ => ⟨rfl, rfl, rfl, rfl, fun _ _ => rfl⟩
  | v :: r, o, w => by
    obtain ⟨h1, h2, h3, h4, h5⟩ := setCells_heap b r (o + 1) (w.setCell ⟨b, o, none⟩ v)
    have g := (Below.refl 0 w).setCell (p := ⟨b, o, none⟩) (Nat.zero_le _) v
    refine ⟨h1.trans (by simp), h2.trans g.os, h3.trans (by simp), h4.trans g.output, fun k hk => (h5 k hk).trans (Below.heap_setCell _ _ _ _ hk)⟩
theorem grown_cells {w w' : World} {b : Nat} (g : w.grownBy w' (some b)) (o : Nat) (vs : List Value) : w.grownBy (w'.setCells b o vs) (some b) := by
  obtain ⟨h1, h2, h3, h4, h5⟩ := setCells_heap b vs o w'
  exact ⟨h2.trans g.os, h3.trans g.tape, h4.trans g.output, by have := g.size; omega, fun k hk hn => (h5 k (fun e => hn (by rw [e]))).trans (g.block k hk hn)⟩
theorem clear5 (w : World) (ty : TypeId) (b o n c : Nat) (hn : 0 < n) (hc : ∀ j, j < n * 5 → (w.cell? ⟨b, o + j, none⟩).isSome = true) (hf : ∀ j, j < n * 5 → w.frozen? ⟨b, o + j, none⟩ = false) :
    (Builtin.clear_ #[24] ty #[.slice (some ⟨b, o, none⟩) n c]).run Tryz.prog w = .ok (.tuple #[]) (w.setCells b o (Builtin.zeroCells zcells n).toList) := by
  have hlen : (Builtin.zeroCells zcells n).toList.length = n * 5 := by simp [Builtin.zeroCells]
  have hst := run_storeCells_cells (P := Tryz.prog) b o (Builtin.zeroCells zcells n).toList 0 w (by rw [hlen]; simpa using hc) (by rw [hlen]; simpa using hf) (by
    intro v hv
    simp only [Builtin.zeroCells, Array.toList_map, List.mem_map] at hv
    obtain ⟨j, _, rfl⟩ := hv
    have hj : j % zcells.size < 5 := Nat.mod_lt _ (by decide)
    have hj' : j % zcells.size = 0 ∨ j % zcells.size = 1 ∨ j % zcells.size = 2 ∨ j % zcells.size = 3 ∨ j % zcells.size = 4 := by omega
    rcases hj' with e | e | e | e | e <;> rw [e] <;> rfl)
  simp only [Nat.add_zero] at hst
  obtain ⟨m, rfl⟩ : ∃ m, n = m + 1 := ⟨n - 1, by omega⟩
  simp [Builtin.clear_, run_underlying Tryz.underlying24, hst, Value.cells]
end Go.Proofs.YtngnlofjjlkcmaaGreatDoor
