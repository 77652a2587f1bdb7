/- isCall, Before: of numbers of operations. -/
import Derived.Test.YtooddjfkibbkeaaDoorZHMake
import Derived.Test.YtooddjfkibbkeaaDoorZVRegion
namespace Go.Proofs.YtooddjfkibbkeaaDoor
open Go.RowKit Go.Maps

set_option maxRecDepth 100000 in
theorem isCall_yes (v0 v1 : Value) (a2 : Option Addr) (m c i : Nat) (hi : i < m) (w : World) : Calls Tryd.prog 36 #[.agg #[v0, v1, .slice a2 m c], .int .i64 (i : Int)] w fun e w' => e = .returned (.bool true) ∧ Below w.heap.size w w' := by
  have h0 : (0 : Int) ≤ (i : Int) := by omega
  have h1 : (i : Int) < (m : Int) := by omega
  go_enter Tryd.func36, Tryd.ntmps36
  go_wp2
  go_ret
  exact ⟨rfl, alloc_v (Below.refl _ _) _⟩
/-- Does one operation precede another? -/
def befB (x y : Cl) : Bool := decide (0 ≤ x.res) && decide (x.res < (y.inv : Int))
set_option maxRecDepth 100000 in
set_option maxHeartbeats 2000000 in
theorem before_k (w : World) (L gc cc : Nat) (v0 v1 : Value) (hv0 : ∃ a m c, v0 = .slice a m c) (hv1 : ∃ a m c, v1 = .slice a m c) (rs : List CV) (hr : w.ownsRow L 49 15 (.slice (some ⟨gc, 0, none⟩) rs.length cc) rs.length (crow rs)) (i j : Nat) (hi : i < rs.length) (hj : j < rs.length) :
    Calls Tryd.prog 21 #[.agg #[v0, v1, .slice (some ⟨gc, 0, none⟩) rs.length cc], .int .i64 (i : Int), .int .i64 (j : Int)] w fun e w' => e = .returned (.bool (befB rs[i].1 rs[j].1)) ∧ Below w.heap.size w w' := by
  obtain ⟨a0, m0, c0, rfl⟩ := hv0
  obtain ⟨a1, m1, c1, rfl⟩ := hv1
  obtain ⟨W, hW⟩ : ∃ W, w.alloc (.cells #[.slice a0 m0 c0, .slice a1 m1 c1, .slice (some ⟨gc, 0, none⟩) rs.length cc] 27) = W := ⟨_, rfl⟩
  have bW : Below w.heap.size w W := by rw [← hW]; exact alloc_v (Below.refl _ _) _
  have e1 : W.heap[w.heap.size]? = some (.cells #[.slice a0 m0 c0, .slice a1 m1 c1, .slice (some ⟨gc, 0, none⟩) rs.length cc] 27 (0, 0)) := by rw [← hW]; exact World.alloc_heap_new w _
  have gl : gc < w.heap.size := (hr.lt gc rfl).2
  have hcell : ∀ k o v (hk : k < rs.length), (clOf rs[k])[o]? = some v → W.cell? ⟨gc, k * 15 + o, none⟩ = some v := fun k o v hk h => by
    have h15 : o < 15 := by
      have := (List.getElem?_eq_some_iff.1 h).1
      rwa [clOf_len] at this
    refine ((bcellV bW).1 _ _ gl).trans ?_
    rw [hr.cellAt (k * 15 + o) (by have := Nat.mul_le_mul_right 15 (show k + 1 ≤ rs.length by omega); omega), crow_get rs k hk o h15]
    exact h
  have p1 : W.cell? ⟨gc, i * 15 + 9, none⟩ = some (.int .i64 rs[i].1.res) := hcell i 9 _ hi rfl
  have p2 : W.cell? ⟨gc, j * 15 + 8, none⟩ = some (.int .i64 (rs[j].1.inv : Int)) := hcell j 8 _ hj rfl
  have HC := hide (fun (q : Wv W) (k : Nat) (hk : k < rs.length) => isCall_yes (.slice a0 m0 c0) (.slice a1 m1 c1) (some ⟨gc, 0, none⟩) rs.length cc k hk q.val)
  have x0 := fun q : Wv W => q.cell (cells_at e1 0 _ rfl)
  have x1 := fun q : Wv W => q.cell (cells_at e1 1 _ rfl)
  have x2 := fun q : Wv W => q.cell (cells_at e1 2 _ rfl)
  have y1 := fun q : Wv W => q.cell p1
  have y2 := fun q : Wv W => q.cell p2
  have hany := Wv.any W
  have i0 : (0 : Int) ≤ (i : Int) := by omega
  have i1 : (i : Int) < (rs.length : Int) := by omega
  have j0 : (0 : Int) ≤ (j : Int) := by omega
  have j1 : (j : Int) < (rs.length : Int) := by omega
  clear hcell hr e1 p1 p2
  have hb : befB rs[i].1 rs[j].1 = (decide (0 ≤ rs[i].1.res) && decide (rs[i].1.res < (rs[j].1.inv : Int))) := rfl
  rw [hb]
  clear hb
  generalize rs[i].1.res = ri at *
  generalize rs[j].1.inv = ij at *
  by_cases r0 : 0 ≤ ri
  · have d0 : decide (0 ≤ ri) = true := by simpa using r0
    rw [d0]
    obtain ⟨bb, hbb⟩ : ∃ bb, decide (ri < (ij : Int)) = bb := ⟨_, rfl⟩
    rw [hbb]
    go_enter Tryd.func21, Tryd.ntmps21
    go_wp2
    refine wp_region_grown (by kernel_rfl) (by kernel_rfl) ?_
    repeat (go_big_quiet_step ((go_at_call 36; exact Wv.calls _ (HC.out _ _ (by omega)))))
    refine wpQuiet_nil ?_
    intro w1 hw'
    obtain ⟨q, rfl⟩ := hw'
    go_wp2
    go_ret
    exact ⟨by simp, trans_v bW q.below⟩
  · have d0 : decide (0 ≤ ri) = false := by simpa using r0
    rw [d0]
    go_enter Tryd.func21, Tryd.ntmps21
    go_wp2
    refine wp_region_grown (by kernel_rfl) (by kernel_rfl) ?_
    repeat (go_big_quiet_step ((go_at_call 36; exact Wv.calls _ (HC.out _ _ (by omega)))))
    refine wpQuiet_nil ?_
    intro w1 hw'
    obtain ⟨q, rfl⟩ := hw'
    go_wp2
    go_ret
    exact ⟨by simp, trans_v bW q.below⟩
end Go.Proofs.YtooddjfkibbkeaaDoor
