/- Compare of the program and of the document. -/
import Derived.Test.YtngnlofjjlkcmaaGreatDoorGRefR
namespace Go.Proofs.YtngnlofjjlkcmaaGreatDoor
open Go.RowKit

def cmpV (a b : Vl) : Int := if rightV a then (if rightV b then ordV a b else -1) else (if rightV b then 1 else 0)
set_option maxRecDepth 100000 in
theorem refRight_k (v : Vl) (w : World) (n : Nat) (sl : Value) (htx : v.text.size ≤ 1048576) (hs : ItemsAt w w.heap.size n sl v.items) :
    Calls Tryz.prog 20 #[.agg (vcells v sl)] w fun e w' => e = .returned (.bool (rightV v)) ∧ Below w.heap.size w w' := by
  obtain ⟨W, hW⟩ : ∃ W, w.alloc (.cells (vcells v sl) 26) = W := ⟨_, rfl⟩
  have bW : Below w.heap.size w W := by rw [← hW]; exact alloc_v (Below.refl _ _) _
  have e1 : W.heap[w.heap.size]? = some (.cells (vcells v sl) 26 (0, 0)) := by rw [← hW]; exact World.alloc_heap_new w _
  have zW : w.heap.size < W.heap.size := (Array.getElem?_eq_some_iff.1 e1).1
  have x0 := cells_at e1 0 _ rfl
  have x1 := cells_at e1 1 _ rfl
  have x2 := cells_at e1 2 _ rfl
  have x3 := cells_at e1 3 _ rfl
  have x4 := cells_at e1 4 _ rfl
  have HE := hide (right_doc v)
  have HC := hide (count_k 16 v W w.heap.size n 0 sl (Nat.le_refl _) (by omega) bW.size (hs.below bW))
  have HF := hide (fun (U : World) (b : Below W.heap.size W U) => form_k n v U w.heap.size sl htx (trans_v bW b).size (hs.below (trans_v bW b)))
  obtain ⟨a, c, rfl, _⟩ := hs.len
  clear hs e1
  generalize cnt 16 v 0 = u at *
  generalize formV v = f at *
  by_cases hu : u ≤ 4096
  · have hu' : (u : Int) ≤ 4096 := by omega
    rw [← HE.out, decide_eq_true hu, Bool.true_and]
    go_enter Tryz.func20, Tryz.ntmps20
    go_wp2_with (first
      | (go_at_call 38; refine HC.out.mono ?_; clear HC; rintro e w2 ⟨rfl, b2⟩; have hc := (bcellV b2).1)
      | (go_at_call 39; refine (HF.out _ b2).mono ?_; clear HF; rintro e w3 ⟨rfl, b3⟩))
    go_ret
    exact ⟨rfl, trans_v (trans_v bW b2) b3⟩
  · have hu' : ¬ (u : Int) ≤ 4096 := by omega
    rw [← HE.out, decide_eq_false hu, Bool.false_and]
    go_enter Tryz.func20, Tryz.ntmps20
    go_wp2_with (go_at_call 38; refine HC.out.mono ?_; clear HC; rintro e w2 ⟨rfl, b2⟩; have hc := (bcellV b2).1)
    go_ret
    exact ⟨rfl, trans_v bW b2⟩
set_option maxRecDepth 100000 in
set_option maxHeartbeats 2000000 in
theorem compare_k (a b : Vl) (w : World) (n m : Nat) (sa sb : Value) (hT : Tabs w) (hta : a.text.size ≤ 1048576) (htb : b.text.size ≤ 1048576) (ha : ItemsAt w w.heap.size n sa a.items) (hb : ItemsAt w w.heap.size m sb b.items) :
    Calls Tryz.prog 15 #[.agg (vcells a sa), .agg (vcells b sb)] w fun e w' => e = .returned (.int .i64 (cmpV a b)) ∧ Below w.heap.size w w' := by
  obtain ⟨W, hW⟩ : ∃ W, (w.alloc (.cells (vcells a sa) 26)).alloc (.cells (vcells b sb) 26) = W := ⟨_, rfl⟩
  have bW : Below w.heap.size w W := by rw [← hW]; exact alloc_v (alloc_v (Below.refl _ _) _) _
  have e1 : W.heap[w.heap.size]? = some (.cells (vcells a sa) 26 (0, 0)) := by rw [← hW]; exact (Below.heap_alloc _ _ _ (by simp)).trans (World.alloc_heap_new w _)
  have e2 : W.heap[w.heap.size + 1]? = some (.cells (vcells b sb) 26 (0, 0)) := by rw [← hW]; have := World.alloc_heap_new (w.alloc (.cells (vcells a sa) 26)) (.cells (vcells b sb) 26); rwa [World.size_alloc] at this
  have zW : w.heap.size + 1 < W.heap.size := (Array.getElem?_eq_some_iff.1 e2).1
  have z1 : w.heap.size < W.heap.size := by omega
  have d0 := fun q : Wv W => q.cell (cells_at e1 0 _ rfl)
  have d1 := fun q : Wv W => q.cell (cells_at e1 1 _ rfl)
  have d2 := fun q : Wv W => q.cell (cells_at e1 2 _ rfl)
  have d3 := fun q : Wv W => q.cell (cells_at e1 3 _ rfl)
  have d4 := fun q : Wv W => q.cell (cells_at e1 4 _ rfl)
  have c0 := fun q : Wv W => q.cell (cells_at e2 0 _ rfl)
  have c1 := fun q : Wv W => q.cell (cells_at e2 1 _ rfl)
  have c2 := fun q : Wv W => q.cell (cells_at e2 2 _ rfl)
  have c3 := fun q : Wv W => q.cell (cells_at e2 3 _ rfl)
  have c4 := fun q : Wv W => q.cell (cells_at e2 4 _ rfl)
  have hany := Wv.any W
  have HRA := hide (fun q : Wv W => right_k a q.val n sa (hT.below (trans_v bW q.below)) hta ((ha.below (trans_v bW q.below)).up (trans_v bW q.below).size))
  have HRB := hide (fun q : Wv W => right_k b q.val m sb (hT.below (trans_v bW q.below)) htb ((hb.below (trans_v bW q.below)).up (trans_v bW q.below).size))
  have HO := hide (fun q : Wv W => order_k n a b q.val w.heap.size m sa sb (trans_v bW q.below).size (ha.below (trans_v bW q.below)) (hb.below (trans_v bW q.below)))
  obtain ⟨aa, ca, rfl, _⟩ := ha.len
  obtain ⟨ab, cb, rfl, _⟩ := hb.len
  unfold cmpV
  clear e1 e2 ha hb hT
  obtain ⟨k1, i1, m1, t1, l1⟩ := a
  obtain ⟨k2, i2, m2, t2, l2⟩ := b
  simp only at *
  generalize rightV ⟨k1, i1, m1, t1, l1⟩ = x at *
  generalize rightV ⟨k2, i2, m2, t2, l2⟩ = y at *
  generalize ordV ⟨k1, i1, m1, t1, l1⟩ ⟨k2, i2, m2, t2, l2⟩ = o at *
  cases x <;> cases y
  all_goals
    go_enter Tryz.func15, Tryz.ntmps15
    go_wp2
    refine wp_region_grown (by kernel_rfl) (by kernel_rfl) ?_
    repeat (go_big_quiet_step ((go_at_call 18; first | with_reducible exact Wv.calls _ (HRA.out _) | with_reducible exact Wv.calls _ (HRB.out _))))
    refine wpQuiet_nil ?_
    intro w1 hw'
    obtain ⟨q, rfl⟩ := hw'
    go_wp2_with (go_at_call 33; refine (HO.out _).mono ?_; clear HO; rintro e w2 ⟨rfl, b2⟩)
    go_ret
    first
      | exact ⟨rfl, trans_v (trans_v bW q.below) b2⟩
      | exact ⟨rfl, trans_v bW q.below⟩
end Go.Proofs.YtngnlofjjlkcmaaGreatDoor
