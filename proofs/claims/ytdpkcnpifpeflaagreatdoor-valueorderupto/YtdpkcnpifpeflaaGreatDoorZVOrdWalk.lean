/- ValueOrder answers true. -/
import Derived.Test.YtdpkcnpifpeflaaGreatDoorZVAlive
namespace Go.Proofs.YtdpkcnpifpeflaaGreatDoor
open Go.RowKit

set_option maxRecDepth 100000 in
set_option maxHeartbeats 4000000 in
theorem valueOrder_walk (a b : Vl) (w : World) (n m : Nat) (sa sb : Value) (hT : Tabs w) (hta : a.ok) (htb : b.ok) (ha : ItemsAt w w.heap.size n sa a.items) (hb : ItemsAt w w.heap.size m sb b.items) :
    Calls Tryz.prog 5 #[.agg (vcells a sa), .agg (vcells b sb)] w fun e w' => e = .returned (.bool true) ∧ Below w.heap.size w w' := by
  obtain ⟨W, hW⟩ : ∃ W, (w.alloc (.cells (vcells a sa) 25)).alloc (.cells (vcells b sb) 25) = W := ⟨_, rfl⟩
  have bW : Below w.heap.size w W := by rw [← hW]; exact alloc_v (alloc_v (Below.refl _ _) _) _
  have e1 : W.heap[w.heap.size]? = some (.cells (vcells a sa) 25 (0, 0)) := by rw [← hW]; exact (Below.heap_alloc _ _ _ (by simp)).trans (World.alloc_heap_new w _)
  have e2 : W.heap[w.heap.size + 1]? = some (.cells (vcells b sb) 25 (0, 0)) := by
    rw [← hW]
    have := World.alloc_heap_new (w.alloc (.cells (vcells a sa) 25)) (.cells (vcells b sb) 25)
    rwa [World.size_alloc] at this
  have d0 := fun q : Wv W => q.cell (cells_at e1 0 _ rfl)
  have d1 := fun q : Wv W => q.cell (cells_at e1 1 _ rfl)
  have d2 := fun q : Wv W => q.cell (cells_at e1 2 _ rfl)
  have d3 := fun q : Wv W => q.cell (cells_at e1 3 _ rfl)
  have d4 := fun q : Wv W => q.cell (cells_at e1 4 _ rfl)
  have c0 := fun q : Wv W => q.cell (cells_at e2 0 _ rfl)
  have c1 := fun q : Wv W => q.cell (cells_at e2 1 _ rfl)
  have c2 := fun q : Wv W => q.cell (cells_at e2 2 _ rfl)
  have c3 := fun q : Wv W => q.cell (cells_at e2 3 _ rfl)
  have c4 := fun q : Wv W => q.cell (cells_at e2 4 _ rfl)
  have up := fun q : Wv W => trans_v bW q.below
  have HC := hide (fun q : Wv W => compare_k a b q.val n m sa sb (hT.below (up q)) hta.1 htb.1 ((ha.below (up q)).up (up q).size) ((hb.below (up q)).up (up q).size))
  have HR := hide (fun q : Wv W => refCompare_k a b q.val n m sa sb hta.1 htb.1 ((ha.below (up q)).up (up q).size) ((hb.below (up q)).up (up q).size))
  have HA := hide (fun q : Wv W => alive4_k q.val (hT.below (up q)))
  have hany := Wv.any W
  obtain ⟨xx1, yy1, rfl, _⟩ := ha.len
  obtain ⟨xx2, yy2, rfl, _⟩ := hb.len
  clear e1 e2 ha hb hT up
  generalize cmpV a b = z at *
  obtain ⟨k1, i1, m1, t1, l1⟩ := a
  obtain ⟨k2, i2, m2, t2, l2⟩ := b
  simp only at *
  go_enter Tryz.func5, Tryz.ntmps5
  go_wp2
  refine wp_region_grown (by kernel_rfl) (by kernel_rfl) ?_
  repeat (go_big_quiet_step ((first
    | (go_at_call 27; exact Wv.calls _ (HC.out _))
    | (go_at_call 28; exact Wv.calls _ (HR.out _))
    | (go_at_call 16; exact Wv.calls _ (HA.out _)))))
  refine wpQuiet_nil ?_
  intro w1 hw'
  obtain ⟨q, rfl⟩ := hw'
  go_wp2
  go_ret
  exact ⟨by simp, trans_v bW q.below⟩
end Go.Proofs.YtdpkcnpifpeflaaGreatDoor
