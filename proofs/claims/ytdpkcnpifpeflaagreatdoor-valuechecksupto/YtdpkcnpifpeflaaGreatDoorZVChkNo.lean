/- ValueChecks answers true: of a value that is not right. -/
import Derived.Test.YtdpkcnpifpeflaaGreatDoorGRefP
import Derived.Test.YtdpkcnpifpeflaaGreatDoorZVAlive
namespace Go.Proofs.YtdpkcnpifpeflaaGreatDoor
open Go.RowKit

set_option maxRecDepth 100000 in
set_option maxHeartbeats 8000000 in
theorem valueChecks_no (v : Vl) (w : World) (n : Nat) (sl : Value) (hT : Tabs w) (hok : v.ok) (hz : v.size ≤ 1000000000) (hi : ItemsAt w w.heap.size n sl v.items) (hr : rightV v = false) :
    Calls Tryz.prog 3 #[.agg (vcells v sl)] w fun e w' => e = .returned (.bool true) ∧ Below w.heap.size w w' := by
  obtain ⟨W, hW⟩ : ∃ W, w.alloc (.cells (vcells v sl) 25) = W := ⟨_, rfl⟩
  have bW : Below w.heap.size w W := by rw [← hW]; exact alloc_v (Below.refl _ _) _
  have e1 : W.heap[w.heap.size]? = some (.cells (vcells v sl) 25 (0, 0)) := by rw [← hW]; exact World.alloc_heap_new w _
  obtain ⟨q0, hq⟩ : ∃ q0 : Wv W, q0.val = W := ⟨⟨W, Below.refl _ _⟩, rfl⟩
  rw [← hq] at hW
  have a0 := fun q : Wv W => q.cell (cells_at e1 0 _ rfl)
  have a1 := fun q : Wv W => q.cell (cells_at e1 1 _ rfl)
  have a2 := fun q : Wv W => q.cell (cells_at e1 2 _ rfl)
  have a3 := fun q : Wv W => q.cell (cells_at e1 3 _ rfl)
  have a4 := fun q : Wv W => q.cell (cells_at e1 4 _ rfl)
  have up := fun q : Wv W => trans_v bW q.below
  have it := fun q : Wv W => (hi.below (up q)).up (up q).size
  have HR := hide (fun q : Wv W => Wv.calls q (refRight_k v q.val n sl hok.1 (it q)))
  have HK := hide (fun q : Wv W => Wv.calls q (check_k v q.val n sl (hT.below (up q)) hok.1 (it q)))
  have HN := hide (fun q : Wv W => Wv.calls q (nodes_all v q.val n sl (hT.below (up q)) hok hz (it q)))
  have HD := hide (fun q : Wv W => Wv.calls q (deep_k v q.val n sl (hT.below (up q)) hok.1 hz (it q)))
  have HRD := hide (fun q : Wv W => Wv.calls q (refDeep_k v q.val n sl hok.1 hz (it q)))
  have HP := hide (fun q : Wv W => (refParts_k v q.val n sl hok.1 hz (it q)).mono (fun e w' ⟨h1, h2⟩ => (show (∃ a c, e = Ending.returned (.slice a (if rightV v then v.size else 0) c)) ∧ ∃ q' : Wv W, w' = q'.val from ⟨h1, ⟨w', q.below.trans (h2.mono q.below.size)⟩, rfl⟩)))
  have HA := hide (fun q : Wv W => Wv.calls q (alive4_k q.val (hT.below (up q))))
  have hany := Wv.any W
  obtain ⟨xx1, yy1, rfl, _⟩ := hi.len
  have fin := hide up
  clear e1 hi hT up it hq
  rw [hr] at HR HK HN HD HRD HP
  simp only [Bool.false_eq_true, if_false, cond_false] at HR HK HN HD HRD HP
  clear hr
  generalize depV v = d at *
  generalize v.size = sz at *
  obtain ⟨k1, i1, m1, t1, l1⟩ := v
  simp only at *
  go_enter Tryz.func3, Tryz.ntmps3
  go_wp2_with (go_at_call 9; refine (HR.out _).mono ?_; rintro e w1 ⟨rfl, q1, rfl⟩)
  obtain ⟨qq, hqq⟩ : ∃ qq : Wv W, q1.val.drew = qq.val := ⟨⟨_, trans_v q1.below (below_drawn q1.val)⟩, rfl⟩
  go_region_law
    (first
      | (go_simp; (try rw [hqq]); go_at_call 10; refine (num4_k _ _).mono ?_; rintro e wq ⟨rfl, rfl⟩)
      | (go_simp; (try rw [hqq]); go_at_call 11; refine (HK.out _).mono ?_; rintro e w1 ⟨rfl, q1, rfl⟩)
      | (go_simp; (try rw [hqq]); go_at_call 12; refine (HN.out _).mono ?_; rintro e w1 ⟨rfl, q1, rfl⟩)
      | (go_simp; (try rw [hqq]); go_at_call 13; refine (HP.out _).mono ?_; rintro e w1 ⟨⟨pa, pc, rfl⟩, q1, rfl⟩)
      | (go_simp; (try rw [hqq]); go_at_call 14; refine (HD.out _).mono ?_; rintro e w1 ⟨rfl, q1, rfl⟩)
      | (go_simp; (try rw [hqq]); go_at_call 15; refine (HRD.out _).mono ?_; rintro e w1 ⟨rfl, q1, rfl⟩)
      | (go_simp; (try rw [hqq]); go_at_call 16; refine (HA.out _).mono ?_; rintro e w1 ⟨rfl, q1, rfl⟩))
  all_goals
    go_wp2
    go_ret
    exact ⟨rfl, fin.out _⟩
end Go.Proofs.YtdpkcnpifpeflaaGreatDoor
