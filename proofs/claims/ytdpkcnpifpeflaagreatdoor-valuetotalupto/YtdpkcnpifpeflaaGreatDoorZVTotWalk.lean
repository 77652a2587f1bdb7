/- ValueTotal answers true. -/
import Derived.Test.YtdpkcnpifpeflaaGreatDoorZVAlive
namespace Go.Proofs.YtdpkcnpifpeflaaGreatDoor
open Go.RowKit

theorem wp_region_grown_in {P : Program} {id : Nat} {Q : Exit → Act → World → Prop} {a : Act} {w : World} {l : List Oper} (q0 : Wv w) (hm : P.follows .mixedOrders = true) (hB : Region.lexB .any l.toArray = true)
    (h : wpQuiet P l.toArray (fun w' => ∃ q : Wv w, w' = q.val) (fun a' => ∀ w', (∃ q : Wv w, w' = q.val) → Q .normal a' w') l a) : (Code.region id l.toArray true).wp P Q a q0.val :=
  wp_region_quiet (C := fun w' => ∃ q : Wv w, w' = q.val) hm hB ⟨⟨_, trans_v q0.below (below_drawn q0.val)⟩, rfl⟩ (by simpa using h)
theorem cmpI_sgn (a b : Int) : cmpI a b = -1 ∨ cmpI a b = 0 ∨ cmpI a b = 1 := by
  unfold cmpI
  split <;> (try split) <;> simp
theorem cmpS_sgn (a b : ByteArray) : cmpS a b = -1 ∨ cmpS a b = 0 ∨ cmpS a b = 1 := by
  unfold cmpS
  split <;> (try split) <;> simp
theorem orI_sgn : ∀ l : List Int, (∀ x ∈ l, x = -1 ∨ x = 0 ∨ x = 1) → orI l = -1 ∨ orI l = 0 ∨ orI l = 1
  | [], _ => by simp [orI]
  | x :: l, h => by
    have h1 := h x (by simp)
    have h2 := orI_sgn l fun y hy => h y (by simp [hy])
    unfold orI
    split <;> assumption
theorem ordLF_sgn {f : Vl → Vl → Int} (hf : ∀ a b, f a b = -1 ∨ f a b = 0 ∨ f a b = 1) : ∀ l r : List Vl, ordLF f l r = -1 ∨ ordLF f l r = 0 ∨ ordLF f l r = 1
  | [], _ => by simp [ordLF]
  | _ :: _, [] => by simp [ordLF]
  | a :: l, b :: r => by
    have h1 := hf a b
    have h2 := ordLF_sgn hf l r
    unfold ordLF
    split <;> assumption
theorem ordF_sgn : ∀ (n : Nat) (a b : Vl), ordF n a b = -1 ∨ ordF n a b = 0 ∨ ordF n a b = 1
  | 0, _, _ => by simp [ordF]
  | n + 1, a, b => by
    unfold ordF
    refine orI_sgn _ fun x hx => ?_
    simp only [List.mem_cons, List.not_mem_nil, or_false] at hx
    rcases hx with rfl | rfl | rfl | rfl | rfl
    · exact cmpI_sgn _ _
    · exact cmpI_sgn _ _
    · exact cmpI_sgn _ _
    · exact cmpS_sgn _ _
    · split
      · exact ordLF_sgn (ordF_sgn n) _ _
      · exact cmpI_sgn _ _
theorem ordV_sgn (a b : Vl) : ordV a b = -1 ∨ ordV a b = 0 ∨ ordV a b = 1 := ordF_sgn _ _ _
/-- What holds of three values' places. -/
def Three (x y z : Int) : Prop := (x = -1 ∨ x = 0 ∨ x = 1) ∧ (y = -1 ∨ y = 0 ∨ y = 1) ∧ (z = -1 ∨ z = 0 ∨ z = 1) ∧ (x = 0 → z = y) ∧ (y = 0 → z = x) ∧ (x < 0 → y < 0 → z < 0) ∧ (0 < x → 0 < y → 0 < z)
theorem three_ord (a b c : Vl) : Three (ordV a b) (ordV b c) (ordV a c) := by
  refine ⟨ordV_sgn a b, ordV_sgn b c, ordV_sgn a c, fun h => by rw [ordV_zero h], fun h => by rw [ordV_zero h], ordV_trans, fun h k => ?_⟩
  have h1 := ordV_anti a b
  have h2 := ordV_anti b c
  have h3 := ordV_anti a c
  have := @ordV_trans c b a (by omega) (by omega)
  omega
set_option maxRecDepth 100000 in
set_option maxHeartbeats 8000000 in
theorem valueTotal_walk (a b c : Vl) (w : World) (n m k : Nat) (sa sb sc : Value) (hT : Tabs w) (hta : a.ok) (htb : b.ok) (htc : c.ok) (ha : ItemsAt w w.heap.size n sa a.items) (hb : ItemsAt w w.heap.size m sb b.items) (hc : ItemsAt w w.heap.size k sc c.items) :
    Calls Tryz.prog 6 #[.agg (vcells a sa), .agg (vcells b sb), .agg (vcells c sc)] w fun e w' => e = .returned (.bool true) ∧ Below w.heap.size w w' := by
  obtain ⟨W, hW⟩ : ∃ W, ((w.alloc (.cells (vcells a sa) 25)).alloc (.cells (vcells b sb) 25)).alloc (.cells (vcells c sc) 25) = W := ⟨_, rfl⟩
  have bW : Below w.heap.size w W := by rw [← hW]; exact alloc_v (alloc_v (alloc_v (Below.refl _ _) _) _) _
  have e1 : W.heap[w.heap.size]? = some (.cells (vcells a sa) 25 (0, 0)) := by rw [← hW]; exact (Below.heap_alloc _ _ _ (by simp; omega)).trans ((Below.heap_alloc _ _ _ (by simp)).trans (World.alloc_heap_new w _))
  have e2 : W.heap[w.heap.size + 1]? = some (.cells (vcells b sb) 25 (0, 0)) := by
    rw [← hW]
    have := World.alloc_heap_new (w.alloc (.cells (vcells a sa) 25)) (.cells (vcells b sb) 25)
    rw [World.size_alloc] at this
    exact (Below.heap_alloc _ _ _ (by simp)).trans this
  have e3 : W.heap[w.heap.size + 1 + 1]? = some (.cells (vcells c sc) 25 (0, 0)) := by
    rw [← hW]
    have := World.alloc_heap_new ((w.alloc (.cells (vcells a sa) 25)).alloc (.cells (vcells b sb) 25)) (.cells (vcells c sc) 25)
    rwa [World.size_alloc, World.size_alloc] at this
  obtain ⟨q0, hq⟩ : ∃ q0 : Wv W, q0.val = W := ⟨⟨W, Below.refl _ _⟩, rfl⟩
  rw [← hq] at hW
  have a0 := fun q : Wv W => q.cell (cells_at e1 0 _ rfl)
  have a1 := fun q : Wv W => q.cell (cells_at e1 1 _ rfl)
  have a2 := fun q : Wv W => q.cell (cells_at e1 2 _ rfl)
  have a3 := fun q : Wv W => q.cell (cells_at e1 3 _ rfl)
  have a4 := fun q : Wv W => q.cell (cells_at e1 4 _ rfl)
  have b0 := fun q : Wv W => q.cell (cells_at e2 0 _ rfl)
  have b1 := fun q : Wv W => q.cell (cells_at e2 1 _ rfl)
  have b2 := fun q : Wv W => q.cell (cells_at e2 2 _ rfl)
  have b3 := fun q : Wv W => q.cell (cells_at e2 3 _ rfl)
  have b4 := fun q : Wv W => q.cell (cells_at e2 4 _ rfl)
  have c0 := fun q : Wv W => q.cell (cells_at e3 0 _ rfl)
  have c1 := fun q : Wv W => q.cell (cells_at e3 1 _ rfl)
  have c2 := fun q : Wv W => q.cell (cells_at e3 2 _ rfl)
  have c3 := fun q : Wv W => q.cell (cells_at e3 3 _ rfl)
  have c4 := fun q : Wv W => q.cell (cells_at e3 4 _ rfl)
  have up := fun q : Wv W => trans_v bW q.below
  have HKA := hide (fun q : Wv W => Wv.calls q (check_k a q.val n sa (hT.below (up q)) hta.1 ((ha.below (up q)).up (up q).size)))
  have HKB := hide (fun q : Wv W => Wv.calls q (check_k b q.val m sb (hT.below (up q)) htb.1 ((hb.below (up q)).up (up q).size)))
  have HKC := hide (fun q : Wv W => Wv.calls q (check_k c q.val k sc (hT.below (up q)) htc.1 ((hc.below (up q)).up (up q).size)))
  have HAB := hide (fun q : Wv W => Wv.calls q (compare_k a b q.val n m sa sb (hT.below (up q)) hta.1 htb.1 ((ha.below (up q)).up (up q).size) ((hb.below (up q)).up (up q).size)))
  have HBC := hide (fun q : Wv W => Wv.calls q (compare_k b c q.val m k sb sc (hT.below (up q)) htb.1 htc.1 ((hb.below (up q)).up (up q).size) ((hc.below (up q)).up (up q).size)))
  have HAC := hide (fun q : Wv W => Wv.calls q (compare_k a c q.val n k sa sc (hT.below (up q)) hta.1 htc.1 ((ha.below (up q)).up (up q).size) ((hc.below (up q)).up (up q).size)))
  have HBA := hide (fun q : Wv W => Wv.calls q (compare_k b a q.val m n sb sa (hT.below (up q)) htb.1 hta.1 ((hb.below (up q)).up (up q).size) ((ha.below (up q)).up (up q).size)))
  have HAA := hide (fun q : Wv W => Wv.calls q (compare_k a a q.val n n sa sa (hT.below (up q)) hta.1 hta.1 ((ha.below (up q)).up (up q).size) ((ha.below (up q)).up (up q).size)))
  have HL := hide (fun q : Wv W => Wv.calls q (alike_k n a b q.val w.heap.size m sa sb (up q).size (ha.below (up q)) (hb.below (up q))))
  have HA := hide (fun q : Wv W => Wv.calls q (alive4_k q.val (hT.below (up q))))
  have hany := Wv.any W
  obtain ⟨xx1, yy1, rfl, _⟩ := ha.len
  obtain ⟨xx2, yy2, rfl, _⟩ := hb.len
  obtain ⟨xx3, yy3, rfl, _⟩ := hc.len
  have h3 := three_ord a b c
  unfold cmpV at HAB HBC HAC HBA HAA
  rw [ordV_anti a b] at HBA
  rw [ordV_self a] at HAA
  clear e1 e2 e3 ha hb hc hT up hq
  have fin := hide (fun q : Wv W => trans_v bW q.below)
  generalize ordV a b = x at *
  generalize ordV b c = y at *
  generalize ordV a c = z at *
  generalize rightV a = ra at *
  generalize rightV b = rb at *
  generalize rightV c = rc at *
  obtain ⟨k1, i1, m1, t1, l1⟩ := a
  obtain ⟨k2, i2, m2, t2, l2⟩ := b
  obtain ⟨k3, i3, m3, t3, l3⟩ := c
  simp only at *
  cases ra
  · go_enter Tryz.func6, Tryz.ntmps6
    go_wp2_with (go_at_call 11; refine (HKA.out _).mono ?_; rintro e w1 ⟨rfl, q1, rfl⟩)
    go_wp2_with (first
      | (go_at_call 10; refine (num4_k _ _).mono ?_; rintro e wq ⟨rfl, rfl⟩)
      | (go_at_call 16; refine (HA.out _).mono ?_; rintro e w1 ⟨rfl, q1, rfl⟩))
    go_ret
    exact ⟨rfl, fin.out _⟩
  · cases rb
    · go_enter Tryz.func6, Tryz.ntmps6
      go_wp2_with (go_at_call 11; refine (HKA.out _).mono ?_; rintro e w1 ⟨rfl, q1, rfl⟩)
      go_wp2_with (first
        | (go_at_call 10; refine (num4_k _ _).mono ?_; rintro e wq ⟨rfl, rfl⟩)
        | (go_at_call 11; refine (HKB.out _).mono ?_; rintro e w1 ⟨rfl, q1, rfl⟩)
        | (go_at_call 16; refine (HA.out _).mono ?_; rintro e w1 ⟨rfl, q1, rfl⟩))
      go_ret
      exact ⟨rfl, fin.out _⟩
    · cases rc
      · go_enter Tryz.func6, Tryz.ntmps6
        go_wp2_with (go_at_call 11; refine (HKA.out _).mono ?_; rintro e w1 ⟨rfl, q1, rfl⟩)
        go_wp2_with (first
          | (go_at_call 10; refine (num4_k _ _).mono ?_; rintro e wq ⟨rfl, rfl⟩)
          | (go_at_call 11; (first | (with_reducible refine (HKB.out _).mono ?_) | (with_reducible refine (HKC.out _).mono ?_)); rintro e w1 ⟨rfl, q1, rfl⟩)
          | (go_at_call 16; refine (HA.out _).mono ?_; rintro e w1 ⟨rfl, q1, rfl⟩))
        go_ret
        exact ⟨rfl, fin.out _⟩
      · simp only [if_true] at HAB HBC HAC HBA HAA
        go_enter Tryz.func6, Tryz.ntmps6
        go_wp2_with (go_at_call 11; refine (HKA.out _).mono ?_; rintro e w1 ⟨rfl, q1, rfl⟩)
        go_wp2_with (first
          | (go_at_call 10; refine (num4_k _ _).mono ?_; rintro e wq ⟨rfl, rfl⟩)
          | (go_at_call 11; (first | (with_reducible refine (HKB.out _).mono ?_) | (with_reducible refine (HKC.out _).mono ?_)); rintro e w1 ⟨rfl, q1, rfl⟩))
        refine wp_region_grown_in _ (by kernel_rfl) (by kernel_rfl) ?_
        repeat (go_big_quiet_step ((go_at_call 27; first | with_reducible exact (HAB.out _) | with_reducible exact (HBC.out _) | with_reducible exact (HAC.out _))))
        refine wpQuiet_nil ?_
        intro w1 hw'
        obtain ⟨q, rfl⟩ := hw'
        clear HKA HKB HKC HAB HBC HAC
        obtain ⟨hx, hy, hz, z1, z2, z3, z4⟩ := h3
        rcases hx with rfl | rfl | rfl <;> rcases hy with rfl | rfl | rfl <;> rcases hz with rfl | rfl | rfl <;> first
          | (exfalso; simp at z1; done)
          | (exfalso; simp at z2; done)
          | (exfalso; simp at z3; done)
          | (exfalso; simp at z4; done)
          | (clear z1 z2 z3 z4
             go_wp2_with (first
               | (go_at_call 27; (first | (with_reducible refine (HBA.out _).mono ?_) | (with_reducible refine (HAA.out _).mono ?_)); rintro e w1 ⟨rfl, q1, rfl⟩)
               | (go_at_call 21; refine (HL.out _).mono ?_; rintro e w1 ⟨rfl, q1, rfl⟩)
               | (go_at_call 16; refine (HA.out _).mono ?_; rintro e w1 ⟨rfl, q1, rfl⟩))
             go_ret
             exact ⟨rfl, fin.out _⟩)
end Go.Proofs.YtdpkcnpifpeflaaGreatDoor
