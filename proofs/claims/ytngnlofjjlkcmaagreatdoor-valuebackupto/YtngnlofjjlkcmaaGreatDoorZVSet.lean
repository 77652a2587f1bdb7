/- Tuple, List, Set. -/
import Derived.Test.YtngnlofjjlkcmaaGreatDoorZVGather
namespace Go.Proofs.YtngnlofjjlkcmaaGreatDoor
open Go.RowKit

set_option maxRecDepth 100000 in
theorem set_bad (its : List Vl) (w : World) (n : Nat) (sl : Value) (hT : Tabs w) (hi : ItemsAt w w.heap.size (n + 2) sl its) (hb : ∃ x ∈ its, rightV x = false) :
    Calls Tryz.prog 21 #[sl] w fun e w' => e = .returned (.tuple #[.agg zcells, .int .i64 40]) ∧ Below w.heap.size w w' := by
  obtain ⟨W, hW⟩ : ∃ W, w.alloc (.cells zcells 26) = W := ⟨_, rfl⟩
  have bW : Below w.heap.size w W := by rw [← hW]; exact alloc_v (Below.refl _ _) _
  have e1 : W.heap[w.heap.size]? = some (.cells zcells 26 (0, 0)) := by rw [← hW]; exact World.alloc_heap_new w _
  have zW : w.heap.size < W.heap.size := (Array.getElem?_eq_some_iff.1 e1).1
  have HE1 := hide e1
  have HG := hide (gather_bad 7 its W n sl (hT.below bW) ((hi.below bW).up bW.size) hb)
  obtain ⟨a, c, rfl, _⟩ := hi.len
  clear hi hT e1 hb
  go_enter Tryz.func21, Tryz.ntmps21
  go_wp2_with (go_at_call 40; refine HG.out.mono ?_; clear HG; rintro e w2 ⟨rfl, b2⟩; have f2 := (b2.block _ zW).trans HE1.out; have G := hide f2; have y0 := cells_at f2 0 _ rfl; have y1 := cells_at f2 1 _ rfl; have y2 := cells_at f2 2 _ rfl; have y3 := cells_at f2 3 _ rfl; have y4 := cells_at f2 4 _ rfl; have q0 := frozen_at f2 0; have q1 := frozen_at f2 1; have q2 := frozen_at f2 2; have q3 := frozen_at f2 3; have q4 := frozen_at f2 4; have B2 := hide b2; clear f2 b2)
  have g := stored w w2 0 0 0 ⟨#[]⟩ (.slice none 0 0) zcells w.heap.size (Nat.le_refl _) (trans_v bW B2.out) rfl G.out
  refine bodyPost_ret (results_struct_tmp rfl _ _ w.heap.size _ _ _ _ rfl g.1 Tryz.underlying26 rfl infoVal5) rfl ?_
  exact ⟨rfl, g.2⟩
set_option maxRecDepth 100000 in
theorem set_k (its : List Vl) (w : World) (n : Nat) (sl : Value) (hT : Tabs w) (hi : ItemsAt w w.heap.size (n + 2) sl its) (h0 : its ≠ []) (hl : its.length ≤ 1000000000) (ha : ∀ x ∈ its, rightV x = true) (hsz : ∀ s : List Vl, s.Perm its → (⟨7, 0, 0, ⟨#[]⟩, dd likeV s⟩ : Vl).size ≤ 1000000000) :
    Calls Tryz.prog 21 #[sl] w fun e w' => ∃ s s', s.Perm its ∧ s.Pairwise (fun x y => ordV x y ≤ 0) ∧ e = .returned (.tuple #[.agg (bif rightV ⟨7, 0, 0, ⟨#[]⟩, (dd likeV s)⟩ then vcells ⟨7, 0, 0, ⟨#[]⟩, (dd likeV s)⟩ s' else zcells), .int .i64 (bif rightV ⟨7, 0, 0, ⟨#[]⟩, (dd likeV s)⟩ then 0 else 42)]) ∧ (rightV ⟨7, 0, 0, ⟨#[]⟩, (dd likeV s)⟩ = true → ItemsIn w' (fun b => w.heap.size < b ∧ b < w'.heap.size) (n + 2) s' (dd likeV s)) ∧ Below w.heap.size w w' := by
  obtain ⟨W, hW⟩ : ∃ W, w.alloc (.cells zcells 26) = W := ⟨_, rfl⟩
  have bW : Below w.heap.size w W := by rw [← hW]; exact alloc_v (Below.refl _ _) _
  have e1 : W.heap[w.heap.size]? = some (.cells zcells 26 (0, 0)) := by rw [← hW]; exact World.alloc_heap_new w _
  have zW : w.heap.size < W.heap.size := (Array.getElem?_eq_some_iff.1 e1).1
  have HE1 := hide e1
  have HG := hide (gather_set its W n sl (hT.below bW) ((hi.below bW).up bW.size) h0 hl ha hsz)
  obtain ⟨a, c, rfl, _⟩ := hi.len
  clear hi hT e1 h0 hl ha hsz
  go_enter Tryz.func21, Tryz.ntmps21
  go_wp2_with (go_at_call 40; refine HG.out.mono ?_; clear HG; rintro e w2 ⟨s, s2, hp, hs, rfl, i2, b2⟩; have I2 := hide i2; clear i2; generalize hx : rightV ⟨7, 0, 0, ⟨#[]⟩, (dd likeV s)⟩ = x at *; have HX := hide hx; clear hx; have f2 := (b2.block _ zW).trans HE1.out; have G := hide f2; have y0 := cells_at f2 0 _ rfl; have y1 := cells_at f2 1 _ rfl; have y2 := cells_at f2 2 _ rfl; have y3 := cells_at f2 3 _ rfl; have y4 := cells_at f2 4 _ rfl; have q0 := frozen_at f2 0; have q1 := frozen_at f2 1; have q2 := frozen_at f2 2; have q3 := frozen_at f2 3; have q4 := frozen_at f2 4; have B2 := hide b2; clear f2 b2; cases x; rotate_left; obtain ⟨a2, c2, rfl, _⟩ := (I2.out rfl).len)
  · have g := stored w w2 7 0 0 ⟨#[]⟩ (.slice a2 (dd likeV s).length c2) zcells w.heap.size (Nat.le_refl _) (trans_v bW B2.out) rfl G.out
    refine bodyPost_ret (results_struct_tmp rfl _ _ w.heap.size _ _ _ _ rfl g.1 Tryz.underlying26 rfl infoVal5) rfl ?_
    exact ⟨s, .slice a2 (dd likeV s).length c2, hp, hs, by rw [HX.out]; rfl, fun _ => (I2.out trivial).kept (fun b o hb => stored_cell _ _ _ _ _ _ _ _ _ (by have := hb.1; omega)) (fun b hb => ⟨by have := hb.1; omega, by simpa using hb.2⟩), g.2⟩
  · have g := stored w w2 0 0 0 ⟨#[]⟩ (.slice none 0 0) zcells w.heap.size (Nat.le_refl _) (trans_v bW B2.out) rfl G.out
    refine bodyPost_ret (results_struct_tmp rfl _ _ w.heap.size _ _ _ _ rfl g.1 Tryz.underlying26 rfl infoVal5) rfl ?_
    exact ⟨s, .slice none 0 0, hp, hs, by rw [HX.out]; rfl, fun h => (by rw [HX.out] at h; cases h), g.2⟩
end Go.Proofs.YtngnlofjjlkcmaaGreatDoor
