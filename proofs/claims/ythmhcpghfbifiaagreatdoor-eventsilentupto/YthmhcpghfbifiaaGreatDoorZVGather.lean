/- gather: Tuple, List, Set. -/
import Derived.Test.YthmhcpghfbifiaaGreatDoorGE6
namespace Go.Proofs.YthmhcpghfbifiaaGreatDoor
open Go.RowKit

theorem stored_cell (W : World) (b b' o : Nat) (v0 v1 v2 v3 v4 : Value) (h : b' ≠ b) :
    (((((W.setCell ⟨b, 0, none⟩ v0).setCell ⟨b, 1, none⟩ v1).setCell ⟨b, 2, none⟩ v2).setCell ⟨b, 3, none⟩ v3).setCell ⟨b, 4, none⟩ v4).cell? ⟨b', o, none⟩ = W.cell? ⟨b', o, none⟩ := by
  refine World.cell?_of_block ?_
  rw [Below.heap_setCell _ _ _ _ h, Below.heap_setCell _ _ _ _ h, Below.heap_setCell _ _ _ _ h, Below.heap_setCell _ _ _ _ h, Below.heap_setCell _ _ _ _ h]
/-- distinct, by the items. -/
theorem distinct_items (w : World) (B n : Nat) (sl : Value) (its : List Vl) (hi : ItemsAt w B (n + 2) sl its) (h0 : its ≠ []) (hl : its.length ≤ 1000000000) (hB : B ≤ w.heap.size) :
    Calls Tryz.prog 121 #[sl] w fun e w' => ∃ s sl2, s.Perm its ∧ s.Pairwise (fun x y => ordV x y ≤ 0) ∧ e = .returned sl2 ∧ ItemsAt w' w'.heap.size (n + 2) sl2 (dd likeV s) ∧ Below w.heap.size w w' := by
  obtain ⟨a, c, rfl, _⟩ := hi.len
  obtain ⟨l, h1, h2⟩ := hi.evs
  have hlen : its.length = l.length := by rw [← h1, List.length_map]
  have hpos : 0 < l.length := by
    rw [← hlen]
    exact List.length_pos_iff.2 h0
  obtain ⟨b, off, rfl, _, _⟩ := h2 0 hpos
  have := distinct_k w B n ⟨b, off, none⟩ c l hpos (by omega) hB fun j hj => by
    obtain ⟨b', off', e, hb, hc⟩ := h2 j hj
    cases e
    exact ⟨rfl, hb, hc⟩
  rw [h1, ← hlen] at this
  exact this
end Go.Proofs.YthmhcpghfbifiaaGreatDoor
