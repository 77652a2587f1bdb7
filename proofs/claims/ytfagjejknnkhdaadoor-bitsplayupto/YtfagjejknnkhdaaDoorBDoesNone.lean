/- does: no set is handed in. -/
import Derived.Test.YtfagjejknnkhdaaDoorBDoes
namespace Go.Proofs.YtfagjejknnkhdaaDoor
open Go.RowKit

set_option maxRecDepth 100000 in
set_option maxHeartbeats 4000000 in
theorem does_none {L : Nat} {W : World} {sr tr : Nat} {s : Nat → Side} (h : Two L W sr tr s) (hL : L ≤ W.heap.size) (k o : Nat) (hk : k < 2) (on x : Int) (ot : Bool) :
    Calls Tryd.prog 7 #[.slice (some ⟨sr, 0, none⟩) 2 2, .slice (some ⟨tr, 0, none⟩) 2 2, .agg #[.int .i64 8, .int .i64 on, .int .i64 x, .bool ot], .int .i64 (k : Int), .int .i64 (o : Int)] W fun e W' => e = .returned (.bool true) ∧
      ∃ s', Two L W' sr tr s' ∧ (∀ j, (s' j).n = (s j).n) ∧ Below L W W' ∧ KeepC W W' := by
  obtain ⟨W1, hW1⟩ : ∃ W1, W.alloc (.cells #[.int .i64 8, .int .i64 on, .int .i64 x, .bool ot] 37) = W1 := ⟨_, rfl⟩
  have b1 : Below W.heap.size W W1 := by rw [← hW1]; exact (Below.refl _ _).alloc (Nat.le_refl _) _
  have h1 := h.below b1
  have hx : W1.heap[W.heap.size]? = some (.cells #[.int .i64 8, .int .i64 on, .int .i64 x, .bool ot] 37 (0, 0)) := by rw [← hW1]; exact World.alloc_heap_new _ _
  have c0 : W1.cell? ⟨W.heap.size, 0, none⟩ = some (.int .i64 8) := by simp [World.cell?, hx]
  have BL := hide (b1.mono hL)
  have KB := hide (keepC_below b1)
  have H1 := hide h1
  have p0 : (0 : Int) ≤ (k : Int) := by omega
  have p1 : (k : Int) < 2 := by omega
  obtain ⟨W2, hW2⟩ : ∃ W2, W1.alloc (.cells #[.bool false, .int .i64 0, .slice none 0 0] 46) = W2 := ⟨_, rfl⟩
  have b2 : Below W1.heap.size W1 W2 := by rw [← hW2]; exact (Below.refl _ _).alloc (Nat.le_refl _) _
  have h2 := h1.below b2
  have hz : W2.heap[W1.heap.size]? = some (.cells #[.bool false, .int .i64 0, .slice none 0 0] 46 (0, 0)) := by rw [← hW2]; exact World.alloc_heap_new _ _
  have hA := (h2.each k hk).set
  obtain ⟨d1, _⟩ := h2.ptr k hk
  have HSET := hide (fun (U : World) (hU : U.heap = W2.heap) => SetAt.same (W := U) hA (fun j _ => by rw [hU]))
  have HZ := hide (fun (U : World) (hU : U.heap = W2.heap) => (show NoSet U (.pointer (some ⟨W1.heap.size, 0, none⟩)) from .inr ⟨_, rfl, by simp [World.cell?, hU, hz]⟩))
  have HNIL := hide (fun (U : World) => (show NoSet U (.pointer none) from .inl rfl))
  have HD := hide (fun (U : World) (hU : U.heap = W2.heap) => (show U.cell? ⟨sr, k, none⟩ = some (.pointer (some ⟨(s k).sb, 0, none⟩)) by rw [← d1]; simp only [World.cell?, hU]))
  have H2 := hide h2
  have B2 := hide (BL.out.trans (b2.mono (Nat.le_trans hL b1.size)))
  have KB2 := hide (KB.out.trans (keepC_below b2))
  clear h1 h hx b1 b2 h2 hz hA H1
  go_enter Tryd.func7, Tryd.ntmps7
  go_wp2_with (first
    | ((go_at_call 19; refine (or_t (HSET.out _ (by rfl)) (HNIL.out _)).mono ?_; rintro e w2 ⟨rfl, m1, rfl⟩; have dd1 := HD.out (W2.drewN m1) rfl))
    | ((go_at_call 21; refine (and_t (HSET.out _ (by rfl)) (HZ.out _ (by rfl))).mono ?_; rintro e w2 ⟨rfl, m2, rfl⟩; have dd2 := HD.out ((W2.drewN m1).drewN m2) rfl))
    | ((go_at_call 22; refine (without_t (HSET.out _ (by rfl)) (HNIL.out _)).mono ?_; rintro e w2 ⟨rfl, m3, rfl⟩; have dd3 := HD.out (((W2.drewN m1).drewN m2).drewN m3) rfl))
    | ((go_at_call 9; refine (within_t (HSET.out _ (by rfl)) (HZ.out _ (by rfl))).mono ?_; rintro e w2 ⟨rfl, m4, rfl⟩; have dd4 := HD.out ((((W2.drewN m1).drewN m2).drewN m3).drewN m4) rfl))
    | ((go_at_call 11; refine (same_t (HSET.out _ (by rfl)) (HNIL.out _)).mono ?_; rintro e w2 ⟨rfl, m5, rfl⟩)))
  go_ret
  refine ⟨rfl, s, ?_, fun _ => rfl, ?_⟩
  · exact H2.out.drewN _
  · exact ⟨below_drewN B2.out _, fun b cs h => KB2.out b cs h⟩
end Go.Proofs.YtfagjejknnkhdaaDoor
