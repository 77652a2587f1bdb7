/- does: a set of a set's own words. -/
import Derived.Test.YtfagjejknnkhdaaDoorBDoesCopy
import Derived.Test.YtfagjejknnkhdaaDoorBOf
namespace Go.Proofs.YtfagjejknnkhdaaDoor
open Go.RowKit

theorem bey_of_rel {ws : List Nat} {bs : List Bool} {n : Nat} (h : Rel ws bs) (hl : bs.length = n) : bey n ws = false := by
  cases hb : bey n ws
  · rfl
  · obtain ⟨i, h1, h2, h3⟩ := bey_no (by rw [h.len, hl]) h.fit hb
    rw [h.bit i h2] at h3
    have : bs.getD i false = false := by simp [show ¬ i < bs.length by omega]
    rw [this] at h3
    cases h3
set_option maxRecDepth 100000 in
set_option maxHeartbeats 4000000 in
theorem does_words {L : Nat} {W : World} {sr tr : Nat} {s : Nat → Side} (h : Two L W sr tr s) (hL : L ≤ W.heap.size) (k o : Nat) (hk : k < 2) (on x : Int) (ot : Bool) :
    Calls Tryd.prog 7 #[.slice (some ⟨sr, 0, none⟩) 2 2, .slice (some ⟨tr, 0, none⟩) 2 2, .agg #[.int .i64 7, .int .i64 on, .int .i64 x, .bool ot], .int .i64 (k : Int), .int .i64 (o : Int)] W fun e W' => e = .returned (.bool true) ∧
      ∃ s', Two L W' sr tr s' ∧ (∀ j, (s' j).n = (s j).n) ∧ Below L W W' ∧ KeepC W W' := by
  obtain ⟨W1, hW1⟩ : ∃ W1, W.alloc (.cells #[.int .i64 7, .int .i64 on, .int .i64 x, .bool ot] 37) = W1 := ⟨_, rfl⟩
  have b1 : Below W.heap.size W W1 := by rw [← hW1]; exact (Below.refl _ _).alloc (Nat.le_refl _) _
  have h1 := h.below b1
  have hL1 : L ≤ W1.heap.size := Nat.le_trans hL b1.size
  have hx : W1.heap[W.heap.size]? = some (.cells #[.int .i64 7, .int .i64 on, .int .i64 x, .bool ot] 37 (0, 0)) := by rw [← hW1]; exact World.alloc_heap_new _ _
  have c0 : W1.cell? ⟨W.heap.size, 0, none⟩ = some (.int .i64 7) := by simp [World.cell?, hx]
  have BL := hide (b1.mono hL)
  have KB := hide (keepC_below b1)
  obtain ⟨d1, _⟩ := h1.ptr k hk
  have l1 := World.block_lt_of_cell? W1 _ d1
  have hA := h1.each k hk
  have p0 : (0 : Int) ≤ (k : Int) := by omega
  have p1 : (k : Int) < 2 := by omega
  have HRM := hide (room_k (hA.set.drewN 1))
  have HWD := hide (words_k (hA.set.drewN 1))
  have HOF := hide (fun (U : World) (b gw cw : Nat) (hr : U.ownsRow b 56 1 (.slice (some ⟨gw, 0, none⟩) (s k).ws.length cw) (s k).ws.length (u64s (s k).ws)) => of_k hr (n := (s k).n) (by rw [hA.rel.len, hA.len]) hA.set.room hA.set.fit (bey_of_rel hA.rel hA.len))
  have HCL := hide (fun (U : World) (hb : Below W1.heap.size W1 U) => (hb.cell l1).trans d1)
  have H1 := hide h1
  clear h1 h hx b1 hA
  go_enter Tryd.func7, Tryd.ntmps7
  go_wp2
  clear hW1 c0
  go_region_held3 (fun w' => w'.cell? ⟨sr, k, none⟩ = some (.pointer (some ⟨(s k).sb, 0, none⟩)))
    (first | go_keep | exact HCL.out _ B2.out | exact HCL.out _ B3.out)
    (first
      | ((go_at_call 25; refine HRM.out.mono ?_; rintro e w2 ⟨rfl, rfl⟩))
      | ((go_at_call 14; refine HWD.out.mono ?_; rintro e w2 ⟨gw, cw, rfl, r2, b2⟩; have R2 := hide r2; have B2 : Hid (Below W1.heap.size W1 w2) := hide ⟨b2.os, b2.tape, b2.output, b2.size, b2.block⟩; clear r2 b2))
      | ((go_at_call 24; refine (HOF.out _ _ _ _ R2.out).mono ?_; rintro e w3 ⟨rfl, s3, b3⟩; have S3 := hide s3; have Z2 := hide B2.out.size; have B3 : Hid (Below W1.heap.size W1 w3) := hide (B2.out.trans (b3.mono B2.out.size)); clear s3 b3)))
  obtain ⟨d2, d3, d4, F3⟩ := H1.out.copied hL1 k hk B3.out S3.out (by have := Z2.out; omega) Z2.out
  go_wp2
  go_ret
  refine ⟨rfl, _, F3.out.2.1, fun j => by unfold upd; split <;> simp_all, ?_⟩
  have lsr := (H1.out.srow.lt sr rfl).1
  exact ⟨below_gr (BL.out.trans (B3.out.mono hL1)) F3.out.2.2.1 lsr hL, (KB.out.trans (keepC_below B3.out)).trans (keepC_row F3.out.2.2.1 (H1.out.below B3.out).srow (by decide))⟩
end Go.Proofs.YtfagjejknnkhdaaDoor
