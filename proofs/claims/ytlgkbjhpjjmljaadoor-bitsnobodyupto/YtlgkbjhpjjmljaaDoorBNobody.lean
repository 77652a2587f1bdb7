/- The statement on sets that no call made. -/
import Derived.Test.YtlgkbjhpjjmljaaDoorBHeads
import Derived.Test.YtlgkbjhpjjmljaaDoorBWithin
namespace Go.Proofs.YtlgkbjhpjjmljaaDoor
open Go.RowKit
attribute [local go_sem] Oper.semAt_some

theorem NoSet.below {w w' : World} {v : Value} (h : NoSet w v) (hb : Below w.heap.size w w') : NoSet w' v := by
  rcases h with h | ⟨b, h, hc⟩
  · exact .inl h
  · exact .inr ⟨b, h, (hb.cell (World.block_lt_of_cell? w _ hc)).trans hc⟩
theorem NoSet.ptr {w : World} {v : Value} (h : NoSet w v) : ∃ p, v = .pointer p := by
  rcases h with h | ⟨b, h, _⟩ <;> exact ⟨_, h⟩

set_option maxRecDepth 100000 in
set_option maxHeartbeats 2000000 in
theorem all_none (n : Nat) (sb : Nat) (v : Value) (w : World) (K : Blocks) (hsb : Boxed w sb 23 v) (hno : NoSet w v) :
    SeqP n Tryd.prog 53 #[.pointer (some ⟨sb, 0, none⟩)] natV K [] w := fun l J Jx W hWs hWlow hJ hJx hY h0 => by
  have hsbW : Boxed W sb 23 v := (hWlow sb hsb.lt).trans hsb
  have hnoW : NoSet W v := by
    rcases hno with h | ⟨b, h, hc⟩
    · exact .inl h
    · exact .inr ⟨b, h, (World.cell?_of_block (hWlow b (World.block_lt_of_cell? w _ hc))).trans hc⟩
  have hc := hsbW.cell
  obtain ⟨p, rfl⟩ := hno.ptr
  have HWo := hide (words_no hnoW)
  clear hWs hWlow hnoW hno hsb hsbW
  refine callsIn_of_wp Tryd.func53 rfl trivial ?_ rfl
  simp only [Tryd.ntmps53, List.size_toArray, List.length_cons, List.length_nil, Nat.reduceAdd, Nat.reduceSub, Array.replicate_succ, Array.replicate_zero, List.push_toArray, List.append_toArray, List.nil_append, List.cons_append]
  gi_wp2_with (refine ⟨trivial, (fun h => by cases h), ?_⟩; gi_at_call 29; refine (callsIn_wide.2 HWo.out).mono ?_; rintro e w1 ⟨rfl, rfl⟩)
  gi_loopw [3, 4, 8] (fun _ _ i wr => i = .int .i64 0 ∧ wr = W) (fun _ _ _ _ => 0)
  case atStart => exact ⟨rfl, rfl⟩
  case round =>
    obtain ⟨rfl, rfl⟩ := hrel
    gi_wp2
    go_end0
    exact ⟨⟨_, rfl⟩, .inl ⟨_, h0⟩⟩

set_option maxRecDepth 100000 in
set_option maxHeartbeats 4000000 in
theorem nobody_k (v : Value) (i : Int) (w : World) (hno : NoSet w v) :
    Calls Tryd.prog 27 #[v, .int .i64 i] w fun e w' => e = .returned (.bool true) ∧ Below w.heap.size w w' := by
  have hn1 := allNil
  obtain ⟨p, rfl⟩ := hno.ptr
  refine (callsIn_wide (n := 9)).1 ?_
  refine callsIn_of_wp_marks Tryd.func27 rfl trivial ?_ rfl
  simp only [Tryd.ntmps27, List.size_toArray, List.length_cons, List.length_nil, Nat.reduceAdd, Nat.reduceSub, Array.replicate_succ, Array.replicate_zero, List.push_toArray, List.append_toArray, List.nil_append, List.cons_append]
  gi_wp2_with (refine ⟨trivial, ?_⟩; gi_at_call 30; refine (callsIn_wide.2 (allMake_k _ _)).mono ?_; rintro e w1 ⟨rfl, rfl⟩)
  have bA := (Boxed.new w 23 (.pointer p)).alloc (.cells #[.int .i64 0] 3)
  have bN := Boxed.new (w.alloc (.cells #[.pointer p] 23)) 3 (.int .i64 0)
  rw [World.size_alloc] at bN
  have hB : Below w.heap.size w ((w.alloc (.cells #[.pointer p] 23)).alloc (.cells #[.int .i64 0] 3)) := ((Below.refl _ w).alloc (Nat.le_refl _) _).alloc (by simp) _
  obtain ⟨X1, hX1⟩ : ∃ X1, (w.alloc (.cells #[.pointer p] 23)).alloc (.cells #[.int .i64 0] 3) = X1 := ⟨_, rfl⟩
  have hz1 : X1.heap.size = w.heap.size + 1 + 1 := by rw [← hX1]; simp
  rw [hX1] at bA bN hB ⊢
  have hno1 := hno.below hB
  clear hX1 hn1
  refine seqp_law (gf := 53) (lb := #[.pointer (some ⟨w.heap.size, 0, none⟩)]) rfl (enters_of Tryd.func53 (by kernel_rfl) rfl) (K := fun _ => False) (fun k hk => hk.elim)
    (all_none _ _ _ X1 _ bA hno1) (fun _ _ _ _ h => by rw [h]; rfl)
    (fun (_ : List Nat) S W => Cn (w.heap.size + 1) X1 (fun _ => 0) ([] : List Nat) S W) (fun _ _ _ _ => False) ⟨fun _ => (Cn.own _ hz1).grown [], fun _ => (Cn.own _ hz1).claim []⟩ (fun _ => ownL_false _) ⟨bN, Below.refl _ _, fun _ h => h.elim⟩ ?round ?done ?stop
  case stop =>
    rintro c S pre x W _ h _
    exact h.elim
  case round =>
    rintro l pre x S vs W hC hS ⟨post, hpost⟩ _ _
    simp at hpost
  case done =>
    rintro S W ⟨hc1, hc2, _⟩ hK
    rw [hz1] at hK ⊢
    have hbW : Below w.heap.size w W := hB.trans (hc2.mono (by omega))
    have hnW := hno.below hbW
    have c6 := hc1.cell
    have H1 := hide (room_no hnW)
    have H2 := hide (put_no hnW i)
    have H3 := hide (drop_no hnW i)
    have H4 := hide (has_no hnW i)
    gi_wp2_with (first
      | (refine ⟨trivial, ?_⟩; gi_at_call 34; refine (callsIn_wide.2 H1.out).mono ?_; rintro e w1 ⟨rfl, rfl⟩)
      | (refine ⟨trivial, ?_⟩; gi_at_call 21; refine (callsIn_wide.2 H2.out).mono ?_; rintro e w1 ⟨rfl, rfl⟩)
      | (refine ⟨trivial, ?_⟩; gi_at_call 32; refine (callsIn_wide.2 H3.out).mono ?_; rintro e w1 ⟨rfl, rfl⟩)
      | (refine ⟨trivial, ?_⟩; gi_at_call 37; refine (callsIn_wide.2 H4.out).mono ?_; rintro e w1 ⟨rfl, nd, rfl⟩))
    clear H1 H2 H3 H4
    have hnD := hnW.drewN nd
    have H1 := hide (count_no hnD)
    have H2 := hide (words_no hnD)
    have H3 := hide (or_no hnD (.pointer p))
    have H4 := hide (and_no hnD (.pointer none))
    have H5 := hide (without_no hnD (.pointer p))
    have H6 := hide (within_no hnD (.pointer p))
    have H7 := hide (same_no hnD (.pointer p))
    gi_wp2_with (first
      | (refine ⟨trivial, ?_⟩; gi_at_call 26; refine (callsIn_wide.2 H1.out).mono ?_; rintro e w1 ⟨rfl, rfl⟩)
      | (refine ⟨trivial, ?_⟩; gi_at_call 29; refine (callsIn_wide.2 H2.out).mono ?_; rintro e w1 ⟨rfl, rfl⟩)
      | (refine ⟨trivial, ?_⟩; gi_at_call 25; refine (callsIn_wide.2 H3.out).mono ?_; rintro e w1 ⟨rfl, rfl⟩)
      | (refine ⟨trivial, ?_⟩; gi_at_call 24; refine (callsIn_wide.2 H4.out).mono ?_; rintro e w1 ⟨rfl, rfl⟩)
      | (refine ⟨trivial, ?_⟩; gi_at_call 23; refine (callsIn_wide.2 H5.out).mono ?_; rintro e w1 ⟨rfl, rfl⟩)
      | (refine ⟨trivial, ?_⟩; gi_at_call 13; refine (callsIn_wide.2 H6.out).mono ?_; rintro e w1 ⟨rfl, rfl⟩)
      | (refine ⟨trivial, ?_⟩; gi_at_call 15; refine (callsIn_wide.2 H7.out).mono ?_; rintro e w1 ⟨rfl, nd2, rfl⟩))
    clear H1 H2 H3 H4 H5 H6 H7
    have H8 := hide (copy_no (hnW.drewN (nd + nd2)))
    gi_wp2_with (refine ⟨trivial, ?_⟩; gi_at_call 22; refine (callsIn_wide.2 H8.out).mono ?_; clear H8; rintro e w1 ⟨rfl, rfl⟩)
    have hK2 : (W.drewN (nd + nd2)).heap[w.heap.size + 1 + 1]? = some (.deferred (some [])) := hK
    have hb2 : Below w.heap.size w (W.drewN (nd + nd2)) := ⟨hbW.os, hbW.tape, hbW.output, hbW.size, hbW.block⟩
    refine ⟨by simp, .inl ⟨_, _, rfl, run_takeDeferred hK2, ?_⟩⟩
    exact ⟨_, results_tmp rfl _ _ _, rfl, hb2.trans (belowK_b (w := w) (Nat.le_refl _) _ _ _ _ (by omega) hK2 rfl rfl)⟩

set_option maxRecDepth 100000 in
set_option maxHeartbeats 2000000 in
theorem bitsNobody_walk (i : Int) (w : World) (ht : Tab w) :
    Calls Tryd.prog 7 #[.int .i64 i] w fun e w' => e = .returned (.bool true) ∧ Below w.heap.size w w' := by
  have HN1 := hide (nobody_k (.pointer none) i w (.inl rfl))
  go_enter Tryd.func7, Tryd.ntmps7
  go_wp2_with (go_at_call 27; refine HN1.out.mono ?_; clear HN1; rintro e w1 ⟨rfl, b1⟩; have HN2 := hide (nobody_k (.pointer (some ⟨w1.heap.size, 0, none⟩)) i (w1.alloc (.cells #[.bool false, .int .i64 0, .slice none 0 0] 64)) (.inr ⟨_, rfl, by simp⟩)))
  go_wp2_with (go_at_call 27; refine HN2.out.mono ?_; clear HN2; rintro e w2 ⟨rfl, b2⟩)
  have b12 : Below w.heap.size w w2 := (b1.alloc b1.size _).trans (b2.mono (by simp; have := b1.size; omega))
  have HH := hide (heads_k w2 (ht.below b12 ht.lt))
  go_wp2_with (go_at_call 10; refine HH.out.mono ?_; clear HH; rintro e w3 ⟨rfl, b3⟩)
  go_ret
  exact ⟨rfl, b12.trans (b3.mono b12.size)⟩
end Go.Proofs.YtlgkbjhpjjmljaaDoor
