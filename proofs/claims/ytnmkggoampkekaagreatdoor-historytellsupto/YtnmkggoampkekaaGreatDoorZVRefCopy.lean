/- The reference's copied and Copy. -/
import Derived.Test.YtnmkggoampkekaaGreatDoorZVCopied
import Derived.Test.YtnmkggoampkekaaGreatDoorGRefR
namespace Go.Proofs.YtnmkggoampkekaaGreatDoor
open Go.RowKit

theorem stored_cellR (W : World) (b b' o : Nat) (v0 v1 v2 v3 v4 : Value) (h : b' ≠ b) :
    (((((W.setCell ⟨b, 0, none⟩ v0).setCell ⟨b, 1, none⟩ v1).setCell ⟨b, 2, none⟩ v2).setCell ⟨b, 3, none⟩ v3).setCell ⟨b, 4, none⟩ v4).cell? ⟨b', o, none⟩ = W.cell? ⟨b', o, none⟩ := by
  refine World.cell?_of_block ?_
  rw [Below.heap_setCell _ _ _ _ h, Below.heap_setCell _ _ _ _ h, Below.heap_setCell _ _ _ _ h, Below.heap_setCell _ _ _ _ h, Below.heap_setCell _ _ _ _ h]
def RCopyC (n : Nat) : Prop := ∀ (v : Vl) (w : World) (B : Nat) (sl : Value), v.size ≤ 1000000000 → B ≤ w.heap.size → ItemsAt w B n sl v.items →
  Calls Tryz.prog 53 #[.agg (vcells v sl)] w fun e w' => ∃ s', e = .returned (.agg (vcells v s')) ∧ ItemsIn w' (fun b => w.heap.size ≤ b ∧ b < w'.heap.size) n s' v.items ∧ Below w.heap.size w w'
set_option maxRecDepth 100000 in
set_option maxHeartbeats 1000000 in
theorem refCopied_step {n : Nat} (hC : RCopyC n) : RCopyC (n + 1) := by
  intro v w B sl hv hB hi
  have HI := hide hi
  obtain ⟨a, c, rfl, hla⟩ := hi.len
  unfold maxLen at hla
  have HC0 := hide hC
  have HSZ := hide (fun (x : Vl) (hx : x ∈ v.items) => (show x.size ≤ 1000000000 from by have := Vl.size_item hx; omega))
  have HLN := hide (size_len v)
  have hln : v.items.length ≤ 1000000000 := by have := size_len v; omega
  obtain ⟨W, hW⟩ : ∃ W, (w.alloc (.cells (vcells v (.slice a v.items.length c)) 57)).alloc (.cells #[.int .i64 0, .int .i64 0, .int .i64 0, .string ⟨#[]⟩, .slice none 0 0] 57) = W := ⟨_, rfl⟩
  have bW : Below w.heap.size w W := by rw [← hW]; exact alloc_v (alloc_v (Below.refl _ _) _) _
  have e1 : W.heap[w.heap.size]? = some (.cells (vcells v (.slice a v.items.length c)) 57 (0, 0)) := by rw [← hW]; exact (Below.heap_alloc _ _ _ (by simp)).trans (World.alloc_heap_new w _)
  have e2 : W.heap[w.heap.size + 1]? = some (.cells #[.int .i64 0, .int .i64 0, .int .i64 0, .string ⟨#[]⟩, .slice none 0 0] 57 (0, 0)) := by rw [← hW]; have := World.alloc_heap_new (w.alloc (.cells (vcells v (.slice a v.items.length c)) 57)) (.cells #[.int .i64 0, .int .i64 0, .int .i64 0, .string ⟨#[]⟩, .slice none 0 0] 57); rwa [World.size_alloc] at this
  have zW : w.heap.size + 1 < W.heap.size := (Array.getElem?_eq_some_iff.1 e2).1
  have x4 := cells_at e1 4 _ rfl
  have HE1 := hide e1
  have HE2 := hide e2
  have HV := hide (HI.out.below (bW.mono hB))
  have hBW : B ≤ W.heap.size := by have := bW.size; omega
  clear hi hC e1 e2
  go_enter Tryz.func53, Tryz.ntmps53
  go_wp2
  clear hW x4
  go_loopw [3, 4] (fun o i wr => ∃ k : Nat, k ≤ v.items.length ∧ i = .int .i64 k ∧ OwnAt wr W.heap.size n o (v.items.take k) ∧ Below W.heap.size W wr) (fun _ i _ => v.items.length - (intOf i).toNat)
  case atStart => exact ⟨0, Nat.zero_le _, rfl, OwnAt.nil _ _ _, Below.refl _ _⟩
  case round =>
    obtain ⟨k, hk, rfl, hO, hbel⟩ := hrel
    have w4 := cells_at ((hbel.block _ (by omega)).trans HE1.out) 4 _ rfl
    by_cases hlt : k < v.items.length
    · obtain ⟨b1, o1, s1, rfl, g1, p0, p1, p2, p3, p4, p5, p6⟩ := (HV.out.below (hbel.mono hBW)).item k hlt
      have l1 : b1 < wr.heap.size := by have := hbel.size; omega
      have HC := hide (fun (U : World) (b : Below wr.heap.size wr U) => HC0.out v.items[k] U B s1 (HSZ.out _ (List.getElem_mem hlt)) (by have := hbel.size; have := b.size; omega) (p5.below (b.mono (by have := hbel.size; omega))))
      have HP := hide (fun (U : World) (s : Value) (b : Below wr.heap.size wr U) (hx : ItemsIn U (fun b => wr.heap.size ≤ b ∧ b < U.heap.size) n s v.items[k].items) => OwnAt.push (ty := 55) hO hbel.size b hx p6 (by rw [List.length_take]; omega))
      have HT := hide (List.take_succ_eq_append_getElem hlt)
      obtain ⟨xx1, yy1, rfl, _⟩ := p5.len
      have HB2 := hide hbel
      clear p5 p6 hbel g1 hO
      generalize v.items[k].items = xi at *
      generalize v.items[k] = x at *
      go_wp2_with (first
        | (go_at_call 53; refine (HC.out _ (Below.refl _ _)).mono ?_; clear HC; rintro e w2 ⟨s2, rfl, i2, b2⟩; obtain ⟨sa2, sc2, rfl, _⟩ := i2.len; obtain ⟨v3, w3, hrun, o3, b3⟩ := HP.out w2 _ b2 i2; have HR := hide hrun; have O3 := hide o3; have B3 := hide (HB2.out.trans ((b2.mono HB2.out.size).trans b3)); clear hrun o3 b3 HP i2 b2)
        | (at_builtin; refine Lib.wpList_append_run _ rfl (.tmp 12) (.tmp 19) 55 55 rfl _ _ rfl rfl _ _ HR.out ?_))
      go_roundw
      case rel => exact ⟨k + 1, by omega, by go_num, by rw [HT.out]; exact O3.out, B3.out⟩
      case measure => simp [intOf]; omega
    · clear w4
      rw [List.take_of_length_le (by omega)] at hO
      have hit := hO.items (by unfold maxLen; omega)
      obtain ⟨sa, sc, rfl, _⟩ := hit.len
      have HIT := hide hit
      have f1 := (hbel.block _ (by omega)).trans HE1.out
      have f2 := (hbel.block _ zW).trans HE2.out
      have x0 := cells_at f1 0 _ rfl
      have x1 := cells_at f1 1 _ rfl
      have x2 := cells_at f1 2 _ rfl
      have x3 := cells_at f1 3 _ rfl
      have x4 := cells_at f1 4 _ rfl
      have z4 := frozen_at f1 4
      have y0 := cells_at f2 0 _ rfl
      have y1 := cells_at f2 1 _ rfl
      have y2 := cells_at f2 2 _ rfl
      have y3 := cells_at f2 3 _ rfl
      have y4 := cells_at f2 4 _ rfl
      have q0 := frozen_at f2 0
      have q1 := frozen_at f2 1
      have q2 := frozen_at f2 2
      have q3 := frozen_at f2 3
      have q4 := frozen_at f2 4
      have F1 := hide f1
      have F2 := hide f2
      have HB2 := hide hbel
      clear hO hit f1 f2 hbel
      go_wp2
      have ne1 : w.heap.size + 1 ≠ w.heap.size := by omega
      have g1 := (Below.heap_setCell wr ⟨w.heap.size, 4, none⟩ (.slice sa v.items.length sc) (w.heap.size + 1) ne1).trans F2.out
      have g2 := heap_setCell_same _ _ 0 _ _ (.int .i64 v.kind) g1
      have g3 := heap_setCell_same _ _ 1 _ _ (.int .i64 v.int) g2
      have g4 := heap_setCell_same _ _ 2 _ _ (.int .i64 v.im) g3
      have g5 := heap_setCell_same _ _ 3 _ _ (.string v.text) g4
      have g6 := heap_setCell_same _ _ 4 _ _ (.slice sa v.items.length sc) g5
      have hbw := HB2.out
      have hsz := bW.size
      refine bodyPost_ret (results_cell_row rfl _ _ (w.heap.size + 1) _ _ _ _ rfl g6 Tryz.underlying57 rfl infoVal5) rfl ?_
      refine ⟨.slice sa v.items.length sc, rfl, HIT.out.kept (fun b o hb => ?_) (fun b hb => ⟨by omega, by simpa using hb.2⟩), ?_⟩
      · have hn1 : b ≠ w.heap.size := by have := hb.1; omega
        have hn2 : b ≠ w.heap.size + 1 := by have := hb.1; omega
        refine World.cell?_of_block ?_
        rw [Below.heap_setCell _ _ _ _ hn2, Below.heap_setCell _ _ _ _ hn2, Below.heap_setCell _ _ _ _ hn2, Below.heap_setCell _ _ _ _ hn2, Below.heap_setCell _ _ _ _ hn2, Below.heap_setCell _ _ _ _ hn1]
      · exact ((((((bW.trans (hbw.mono hsz)).setCell (Nat.le_refl _) _).setCell (by show w.heap.size ≤ w.heap.size + 1; omega) _).setCell (by show w.heap.size ≤ w.heap.size + 1; omega) _).setCell (by show w.heap.size ≤ w.heap.size + 1; omega) _).setCell (by show w.heap.size ≤ w.heap.size + 1; omega) _).setCell (by show w.heap.size ≤ w.heap.size + 1; omega) _
theorem refCopied_k : ∀ n, RCopyC n
  | 0 => fun _ _ _ _ _ _ h => h.elim
  | n + 1 => refCopied_step (refCopied_k n)
set_option maxRecDepth 100000 in
set_option maxHeartbeats 1000000 in
/-- A copy, or the value itself where it is above the limits. -/
theorem refCopy_k (v : Vl) (w : World) (n : Nat) (sl : Value) (hz : v.size ≤ 1000000000) (hs : ItemsAt w w.heap.size n sl v.items) :
    Calls Tryz.prog 38 #[.agg (vcells v sl)] w fun e w' => ∃ s', e = .returned (.agg (vcells v s')) ∧ ItemsAt w' w'.heap.size n s' v.items ∧ (cnt 16 v 0 ≤ 4096 → ItemsIn w' (fun b => w.heap.size ≤ b ∧ b < w'.heap.size) n s' v.items) ∧ (s' = sl ∨ ItemsIn w' (fun b => w.heap.size ≤ b ∧ b < w'.heap.size) n s' v.items) ∧ Below w.heap.size w w' := by
  obtain ⟨W, hW⟩ : ∃ W, (w.alloc (.cells (vcells v sl) 57)).alloc (.cells zcells 57) = W := ⟨_, rfl⟩
  have bW : Below w.heap.size w W := by rw [← hW]; exact alloc_v (alloc_v (Below.refl _ _) _) _
  have e1 : W.heap[w.heap.size]? = some (.cells (vcells v sl) 57 (0, 0)) := by rw [← hW]; exact (Below.heap_alloc _ _ _ (by simp)).trans (World.alloc_heap_new w _)
  have e2 : W.heap[w.heap.size + 1]? = some (.cells zcells 57 (0, 0)) := by rw [← hW]; have := World.alloc_heap_new (w.alloc (.cells (vcells v sl) 57)) (.cells zcells 57); rwa [World.size_alloc] at this
  have zW : w.heap.size + 1 < W.heap.size := (Array.getElem?_eq_some_iff.1 e2).1
  have x0 := cells_at e1 0 _ rfl
  have x1 := cells_at e1 1 _ rfl
  have x2 := cells_at e1 2 _ rfl
  have x3 := cells_at e1 3 _ rfl
  have x4 := cells_at e1 4 _ rfl
  have E1 := hide e1
  have E2 := hide e2
  have HC := hide (count_k 16 v W w.heap.size n 0 sl (Nat.le_refl _) (by omega) bW.size (hs.below bW))
  have HK := hide (fun (U : World) (b : Below W.heap.size W U) => refCopied_k n v U w.heap.size sl hz (trans_v bW b).size (hs.below (trans_v bW b)))
  have HS := hide hs
  obtain ⟨a, c, rfl, _⟩ := hs.len
  clear hs e1 e2
  generalize cnt 16 v 0 = u at *
  by_cases hu : u ≤ 4096
  · have hu' : ¬ ((u : Int) > 4096) := by omega
    go_enter Tryz.func38, Tryz.ntmps38
    go_wp2_with (first
      | (go_at_call 52; refine HC.out.mono ?_; clear HC; rintro e w2 ⟨rfl, b2⟩; have f1 := (b2.block _ (show w.heap.size < W.heap.size by omega)).trans E1.out; have y0 := cells_at f1 0 _ rfl; have y1 := cells_at f1 1 _ rfl; have y2 := cells_at f1 2 _ rfl; have y3 := cells_at f1 3 _ rfl; have y4 := cells_at f1 4 _ rfl; clear f1)
      | (go_at_call 53; refine (HK.out _ b2).mono ?_; clear HK; rintro e w3 ⟨s3, rfl, i3, b3⟩; obtain ⟨sa, sc, rfl, _⟩ := i3.len; have b4 := trans_v b2 b3; have f2 := (b4.block _ zW).trans E2.out; have F2 := hide f2; have I3 := hide i3; have z0 := cells_at f2 0 _ rfl; have q0 := frozen_at f2 0; have z1 := cells_at f2 1 _ rfl; have q1 := frozen_at f2 1; have z2 := cells_at f2 2 _ rfl; have q2 := frozen_at f2 2; have z3 := cells_at f2 3 _ rfl; have q3 := frozen_at f2 3; have z4 := cells_at f2 4 _ rfl; have q4 := frozen_at f2 4; clear f2 i3))
    have g := stored w w3 v.kind v.int v.im v.text (.slice sa v.items.length sc) zcells (w.heap.size + 1) (by omega) (trans_v bW b4) rfl F2.out
    refine bodyPost_ret (results_cell_row rfl _ _ (w.heap.size + 1) _ _ _ _ rfl g.1 Tryz.underlying57 rfl infoVal5) rfl ?_
    have hin := I3.out.kept (w' := (((((w3.setCell ⟨w.heap.size + 1, 0, none⟩ (.int .i64 v.kind)).setCell ⟨w.heap.size + 1, 1, none⟩ (.int .i64 v.int)).setCell ⟨w.heap.size + 1, 2, none⟩ (.int .i64 v.im)).setCell ⟨w.heap.size + 1, 3, none⟩ (.string v.text)).setCell ⟨w.heap.size + 1, 4, none⟩ (.slice sa v.items.length sc))) (S' := fun b => w.heap.size ≤ b ∧ b < w3.heap.size) (fun b o hb => stored_cellR _ _ _ _ _ _ _ _ _ (by have := hb.1; have := b2.size; omega)) (fun b hb => ⟨by have := hb.1; have := b2.size; omega, hb.2⟩)
    refine ⟨.slice sa v.items.length sc, rfl, hin.at (fun b hb => by simpa using hb.2), fun _ => hin.kept (fun _ _ _ => rfl) (fun b hb => ⟨hb.1, by simpa using hb.2⟩), .inr (hin.kept (fun _ _ _ => rfl) (fun b hb => ⟨hb.1, by simpa using hb.2⟩)), g.2⟩
  · have hu' : ((u : Int) > 4096) := by omega
    go_enter Tryz.func38, Tryz.ntmps38
    go_wp2_with (go_at_call 52; refine HC.out.mono ?_; clear HC; rintro e w2 ⟨rfl, b2⟩; have f1 := (b2.block _ (show w.heap.size < W.heap.size by omega)).trans E1.out; have f2 := (b2.block _ zW).trans E2.out; have F2 := hide f2; have y0 := cells_at f1 0 _ rfl; have y1 := cells_at f1 1 _ rfl; have y2 := cells_at f1 2 _ rfl; have y3 := cells_at f1 3 _ rfl; have y4 := cells_at f1 4 _ rfl; have z0 := cells_at f2 0 _ rfl; have q0 := frozen_at f2 0; have z1 := cells_at f2 1 _ rfl; have q1 := frozen_at f2 1; have z2 := cells_at f2 2 _ rfl; have q2 := frozen_at f2 2; have z3 := cells_at f2 3 _ rfl; have q3 := frozen_at f2 3; have z4 := cells_at f2 4 _ rfl; have q4 := frozen_at f2 4; clear f1 f2)
    have g := stored w w2 v.kind v.int v.im v.text (.slice a v.items.length c) zcells (w.heap.size + 1) (by omega) (trans_v bW b2) rfl F2.out
    refine bodyPost_ret (results_cell_row rfl _ _ (w.heap.size + 1) _ _ _ _ rfl g.1 Tryz.underlying57 rfl infoVal5) rfl ?_
    exact ⟨.slice a v.items.length c, rfl, (HS.out.below g.2).up g.2.size, fun h => absurd h hu, .inl rfl, g.2⟩
end Go.Proofs.YtnmkggoampkekaaGreatDoor
