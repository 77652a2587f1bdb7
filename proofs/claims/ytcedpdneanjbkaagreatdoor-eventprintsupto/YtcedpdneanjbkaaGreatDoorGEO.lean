/- The reference's copied and Copy. -/
import Derived.Test.YtcedpdneanjbkaaGreatDoorZVCopied
import Derived.Test.YtcedpdneanjbkaaGreatDoorGE2
import Derived.Test.YtcedpdneanjbkaaGreatDoorGEM
import Derived.Test.YtcedpdneanjbkaaGreatDoorGEJ
import Derived.Test.YtcedpdneanjbkaaGreatDoorGEC
import Derived.Test.YtcedpdneanjbkaaGreatDoorGEA
import Derived.Test.YtcedpdneanjbkaaGreatDoorGBkA
import Derived.Test.YtcedpdneanjbkaaGreatDoorGRefText
import Derived.Test.YtcedpdneanjbkaaGreatDoorGAlive
import Derived.Test.YtcedpdneanjbkaaGreatDoorGEG
import Derived.Test.YtcedpdneanjbkaaGreatDoorGEB
import Derived.Test.YtcedpdneanjbkaaGreatDoorGEH
import Derived.Test.YtcedpdneanjbkaaGreatDoorGHOpG
import Derived.ChangeMaps5
namespace Go.Proofs.YtcedpdneanjbkaaGreatDoor
open Go.RowKit

theorem stored_cellR (W : World) (b b' o : Nat) (v0 v1 v2 v3 v4 : Value) (h : b' ≠ b) :
    (((((W.setCell ⟨b, 0, none⟩ v0).setCell ⟨b, 1, none⟩ v1).setCell ⟨b, 2, none⟩ v2).setCell ⟨b, 3, none⟩ v3).setCell ⟨b, 4, none⟩ v4).cell? ⟨b', o, none⟩ = W.cell? ⟨b', o, none⟩ := by
  refine World.cell?_of_block ?_
  rw [Below.heap_setCell _ _ _ _ h, Below.heap_setCell _ _ _ _ h, Below.heap_setCell _ _ _ _ h, Below.heap_setCell _ _ _ _ h, Below.heap_setCell _ _ _ _ h]
def RCopyC (n : Nat) : Prop := ∀ (v : Vl) (w : World) (B : Nat) (sl : Value), v.size ≤ 1000000000 → B ≤ w.heap.size → ItemsAt w B n sl v.items →
  Calls Tryz.prog 54 #[.agg (vcells v sl)] w fun e w' => ∃ s', e = .returned (.agg (vcells v s')) ∧ ItemsIn w' (fun b => w.heap.size ≤ b ∧ b < w'.heap.size) n s' v.items ∧ Below w.heap.size w w'
set_option maxRecDepth 100000 in
set_option maxHeartbeats 1000000 in
theorem refCopied_step {n : Nat} (hC : RCopyC n) : RCopyC (n + 1) := by
  intro v w B sl hv hB hi
  have HI := hide hi
  obtain ⟨a, c, rfl, hla⟩ := hi.len
  unfold maxLen at hla
  have HC0 := hide hC
  have HSZ := hide (fun (x : Vl) (hx : x ∈ v.items) => (show x.size ≤ 1000000000 from by have := Vl.size_item hx; omega))
  have HLN := hide (size_len v)
  have hln : v.items.length ≤ 1000000000 := by have := size_len v; omega
  obtain ⟨W, hW⟩ : ∃ W, (w.alloc (.cells (vcells v (.slice a v.items.length c)) 46)).alloc (.cells #[.int .i64 0, .int .i64 0, .int .i64 0, .string ⟨#[]⟩, .slice none 0 0] 46) = W := ⟨_, rfl⟩
  have bW : Below w.heap.size w W := by rw [← hW]; exact alloc_v (alloc_v (Below.refl _ _) _) _
  have e1 : W.heap[w.heap.size]? = some (.cells (vcells v (.slice a v.items.length c)) 46 (0, 0)) := by rw [← hW]; exact (Below.heap_alloc _ _ _ (by simp)).trans (World.alloc_heap_new w _)
  have e2 : W.heap[w.heap.size + 1]? = some (.cells #[.int .i64 0, .int .i64 0, .int .i64 0, .string ⟨#[]⟩, .slice none 0 0] 46 (0, 0)) := by rw [← hW]; have := World.alloc_heap_new (w.alloc (.cells (vcells v (.slice a v.items.length c)) 46)) (.cells #[.int .i64 0, .int .i64 0, .int .i64 0, .string ⟨#[]⟩, .slice none 0 0] 46); rwa [World.size_alloc] at this
  have zW : w.heap.size + 1 < W.heap.size := (Array.getElem?_eq_some_iff.1 e2).1
  have x4 := cells_at e1 4 _ rfl
  have HE1 := hide e1
  have HE2 := hide e2
  have HV := hide (HI.out.below (bW.mono hB))
  have hBW : B ≤ W.heap.size := by have := bW.size; omega
  clear hi hC e1 e2
  go_enter Tryz.func54, Tryz.ntmps54
  go_wp2
  clear hW x4
  go_loopw [3, 4] (fun o i wr => ∃ k : Nat, k ≤ v.items.length ∧ i = .int .i64 k ∧ OwnAt wr W.heap.size n o (v.items.take k) ∧ Below W.heap.size W wr) (fun _ i _ => v.items.length - (intOf i).toNat)
  case atStart => exact ⟨0, Nat.zero_le _, rfl, OwnAt.nil _ _ _, Below.refl _ _⟩
  case round =>
    obtain ⟨k, hk, rfl, hO, hbel⟩ := hrel
    have w4 := cells_at ((hbel.block _ (by omega)).trans HE1.out) 4 _ rfl
    by_cases hlt : k < v.items.length
    · obtain ⟨b1, o1, s1, rfl, g1, p0, p1, p2, p3, p4, p5, p6⟩ := (HV.out.below (hbel.mono hBW)).item k hlt
      have l1 : b1 < wr.heap.size := by have := hbel.size; omega
      have HC := hide (fun (U : World) (b : Below wr.heap.size wr U) => HC0.out v.items[k] U B s1 (HSZ.out _ (List.getElem_mem hlt)) (by have := hbel.size; have := b.size; omega) (p5.below (b.mono (by have := hbel.size; omega))))
      have HP := hide (fun (U : World) (s : Value) (b : Below wr.heap.size wr U) (hx : ItemsIn U (fun b => wr.heap.size ≤ b ∧ b < U.heap.size) n s v.items[k].items) => OwnAt.push (ty := 44) hO hbel.size b hx p6 (by rw [List.length_take]; omega))
      have HT := hide (List.take_succ_eq_append_getElem hlt)
      obtain ⟨xx1, yy1, rfl, _⟩ := p5.len
      have HB2 := hide hbel
      clear p5 p6 hbel g1 hO
      generalize v.items[k].items = xi at *
      generalize v.items[k] = x at *
      go_wp2_with (first
        | (go_at_call 54; refine (HC.out _ (Below.refl _ _)).mono ?_; clear HC; rintro e w2 ⟨s2, rfl, i2, b2⟩; obtain ⟨sa2, sc2, rfl, _⟩ := i2.len; obtain ⟨v3, w3, hrun, o3, b3⟩ := HP.out w2 _ b2 i2; have HR := hide hrun; have O3 := hide o3; have B3 := hide (HB2.out.trans ((b2.mono HB2.out.size).trans b3)); clear hrun o3 b3 HP i2 b2)
        | (at_builtin; refine Lib.wpList_append_run _ rfl (.tmp 12) (.tmp 19) 44 44 rfl _ _ rfl rfl _ _ HR.out ?_))
      go_roundw
      case rel => exact ⟨k + 1, by omega, by go_num, by rw [HT.out]; exact O3.out, B3.out⟩
      case measure => simp [intOf]; omega
    · clear w4
      rw [List.take_of_length_le (by omega)] at hO
      have hit := hO.items (by unfold maxLen; omega)
      obtain ⟨sa, sc, rfl, _⟩ := hit.len
      have HIT := hide hit
      have f1 := (hbel.block _ (by omega)).trans HE1.out
      have f2 := (hbel.block _ zW).trans HE2.out
      have x0 := cells_at f1 0 _ rfl
      have x1 := cells_at f1 1 _ rfl
      have x2 := cells_at f1 2 _ rfl
      have x3 := cells_at f1 3 _ rfl
      have x4 := cells_at f1 4 _ rfl
      have z4 := frozen_at f1 4
      have y0 := cells_at f2 0 _ rfl
      have y1 := cells_at f2 1 _ rfl
      have y2 := cells_at f2 2 _ rfl
      have y3 := cells_at f2 3 _ rfl
      have y4 := cells_at f2 4 _ rfl
      have q0 := frozen_at f2 0
      have q1 := frozen_at f2 1
      have q2 := frozen_at f2 2
      have q3 := frozen_at f2 3
      have q4 := frozen_at f2 4
      have F1 := hide f1
      have F2 := hide f2
      have HB2 := hide hbel
      clear hO hit f1 f2 hbel
      go_wp2
      have ne1 : w.heap.size + 1 ≠ w.heap.size := by omega
      have g1 := (Below.heap_setCell wr ⟨w.heap.size, 4, none⟩ (.slice sa v.items.length sc) (w.heap.size + 1) ne1).trans F2.out
      have g2 := heap_setCell_same _ _ 0 _ _ (.int .i64 v.kind) g1
      have g3 := heap_setCell_same _ _ 1 _ _ (.int .i64 v.int) g2
      have g4 := heap_setCell_same _ _ 2 _ _ (.int .i64 v.im) g3
      have g5 := heap_setCell_same _ _ 3 _ _ (.string v.text) g4
      have g6 := heap_setCell_same _ _ 4 _ _ (.slice sa v.items.length sc) g5
      have hbw := HB2.out
      have hsz := bW.size
      refine bodyPost_ret (results_cell_row rfl _ _ (w.heap.size + 1) _ _ _ _ rfl g6 Tryz.underlying46 rfl infoVal5) rfl ?_
      refine ⟨.slice sa v.items.length sc, rfl, HIT.out.kept (fun b o hb => ?_) (fun b hb => ⟨by omega, by simpa using hb.2⟩), ?_⟩
      · have hn1 : b ≠ w.heap.size := by have := hb.1; omega
        have hn2 : b ≠ w.heap.size + 1 := by have := hb.1; omega
        refine World.cell?_of_block ?_
        rw [Below.heap_setCell _ _ _ _ hn2, Below.heap_setCell _ _ _ _ hn2, Below.heap_setCell _ _ _ _ hn2, Below.heap_setCell _ _ _ _ hn2, Below.heap_setCell _ _ _ _ hn2, Below.heap_setCell _ _ _ _ hn1]
      · exact ((((((bW.trans (hbw.mono hsz)).setCell (Nat.le_refl _) _).setCell (by show w.heap.size ≤ w.heap.size + 1; omega) _).setCell (by show w.heap.size ≤ w.heap.size + 1; omega) _).setCell (by show w.heap.size ≤ w.heap.size + 1; omega) _).setCell (by show w.heap.size ≤ w.heap.size + 1; omega) _).setCell (by show w.heap.size ≤ w.heap.size + 1; omega) _
theorem refCopied_k : ∀ n, RCopyC n
  | 0 => fun _ _ _ _ _ _ h => h.elim
  | n + 1 => refCopied_step (refCopied_k n)
set_option maxRecDepth 100000 in
set_option maxHeartbeats 1000000 in
/-- A copy, or the value itself where it is above the limits. -/
theorem refCopy_k (v : Vl) (w : World) (n : Nat) (sl : Value) (hz : v.size ≤ 1000000000) (hs : ItemsAt w w.heap.size n sl v.items) :
    Calls Tryz.prog 21 #[.agg (vcells v sl)] w fun e w' => ∃ s', e = .returned (.agg (vcells v s')) ∧ ItemsAt w' w'.heap.size n s' v.items ∧ (cnt 16 v 0 ≤ 4096 → ItemsIn w' (fun b => w.heap.size ≤ b ∧ b < w'.heap.size) n s' v.items) ∧ (s' = sl ∨ ItemsIn w' (fun b => w.heap.size ≤ b ∧ b < w'.heap.size) n s' v.items) ∧ Below w.heap.size w w' := by
  obtain ⟨W, hW⟩ : ∃ W, (w.alloc (.cells (vcells v sl) 46)).alloc (.cells zcells 46) = W := ⟨_, rfl⟩
  have bW : Below w.heap.size w W := by rw [← hW]; exact alloc_v (alloc_v (Below.refl _ _) _) _
  have e1 : W.heap[w.heap.size]? = some (.cells (vcells v sl) 46 (0, 0)) := by rw [← hW]; exact (Below.heap_alloc _ _ _ (by simp)).trans (World.alloc_heap_new w _)
  have e2 : W.heap[w.heap.size + 1]? = some (.cells zcells 46 (0, 0)) := by rw [← hW]; have := World.alloc_heap_new (w.alloc (.cells (vcells v sl) 46)) (.cells zcells 46); rwa [World.size_alloc] at this
  have zW : w.heap.size + 1 < W.heap.size := (Array.getElem?_eq_some_iff.1 e2).1
  have x0 := cells_at e1 0 _ rfl
  have x1 := cells_at e1 1 _ rfl
  have x2 := cells_at e1 2 _ rfl
  have x3 := cells_at e1 3 _ rfl
  have x4 := cells_at e1 4 _ rfl
  have E1 := hide e1
  have E2 := hide e2
  have HC := hide (count_k 16 v W w.heap.size n 0 sl (Nat.le_refl _) (by omega) bW.size (hs.below bW))
  have HK := hide (fun (U : World) (b : Below W.heap.size W U) => refCopied_k n v U w.heap.size sl hz (trans_v bW b).size (hs.below (trans_v bW b)))
  have HS := hide hs
  obtain ⟨a, c, rfl, _⟩ := hs.len
  clear hs e1 e2
  generalize cnt 16 v 0 = u at *
  by_cases hu : u ≤ 4096
  · have hu' : ¬ ((u : Int) > 4096) := by omega
    go_enter Tryz.func21, Tryz.ntmps21
    go_wp2_with (first
      | (go_at_call 53; refine HC.out.mono ?_; clear HC; rintro e w2 ⟨rfl, b2⟩; have f1 := (b2.block _ (show w.heap.size < W.heap.size by omega)).trans E1.out; have y0 := cells_at f1 0 _ rfl; have y1 := cells_at f1 1 _ rfl; have y2 := cells_at f1 2 _ rfl; have y3 := cells_at f1 3 _ rfl; have y4 := cells_at f1 4 _ rfl; clear f1)
      | (go_at_call 54; refine (HK.out _ b2).mono ?_; clear HK; rintro e w3 ⟨s3, rfl, i3, b3⟩; obtain ⟨sa, sc, rfl, _⟩ := i3.len; have b4 := trans_v b2 b3; have f2 := (b4.block _ zW).trans E2.out; have F2 := hide f2; have I3 := hide i3; have z0 := cells_at f2 0 _ rfl; have q0 := frozen_at f2 0; have z1 := cells_at f2 1 _ rfl; have q1 := frozen_at f2 1; have z2 := cells_at f2 2 _ rfl; have q2 := frozen_at f2 2; have z3 := cells_at f2 3 _ rfl; have q3 := frozen_at f2 3; have z4 := cells_at f2 4 _ rfl; have q4 := frozen_at f2 4; clear f2 i3))
    have g := stored w w3 v.kind v.int v.im v.text (.slice sa v.items.length sc) zcells (w.heap.size + 1) (by omega) (trans_v bW b4) rfl F2.out
    refine bodyPost_ret (results_cell_row rfl _ _ (w.heap.size + 1) _ _ _ _ rfl g.1 Tryz.underlying46 rfl infoVal5) rfl ?_
    have hin := I3.out.kept (w' := (((((w3.setCell ⟨w.heap.size + 1, 0, none⟩ (.int .i64 v.kind)).setCell ⟨w.heap.size + 1, 1, none⟩ (.int .i64 v.int)).setCell ⟨w.heap.size + 1, 2, none⟩ (.int .i64 v.im)).setCell ⟨w.heap.size + 1, 3, none⟩ (.string v.text)).setCell ⟨w.heap.size + 1, 4, none⟩ (.slice sa v.items.length sc))) (S' := fun b => w.heap.size ≤ b ∧ b < w3.heap.size) (fun b o hb => stored_cellR _ _ _ _ _ _ _ _ _ (by have := hb.1; have := b2.size; omega)) (fun b hb => ⟨by have := hb.1; have := b2.size; omega, hb.2⟩)
    refine ⟨.slice sa v.items.length sc, rfl, hin.at (fun b hb => by simpa using hb.2), fun _ => hin.kept (fun _ _ _ => rfl) (fun b hb => ⟨hb.1, by simpa using hb.2⟩), .inr (hin.kept (fun _ _ _ => rfl) (fun b hb => ⟨hb.1, by simpa using hb.2⟩)), g.2⟩
  · have hu' : ((u : Int) > 4096) := by omega
    go_enter Tryz.func21, Tryz.ntmps21
    go_wp2_with (go_at_call 53; refine HC.out.mono ?_; clear HC; rintro e w2 ⟨rfl, b2⟩; have f1 := (b2.block _ (show w.heap.size < W.heap.size by omega)).trans E1.out; have f2 := (b2.block _ zW).trans E2.out; have F2 := hide f2; have y0 := cells_at f1 0 _ rfl; have y1 := cells_at f1 1 _ rfl; have y2 := cells_at f1 2 _ rfl; have y3 := cells_at f1 3 _ rfl; have y4 := cells_at f1 4 _ rfl; have z0 := cells_at f2 0 _ rfl; have q0 := frozen_at f2 0; have z1 := cells_at f2 1 _ rfl; have q1 := frozen_at f2 1; have z2 := cells_at f2 2 _ rfl; have q2 := frozen_at f2 2; have z3 := cells_at f2 3 _ rfl; have q3 := frozen_at f2 3; have z4 := cells_at f2 4 _ rfl; have q4 := frozen_at f2 4; clear f1 f2)
    have g := stored w w2 v.kind v.int v.im v.text (.slice a v.items.length c) zcells (w.heap.size + 1) (by omega) (trans_v bW b2) rfl F2.out
    refine bodyPost_ret (results_cell_row rfl _ _ (w.heap.size + 1) _ _ _ _ rfl g.1 Tryz.underlying46 rfl infoVal5) rfl ?_
    exact ⟨.slice a v.items.length c, rfl, (HS.out.below g.2).up g.2.size, fun h => absurd h hu, .inl rfl, g.2⟩
end Go.Proofs.YtcedpdneanjbkaaGreatDoor

/- The reference's Copy of events. -/
namespace Go.Proofs.YtcedpdneanjbkaaGreatDoor
open Go.RowKit
open Go.Lib (intOf)

theorem ItemsAt.toInE {w : World} {B : Nat} : ∀ {n : Nat} {sl : Value} {its : List Vl}, ItemsAt w B n sl its → ItemsIn w (fun b => b < B) n sl its
  | 0, _, _, h => h.elim
  | n + 1, _, its, h => by
    obtain ⟨a, c, e, hl, hc⟩ := h
    refine ⟨a, c, e, hl, fun j hj => ?_⟩
    obtain ⟨b, off, s', e, hb, h0, h1, h2, h3, h4, h5, h6⟩ := hc j hj
    exact ⟨b, off, s', e, hb, h0, h1, h2, h3, h4, ItemsAt.toInE h5, h6⟩
/-- A copied event is laid behind the others. -/
theorem copy_push {w wr W1 w2 : World} {n : Nat} {v s2 sl : Value} {acc : List Evn} {x : Evn} (hM : EvMk wr 0 n v acc) (hO : ∀ b, v.ownBlock = some b → w.heap.size ≤ b) (hbel : Below w.heap.size w wr)
    (bW1 : Below wr.heap.size wr W1) (z1 : W1.heap.size = wr.heap.size + 1) (b2 : Below W1.heap.size W1 w2) (p12 : ItemsAt wr w.heap.size n sl x.val.items) (i2 : s2 = sl ∨ ItemsIn w2 (fun b => W1.heap.size ≤ b ∧ b < w2.heap.size) n s2 x.val.items)
    (ho : EvOk x) (hz : x.val.size ≤ 1000000000) (hn : acc.length + 1 ≤ 1000000000) (vs : List Value) (V : World) (hV : putN w2 wr.heap.size 4 vs = V) :
    ∃ g cap w', (Builtin.append_ #[22, 22] 22 #[v, .slice (some ⟨w2.heap.size, 0, none⟩) 1 1]).run Tryz.prog (V.alloc (.cells (evCells x s2) 50)) = .ok (.slice (some ⟨g, 0, none⟩) (acc.length + 1) cap) w' ∧ EvMk w' 0 n (.slice (some ⟨g, 0, none⟩) (acc.length + 1) cap) (acc ++ [x]) ∧ w.heap.size ≤ g ∧ Below w.heap.size w w' := by
  have bw2 : Below wr.heap.size wr w2 := bW1.trans (b2.mono (by omega))
  have hs2 := b2.size
  have gP := putN_far (grown_of_below (r := none) bw2) (b := wr.heap.size) (Nat.le_refl _) vs 4
  have hVs : V.heap.size = w2.heap.size := by rw [← hV]; exact putN_size _ _ _
  have hVk : ∀ k, k ≠ wr.heap.size → V.heap[k]? = w2.heap[k]? := fun k hk => by rw [← hV]; exact putN_other hk _ _ _
  rw [hV] at gP
  have bV : Below wr.heap.size wr V := ⟨gP.os, gP.tape, gP.output, gP.size, fun k hk => gP.block k hk (by simp)⟩
  have hMV := hM.far bV.size (fun k _ hk => bV.block k hk)
  have hx : ItemsIn V (fun b => 0 ≤ b ∧ b < V.heap.size ∧ v.ownBlock ≠ some b) n s2 x.val.items := by
    rcases i2 with rfl | i2
    · refine (ItemsAt.toInE p12).kept (fun b o hb => World.cell?_of_block (bV.block b (by have := hbel.size; omega))) (fun b hb => ⟨Nat.zero_le _, by have := hbel.size; have := bV.size; omega, fun e => by have := hO b e; omega⟩)
    · refine i2.kept (fun b o hb => World.cell?_of_block (hVk b (by omega))) (fun b hb => ⟨Nat.zero_le _, by omega, fun e => by have := (hM.lt e).2; omega⟩)
  obtain ⟨g, cap, w', hrun, mk, gr, lie⟩ := hMV.push (Nat.zero_le _) hn x 22 hx ho hz
  have hg : w.heap.size ≤ g := by
    rcases lie with e | e
    · exact hO g e
    · have := hbel.size; have := bV.size; omega
  rw [hVs] at hrun
  exact ⟨g, cap, w', hrun, mk, hg, (hbel.trans (bV.mono hbel.size)).grown gr (by have := hbel.size; have := bV.size; omega) (fun q e => hO q e)⟩
set_option maxRecDepth 100000 in
set_option maxHeartbeats 4000000 in
theorem refCopy6_k (l : List Evn) (w : World) (n : Nat) (sa : Value) (ha : EvsAt w w.heap.size n sa l) :
    Calls Tryz.prog 9 #[sa] w fun e w' => ∃ v, e = .returned v ∧ EvsAt w' w'.heap.size n v l ∧ Below w.heap.size w w' := by
  obtain ⟨aa, ca, rfl, hla⟩ := ha.len
  have HA := hide ha
  clear ha
  go_enter Tryz.func9, Tryz.ntmps9
  go_wp2
  go_loopw [3, 4] (fun v i wr => ∃ k : Nat, k ≤ l.length ∧ i = .int .i64 k ∧ EvMk wr 0 n v (l.take k) ∧ (∀ b, v.ownBlock = some b → w.heap.size ≤ b) ∧ Below w.heap.size w wr) (fun _ i _ => l.length - (intOf i).toNat)
  case atStart => exact ⟨0, Nat.zero_le _, rfl, EvMk.nil _ _ _, (fun b h => by simp [Value.ownBlock] at h), Below.refl _ _⟩
  case round =>
    obtain ⟨k, hk, rfl, hM, hO, hbel⟩ := hrel
    obtain ⟨va, vc, rfl⟩ := hM.len
    by_cases hlt : k < l.length
    · obtain ⟨b1, o1, s1, rfl, g1, p0, p1, p2, p3, p4, p5, p6, p7, p8, p9, p10, p11, p12, p13, p14⟩ := (HA.out.below hbel).item k hlt
      have l1 : b1 < wr.heap.size := by have := hbel.size; omega
      obtain ⟨x1, y1, rfl, _⟩ := p12.len
      obtain ⟨W1, hW1⟩ : ∃ W1, wr.alloc (.cells (evCells l[k] (.slice x1 l[k].val.items.length y1)) 50) = W1 := ⟨_, rfl⟩
      have bW1 : Below wr.heap.size wr W1 := by rw [← hW1]; exact alloc_v (Below.refl _ _) _
      have e1 : W1.heap[wr.heap.size]? = some (.cells (evCells l[k] (.slice x1 l[k].val.items.length y1)) 50 (0, 0)) := by rw [← hW1]; exact World.alloc_heap_new wr _
      have z1 : W1.heap.size = wr.heap.size + 1 := by rw [← hW1]; simp
      have HC := hide (refCopy_k l[k].val W1 n (.slice x1 l[k].val.items.length y1) p14 ((p12.below (bW1.mono hbel.size)).up (by have := bW1.size; have := hbel.size; omega)))
      have HI := hide (And.intro p12 (And.intro p13 (And.intro p14 (And.intro hM (And.intro hO (And.intro hbel (And.intro bW1 (And.intro e1 z1))))))))
      have HT := hide (show l.take (k + 1) = l.take k ++ [l[k]] from by rw [List.take_succ_eq_append_getElem hlt])
      have HLN := hide (show (l.take k).length = k from by rw [List.length_take]; omega)
      have f4 := cells_at e1 4 _ rfl
      have f5 := cells_at e1 5 _ rfl
      have f6 := cells_at e1 6 _ rfl
      have f7 := cells_at e1 7 _ rfl
      have f8 := cells_at e1 8 _ rfl
      clear hM hO hbel p12 p13 p14 g1 bW1 e1 z1
      generalize l[k] = x at *
      go_wp2_with (first | (go_at_call 21; refine HC.out.mono ?_; clear HC; rintro e w2 ⟨s2, rfl, i1, _, i2, b2⟩; obtain ⟨x2, y2, rfl, _⟩ := i1.len; have f2 := (b2.block _ (by have := HI.out.2.2.2.2.2.2.2.2; omega)).trans HI.out.2.2.2.2.2.2.2.1; have c0 := cells_at f2 0 _ rfl; have z0 := frozen_at f2 0; have c1 := cells_at f2 1 _ rfl; have z1 := frozen_at f2 1; have c2 := cells_at f2 2 _ rfl; have z2 := frozen_at f2 2; have c3 := cells_at f2 3 _ rfl; have z3 := frozen_at f2 3; have c4 := cells_at f2 4 _ rfl; have z4 := frozen_at f2 4; have c5 := cells_at f2 5 _ rfl; have z5 := frozen_at f2 5; have c6 := cells_at f2 6 _ rfl; have z6 := frozen_at f2 6; have c7 := cells_at f2 7 _ rfl; have z7 := frozen_at f2 7; have c8 := cells_at f2 8 _ rfl; have z8 := frozen_at f2 8; have c9 := cells_at f2 9 _ rfl; have z9 := frozen_at f2 9; have c10 := cells_at f2 10 _ rfl; have z10 := frozen_at f2 10; have c11 := cells_at f2 11 _ rfl; have z11 := frozen_at f2 11; have HV := hide (copy_push HI.out.2.2.2.1 HI.out.2.2.2.2.1 HI.out.2.2.2.2.2.1 HI.out.2.2.2.2.2.2.1 HI.out.2.2.2.2.2.2.2.2 b2 HI.out.1 i2 HI.out.2.1 HI.out.2.2.1 (by rw [HLN.out]; omega) [.int .i64 x.val.kind, .int .i64 x.val.int, .int .i64 x.val.im, .string x.val.text, .slice x2 x.val.items.length y2] _ rfl); obtain ⟨g, cap, w5, hrn, mk5, hg5, b5⟩ := HV.out; rw [HLN.out] at hrn mk5; simp only [putN, Nat.reduceAdd] at hrn; have HRN := hide hrn; have H5 := hide (And.intro mk5 (And.intro hg5 b5)); clear i1 i2 b2 f2 HV hrn mk5 hg5 b5) | (at_builtin; refine Lib.wpList_append_run _ rfl (.tmp 20) (.tmp 22) 22 22 rfl _ _ rfl rfl _ _ HRN.out ?_; clear HRN))
      go_roundw
      case rel => exact ⟨k + 1, by omega, by go_num, by rw [HT.out]; exact H5.out.1, (fun b h => by simp only [Value.ownBlock, Option.some.injEq] at h; rw [← h]; exact H5.out.2.1), H5.out.2.2⟩
      case measure => simp [intOf]; omega
    · have hke : k = l.length := by omega
      have HF := hide (And.intro hM hbel)
      clear hM hO
      go_wp2
      go_ret
      refine ⟨_, rfl, ?_, HF.out.2⟩
      have := HF.out.1.evs (by rw [List.length_take]; omega)
      subst hke
      show EvsAt wr wr.heap.size n (.slice va (l.take l.length).length vc) l
      rw [List.take_length] at this ⊢
      exact this
end Go.Proofs.YtcedpdneanjbkaaGreatDoor

/- The document's numerals. -/
namespace Go.Proofs.YtcedpdneanjbkaaGreatDoor
open Go.RowKit

set_option maxRecDepth 100000 in
set_option maxHeartbeats 1000000 in
theorem refDigits_k : ∀ (n : Nat) (_ : n < 18446744073709551616) (w : World),
    Calls Tryz.prog 122 #[.int .u64 (n : Int)] w fun e w' => e = .returned (.string (str (Lib.decDigits n))) ∧ Below w.heap.size w w' := by
  intro n
  induction n using Nat.strongRecOn with
  | _ n ih =>
    intro hn w
    by_cases h : n < 10
    · have e : str (Lib.decDigits n) = ⟨#[UInt8.ofNat (48 + n)]⟩ := by rw [Lib.decDigits_one h]; rfl
      have hcv : (convert 33 9 (.slice (some ⟨w.heap.size, 0, none⟩) 1 1)).run Tryz.prog (w.alloc (.cells #[.int .u8 (48 + (n : Int))] 5)) = .ok (.string ⟨#[UInt8.ofNat (48 + n)]⟩) (w.alloc (.cells #[.int .u8 (48 + (n : Int))] 5)) := by
        refine run_convert_bytes_back _ 33 9 5 ⟨w.heap.size, 0, none⟩ 1 [UInt8.ofNat (48 + n)] Tryz.underlying33 Tryz.underlying5 Tryz.underlying9 ?_
        intro j hj
        have hj0 : j = 0 := by simpa using hj
        subst hj0
        simp only [List.getElem_cons_zero]
        rw [dig_of n h]
        simp [Addr.add]
      rw [e]
      clear ih e
      generalize UInt8.ofNat (48 + n) = b at *
      go_enter Tryz.func122, Tryz.ntmps122
      go_wp2
      go_ret
      exact ⟨rfl, (Below.refl _ w).alloc (Nat.le_refl _) _⟩
    · have h1 := ih (n / 10) (by omega) (by omega)
      have h2 := ih (n % 10) (by omega) (by omega)
      have e : Lib.decDigits n = Lib.decDigits (n / 10) ++ Lib.decDigits (n % 10) := by
        conv => lhs; rw [Lib.decDigits, dif_neg h]
        rw [Lib.decDigits_one (by omega : n % 10 < 10)]
      have ec : str (Lib.decDigits (n / 10)) ++ str (Lib.decDigits (n % 10)) = str (Lib.decDigits n) := by
        rw [e, cat_str, bytes_str]
      have hl : (Lib.decDigits n).length ≤ 20 := dec_len 19 n (by omega)
      have hl2 : (str (Lib.decDigits (n / 10))).size + (str (Lib.decDigits (n % 10))).size ≤ 20 := by
        rw [str_size, str_size, ← List.length_append, ← e]
        exact hl
      obtain ⟨q, hq⟩ : ∃ q : Nat, n / 10 = q := ⟨_, rfl⟩
      obtain ⟨r, hr⟩ : ∃ r : Nat, n % 10 = r := ⟨_, rfl⟩
      rw [hq] at h1 ec hl2
      rw [hr] at h2 ec hl2
      have hqi : ((n : Int) / 10) = (q : Int) := by omega
      have hri : ((n : Int) % 10) = (r : Int) := by omega
      have htd : Int.tdiv (n : Int) 10 = (q : Int) := by rw [Int.tdiv_eq_ediv_of_nonneg (by omega)]; exact hqi
      have htm : Int.tmod (n : Int) 10 = (r : Int) := by rw [Int.tmod_eq_emod_of_nonneg (by omega)]; exact hri
      clear ih e hl
      generalize str (Lib.decDigits q) = SA at *
      generalize str (Lib.decDigits r) = SB at *
      generalize str (Lib.decDigits n) = SC at *
      have hq10 : q < 18446744073709551616 := by omega
      have hr10 : r < 10 := by omega
      clear hq hr
      go_enter Tryz.func122, Tryz.ntmps122
      go_wp2_with (first
        | (go_at_call 122; refine (h1 _).mono ?_; clear h1; rintro e w1 ⟨rfl, b1⟩)
        | (go_at_call 122; refine (h2 _).mono ?_; clear h2; rintro e w2 ⟨rfl, b2⟩))
      go_ret
      exact ⟨rfl, b1.trans (b2.mono b1.size)⟩

set_option maxRecDepth 100000 in
set_option maxHeartbeats 1000000 in
theorem refDecimal_k (n : Int) (h0 : -9223372036854775808 ≤ n) (h1 : n ≤ 9223372036854775807) (w : World) :
    Calls Tryz.prog 96 #[.int .i64 n] w fun e w' => e = .returned (.string (str (Lib.itoa n))) ∧ Below w.heap.size w w' := by
  by_cases hn : n < 0
  · have hd := refDigits_k n.natAbs (by omega)
    have e : Lib.itoa n = 45 :: Lib.decDigits n.natAbs := by unfold Lib.itoa; rw [if_pos hn]
    have ec : (⟨#[45]⟩ : ByteArray) ++ str (Lib.decDigits n.natAbs) = str (Lib.itoa n) := by
      rw [e, cat_str]
      rfl
    have hl : (str (Lib.decDigits n.natAbs)).size ≤ 20 := by rw [str_size]; exact dec_len 19 _ (by omega)
    have hN : ((n.natAbs : Nat) : Int) = -(n + 1) + 1 := by omega
    rw [hN] at hd
    clear e hN
    generalize str (Lib.decDigits n.natAbs) = SA at *
    generalize str (Lib.itoa n) = SC at *
    go_enter Tryz.func96, Tryz.ntmps96
    go_wp2_with (go_at_call 122; refine (hd _).mono ?_; rintro e w1 ⟨rfl, b1⟩)
    go_ret
    exact ⟨rfl, b1⟩
  · have hd := refDigits_k n.toNat (by omega)
    have e : Lib.itoa n = Lib.decDigits n.toNat := by unfold Lib.itoa; rw [if_neg hn]
    have hN : ((n.toNat : Nat) : Int) = n := by omega
    rw [hN] at hd
    rw [e]
    generalize str (Lib.decDigits n.toNat) = SA at *
    clear hN e
    go_enter Tryz.func96, Tryz.ntmps96
    go_wp2_with (go_at_call 122; refine (hd _).mono ?_; rintro e w1 ⟨rfl, b1⟩)
    go_ret
    exact ⟨rfl, b1⟩

/-- What is told of the byte at a place of a text of digits. -/
theorem drop_take (l : List UInt8) (i k : Nat) (hi : i ≤ k) (hk : k < l.length) : (l.drop i).take (k + 1 - i) = (l.drop i).take (k - i) ++ [l.getD k 0] := (take_more l i k hi hk).symm
theorem mem_drop_take {l : List UInt8} {i k : Nat} {b : UInt8} (h : b ∈ (l.drop i).take k) : b ∈ l.drop i := List.mem_of_mem_take h
theorem getD_mem_drop (l : List UInt8) (i k : Nat) (hi : i ≤ k) (hk : k < l.length) : l.getD k 0 ∈ l.drop i := by
  have e : (l.drop i)[k - i]? = some (l.getD k 0) := by
    rw [List.getElem?_drop, List.getD_eq_getElem?_getD]
    have e2 : i + (k - i) = k := by omega
    rw [e2, List.getElem?_eq_getElem hk]
    rfl
  exact List.mem_of_getElem? e

end Go.Proofs.YtcedpdneanjbkaaGreatDoor

/- The reference's written and Print. -/
namespace Go.Proofs.YtcedpdneanjbkaaGreatDoor
open Go.RowKit

def RWrC (n : Nat) : Prop := ∀ (v : Vl) (w : World) (B : Nat) (sl : Value), formV v = true → v.ok → v.size ≤ 1000000000 → (prV v).length ≤ 1000000000000 → B ≤ w.heap.size → ItemsAt w B n sl v.items →
  Calls Tryz.prog 63 #[.agg (vcells v sl)] w fun e w' => e = .returned (.string (str (prV v))) ∧ Below w.heap.size w w'
/-- The first texts, with a comma and a blank between each two. -/
def jn (l : List Vl) (k : Nat) : List UInt8 := Lib.join ((l.take k).map prV) [44, 32]
theorem jn_zero (l : List Vl) : jn l 0 = [] := by unfold jn; rw [List.take_zero]; rfl
theorem jn_one (l : List Vl) (h : 0 < l.length) : jn l 1 = prV l[0] := by
  unfold jn
  cases l with
  | nil => simp at h
  | cons x r => simp [Lib.join_one]
theorem jn_succ (l : List Vl) (k : Nat) (h0 : 0 < k) (h : k < l.length) : jn l (k + 1) = jn l k ++ [44, 32] ++ prV l[k] := by
  unfold jn
  cases l with
  | nil => simp at h
  | cons x r =>
    obtain ⟨q, rfl⟩ : ∃ q, k = q + 1 := ⟨k - 1, by omega⟩
    have hq : q < r.length := by simpa using h
    have := Lib.joinTail_take_succ [44, 32] (r.map prV) q (prV r[q]) (by simp [hq])
    rw [List.take_succ_cons, List.take_succ_cons, List.map_cons, List.map_cons, Lib.join_cons, Lib.join_cons, List.map_take, this, List.map_take]
    simp
theorem jn_le (l : List Vl) (k : Nat) : (jn l k).length ≤ (Lib.join (l.map prV) [44, 32]).length := by
  unfold jn
  cases l with
  | nil => simp
  | cons x r =>
    cases k with
    | zero => simp [Lib.join_nil]
    | succ q =>
      rw [List.take_succ_cons, List.map_cons, List.map_cons, Lib.join_cons, Lib.join_cons, List.length_append, List.length_append, List.map_take]
      have := Lib.joinTail_take_le [44, 32] (r.map prV) q
      omega
theorem jn_all (l : List Vl) {k : Nat} (h : l.length ≤ k) : jn l k = Lib.join (l.map prV) [44, 32] := by unfold jn; rw [List.take_of_length_le h]
theorem str_lit (x : List UInt8) : (⟨⟨x⟩⟩ : ByteArray) = str x := rfl
set_option maxRecDepth 100000 in
set_option maxHeartbeats 1000000 in
theorem rwr_bool (i m : Int) (t : ByteArray) (l : List Vl) (a : Option Addr) (c : Nat) (w : World) (hi : i = 0 ∨ i = 1) :
    Calls Tryz.prog 63 #[.agg (vcells ⟨1, i, m, t, l⟩ (.slice a l.length c))] w fun e w' => e = .returned (.string (str (prV ⟨1, i, m, t, l⟩))) ∧ Below w.heap.size w w' := by
  obtain ⟨W, hW⟩ : ∃ W, w.alloc (.cells (vcells ⟨1, i, m, t, l⟩ (.slice a l.length c)) 46) = W := ⟨_, rfl⟩
  have bW : Below w.heap.size w W := by rw [← hW]; exact alloc_v (Below.refl _ _) _
  have e1 : W.heap[w.heap.size]? = some (.cells (vcells ⟨1, i, m, t, l⟩ (.slice a l.length c)) 46 (0, 0)) := by rw [← hW]; exact World.alloc_heap_new w _
  have zW : w.heap.size < W.heap.size := (Array.getElem?_eq_some_iff.1 e1).1
  have x0 := cells_at e1 0 _ rfl
  have x1 := cells_at e1 1 _ rfl
  have x2 := cells_at e1 2 _ rfl
  have x3 := cells_at e1 3 _ rfl
  have x4 := cells_at e1 4 _ rfl
  clear e1
  rcases hi with rfl | rfl
  · rw [pr_false]
    go_enter Tryz.func63, Tryz.ntmps63
    go_wp2
    go_ret
    exact ⟨rfl, bW⟩
  · rw [pr_true]
    go_enter Tryz.func63, Tryz.ntmps63
    go_wp2
    go_ret
    exact ⟨rfl, bW⟩
set_option maxRecDepth 100000 in
set_option maxHeartbeats 1000000 in
theorem rwr_int (i m : Int) (t : ByteArray) (l : List Vl) (a : Option Addr) (c : Nat) (w : World) (h0 : -9223372036854775808 ≤ i) (h1 : i ≤ 9223372036854775807) :
    Calls Tryz.prog 63 #[.agg (vcells ⟨2, i, m, t, l⟩ (.slice a l.length c))] w fun e w' => e = .returned (.string (str (prV ⟨2, i, m, t, l⟩))) ∧ Below w.heap.size w w' := by
  obtain ⟨W, hW⟩ : ∃ W, w.alloc (.cells (vcells ⟨2, i, m, t, l⟩ (.slice a l.length c)) 46) = W := ⟨_, rfl⟩
  have bW : Below w.heap.size w W := by rw [← hW]; exact alloc_v (Below.refl _ _) _
  have e1 : W.heap[w.heap.size]? = some (.cells (vcells ⟨2, i, m, t, l⟩ (.slice a l.length c)) 46 (0, 0)) := by rw [← hW]; exact World.alloc_heap_new w _
  have zW : w.heap.size < W.heap.size := (Array.getElem?_eq_some_iff.1 e1).1
  have x0 := cells_at e1 0 _ rfl
  have x1 := cells_at e1 1 _ rfl
  have x2 := cells_at e1 2 _ rfl
  have x3 := cells_at e1 3 _ rfl
  have x4 := cells_at e1 4 _ rfl
  clear e1
  have HD := hide (refDecimal_k i h0 h1 W)
  rw [pr_int]
  go_enter Tryz.func63, Tryz.ntmps63
  go_wp2_with (go_at_call 96; refine HD.out.mono ?_; clear HD; rintro e w1 ⟨rfl, b1⟩)
  go_ret
  exact ⟨rfl, trans_v bW b1⟩
set_option maxRecDepth 100000 in
set_option maxHeartbeats 1000000 in
theorem rwr_sym (i m : Int) (t : ByteArray) (l : List Vl) (a : Option Addr) (c : Nat) (w : World) :
    Calls Tryz.prog 63 #[.agg (vcells ⟨4, i, m, t, l⟩ (.slice a l.length c))] w fun e w' => e = .returned (.string (str (prV ⟨4, i, m, t, l⟩))) ∧ Below w.heap.size w w' := by
  obtain ⟨W, hW⟩ : ∃ W, w.alloc (.cells (vcells ⟨4, i, m, t, l⟩ (.slice a l.length c)) 46) = W := ⟨_, rfl⟩
  have bW : Below w.heap.size w W := by rw [← hW]; exact alloc_v (Below.refl _ _) _
  have e1 : W.heap[w.heap.size]? = some (.cells (vcells ⟨4, i, m, t, l⟩ (.slice a l.length c)) 46 (0, 0)) := by rw [← hW]; exact World.alloc_heap_new w _
  have zW : w.heap.size < W.heap.size := (Array.getElem?_eq_some_iff.1 e1).1
  have x0 := cells_at e1 0 _ rfl
  have x1 := cells_at e1 1 _ rfl
  have x2 := cells_at e1 2 _ rfl
  have x3 := cells_at e1 3 _ rfl
  have x4 := cells_at e1 4 _ rfl
  clear e1
  rw [pr_sym, show str t.data.toList = t from str_bytes t]
  go_enter Tryz.func63, Tryz.ntmps63
  go_wp2
  go_ret
  exact ⟨rfl, bW⟩
set_option maxRecDepth 100000 in
set_option maxHeartbeats 1000000 in
theorem rwr_gauss (i m : Int) (t : ByteArray) (l : List Vl) (a : Option Addr) (c : Nat) (w : World) (h0 : -9223372036854775808 ≤ i) (h1 : i ≤ 9223372036854775807) (h2 : -9223372036854775808 ≤ m) (h3 : m ≤ 9223372036854775807) (hn : (prV ⟨3, i, m, t, l⟩).length ≤ 1000000000000) :
    Calls Tryz.prog 63 #[.agg (vcells ⟨3, i, m, t, l⟩ (.slice a l.length c))] w fun e w' => e = .returned (.string (str (prV ⟨3, i, m, t, l⟩))) ∧ Below w.heap.size w w' := by
  obtain ⟨W, hW⟩ : ∃ W, w.alloc (.cells (vcells ⟨3, i, m, t, l⟩ (.slice a l.length c)) 46) = W := ⟨_, rfl⟩
  have bW : Below w.heap.size w W := by rw [← hW]; exact alloc_v (Below.refl _ _) _
  have e1 : W.heap[w.heap.size]? = some (.cells (vcells ⟨3, i, m, t, l⟩ (.slice a l.length c)) 46 (0, 0)) := by rw [← hW]; exact World.alloc_heap_new w _
  have zW : w.heap.size < W.heap.size := (Array.getElem?_eq_some_iff.1 e1).1
  have x0 := cells_at e1 0 _ rfl
  have x1 := cells_at e1 1 _ rfl
  have x2 := cells_at e1 2 _ rfl
  have x3 := cells_at e1 3 _ rfl
  have x4 := cells_at e1 4 _ rfl
  have v0 := fun q : Wv W => q.cell x0
  have v1 := fun q : Wv W => q.cell x1
  have v2 := fun q : Wv W => q.cell x2
  have v3 := fun q : Wv W => q.cell x3
  have v4 := fun q : Wv W => q.cell x4
  have HI := hide (fun U : World => refDecimal_k i h0 h1 U)
  have HM := hide (fun U : World => refDecimal_k m h2 h3 U)
  have hany := Wv.any W
  rw [pr_gauss] at hn ⊢
  clear e1 h0 h1 h2 h3
  by_cases hm : 0 ≤ m
  · rw [if_pos hm] at hn ⊢
    simp at hn
    have c1 := fun U => cat (Lib.itoa i) [43] (by simp; omega) U
    have c2 := fun U => cat (Lib.itoa i ++ [43]) (Lib.itoa m) (by simp; omega) U
    have c3 := fun U => cat (Lib.itoa i ++ [43] ++ Lib.itoa m) [105] (by simp; omega) U
    have d1 : ∀ U, (Op.stringOp .add (str (Lib.itoa i)) ⟨#[43]⟩).run Tryz.prog U = .ok (.string (str (Lib.itoa i ++ [43]))) U := c1
    have d3 : ∀ U, (Op.stringOp .add (str (Lib.itoa i ++ [43] ++ Lib.itoa m)) ⟨#[105]⟩).run Tryz.prog U = .ok (.string (str (Lib.itoa i ++ [43] ++ Lib.itoa m ++ [105]))) U := c3
    clear c1 c3 hn
    generalize Lib.itoa i = x at *
    generalize Lib.itoa m = y at *
    generalize str (x ++ [43] ++ y ++ [105]) = s4 at *
    generalize str (x ++ [43] ++ y) = s3 at *
    generalize str (x ++ [43]) = s2 at *
    go_enter Tryz.func63, Tryz.ntmps63
    go_wp2
    refine wp_region_grown (by kernel_rfl) (by kernel_rfl) ?_
    repeat (go_big_quiet_step ((first
      | (go_at_call 96; with_reducible exact Wv.calls _ (HI.out _))
      | (go_at_call 96; with_reducible exact Wv.calls _ (HM.out _)))))
    refine wpQuiet_nil ?_
    intro w1 hw'
    obtain ⟨q, rfl⟩ := hw'
    clear v0 v1 v2 v3 v4 hany
    go_wp2
    go_ret
    exact ⟨rfl, trans_v bW q.below⟩
  · rw [if_neg hm] at hn ⊢
    simp at hn
    have c1 := fun U => cat (Lib.itoa i) [] (by simp; omega) U
    have c2 := fun U => cat (Lib.itoa i ++ []) (Lib.itoa m) (by simp; omega) U
    have c3 := fun U => cat (Lib.itoa i ++ [] ++ Lib.itoa m) [105] (by simp; omega) U
    have d1 : ∀ U, (Op.stringOp .add (str (Lib.itoa i)) ⟨#[]⟩).run Tryz.prog U = .ok (.string (str (Lib.itoa i ++ []))) U := c1
    have d3 : ∀ U, (Op.stringOp .add (str (Lib.itoa i ++ [] ++ Lib.itoa m)) ⟨#[105]⟩).run Tryz.prog U = .ok (.string (str (Lib.itoa i ++ [] ++ Lib.itoa m ++ [105]))) U := c3
    clear c1 c3 hn
    generalize Lib.itoa i = x at *
    generalize Lib.itoa m = y at *
    generalize str (x ++ [] ++ y ++ [105]) = s4 at *
    generalize str (x ++ [] ++ y) = s3 at *
    generalize str (x ++ []) = s2 at *
    go_enter Tryz.func63, Tryz.ntmps63
    go_wp2
    refine wp_region_grown (by kernel_rfl) (by kernel_rfl) ?_
    repeat (go_big_quiet_step ((first
      | (go_at_call 96; with_reducible exact Wv.calls _ (HI.out _))
      | (go_at_call 96; with_reducible exact Wv.calls _ (HM.out _)))))
    refine wpQuiet_nil ?_
    intro w1 hw'
    obtain ⟨q, rfl⟩ := hw'
    clear v0 v1 v2 v3 v4 hany
    go_wp2
    go_ret
    exact ⟨rfl, trans_v bW q.below⟩
set_option maxRecDepth 100000 in
set_option maxHeartbeats 1000000 in
theorem rwr_row5 (i m : Int) (t : ByteArray) (l : List Vl) (a : Option Addr) (c : Nat) (w : World) (n B : Nat) (hC : RWrC n) (hBw : B ≤ w.heap.size) (hi : ItemsAt w B (n + 1) (.slice a l.length c) l) (hf : ∀ x ∈ l, formV x = true) (hz : ∀ x ∈ l, x.size ≤ 1000000000) (hll : l.length ≤ 1000000000) (hn : (Lib.join (l.map prV) [44, 32]).length ≤ 1000000000000) :
    Calls Tryz.prog 63 #[.agg (vcells ⟨5, i, m, t, l⟩ (.slice a l.length c))] w fun e w' => e = .returned (.string (str (prV ⟨5, i, m, t, l⟩))) ∧ Below w.heap.size w w' := by
  obtain ⟨W, hW⟩ : ∃ W, w.alloc (.cells (vcells ⟨5, i, m, t, l⟩ (.slice a l.length c)) 46) = W := ⟨_, rfl⟩
  have bW : Below w.heap.size w W := by rw [← hW]; exact alloc_v (Below.refl _ _) _
  have e1 : W.heap[w.heap.size]? = some (.cells (vcells ⟨5, i, m, t, l⟩ (.slice a l.length c)) 46 (0, 0)) := by rw [← hW]; exact World.alloc_heap_new w _
  have zW : w.heap.size < W.heap.size := (Array.getElem?_eq_some_iff.1 e1).1
  have x0 := cells_at e1 0 _ rfl
  have x1 := cells_at e1 1 _ rfl
  have x2 := cells_at e1 2 _ rfl
  have x3 := cells_at e1 3 _ rfl
  have x4 := cells_at e1 4 _ rfl
  have HB := hide (fun (U : World) (b : Below W.heap.size W U) => (b.block _ zW).trans e1)
  have HI := hide (hi.below (bW.mono hBw))
  have HJ := hide (fun q : Nat => Nat.le_trans (jn_le l q) hn)
  have HCC := hide hC
  have HF := hide hf
  have HZ := hide hz
  have HMEM := hide (fun (q : Nat) (h : q < l.length) => Nat.le_trans (join_mem [44, 32] (List.mem_map_of_mem (f := prV) (List.getElem_mem h))) hn)
  clear e1 hi hC hf hz
  go_enter Tryz.func63, Tryz.ntmps63
  go_wp2
  clear x0 x1 x2 x3 x4 hW
  go_loopw [4, 5] (fun s u wr => ∃ q : Nat, q ≤ l.length ∧ u = .int .i64 q ∧ s = .string (str (jn l q)) ∧ Below W.heap.size W wr) (fun _ u _ => l.length - (intOf u).toNat)
  case atStart => exact ⟨0, Nat.zero_le _, rfl, by rw [jn_zero]; rfl, Below.refl _ _⟩
  case round =>
    obtain ⟨q, hq, rfl, rfl, hbel⟩ := hrel
    have y4 := cells_at (HB.out wr hbel) 4 _ rfl
    have y0 := cells_at (HB.out wr hbel) 0 _ rfl
    by_cases hlt : q < l.length
    · obtain ⟨b1, o1, s1, rfl, g1, p0, p1, p2, p3, p4, p5, p6⟩ := (HI.out.below (hbel.mono (by have := bW.size; omega))).item q hlt
      have l1 : b1 < wr.heap.size := by have := hbel.size; have := bW.size; omega
      have HC := hide (HCC.out l[q] wr B s1 (HF.out _ (List.getElem_mem hlt)) p6 (HZ.out _ (List.getElem_mem hlt)) (HMEM.out q hlt) (by have := hbel.size; have := bW.size; omega) p5)
      have hj1 := HJ.out q
      have hm1 := HMEM.out q hlt
      obtain ⟨xx1, yy1, rfl, _⟩ := p5.len
      have HBL := hide hbel
      clear p5 p6 g1 hbel
      by_cases h0 : 0 < q
      · have hgt : ((q : Int) > 0) := by omega
        have c1 := fun U => cat (jn l q) [44, 32] (by simp; omega) U
        have d1 : ∀ U, (Op.stringOp .add (str (jn l q)) ⟨#[44, 32]⟩).run Tryz.prog U = .ok (.string (str (jn l q ++ [44, 32]))) U := c1
        have d2 := fun U => cat (jn l q ++ [44, 32]) (prV l[q]) (by simp; omega) U
        have HS := hide (jn_succ l q h0 hlt)
        clear c1 hj1 hm1
        generalize prV l[q] = pv at *
        generalize l[q].items = xi at *
        generalize l[q] = x at *
        rw [← HS.out] at d2
        clear HS
        go_wp2_with (go_at_call 63; refine HC.out.mono ?_; clear HC; rintro e w5 ⟨rfl, b5⟩)
        go_roundw
        case rel => exact ⟨q + 1, by omega, by go_num, rfl, trans_v HBL.out b5⟩
        case measure => simp [intOf]; omega
      · obtain rfl : q = 0 := by omega
        have d2 := fun U => cat (jn l 0) (prV l[0]) (by omega) U
        have HS := hide (show jn l 0 ++ prV l[0] = jn l 1 by rw [jn_zero, jn_one l hlt]; rfl)
        clear hj1 hm1
        generalize prV l[0] = pv at *
        generalize l[0].items = xi at *
        generalize l[0] = x at *
        rw [HS.out] at d2
        clear HS
        (try simp only [Nat.zero_mul, Nat.add_zero] at p0)
        (try simp only [Nat.zero_mul, Nat.add_zero] at p1)
        (try simp only [Nat.zero_mul, Nat.add_zero] at p2)
        (try simp only [Nat.zero_mul, Nat.add_zero] at p3)
        (try simp only [Nat.zero_mul, Nat.add_zero] at p4)
        go_wp2_with (go_at_call 63; refine HC.out.mono ?_; clear HC; rintro e w5 ⟨rfl, b5⟩)
        go_roundw
        case rel => exact ⟨1, by omega, rfl, rfl, trans_v HBL.out b5⟩
        case measure => simp [intOf]; omega
    · have hje := jn_all l (k := q) (by omega)
      rw [hje]
      have HBL := hide hbel
      clear hje HCC HF HZ HI HJ HMEM hbel
      by_cases hone : l.length = 1
      · have HPR := hide (show str (prV ⟨5, i, m, t, l⟩) = str ([40] ++ (Lib.join (l.map prV) [44, 32] ++ [44]) ++ [41]) by rw [pr_one _ _ _ _ hone]; simp)
        have hone' : ((l.length : Int) == 1) = true := by simp [hone]
        have c0 := fun U => cat (Lib.join (l.map prV) [44, 32]) [44] (by simp; omega) U
        have c1 := fun U => cat [40] (Lib.join (l.map prV) [44, 32] ++ [44]) (by simp; omega) U
        have c2 := fun U => cat ([40] ++ (Lib.join (l.map prV) [44, 32] ++ [44])) [41] (by simp; omega) U
        have d0 : ∀ U, (Op.stringOp .add (str (Lib.join (l.map prV) [44, 32])) ⟨#[44]⟩).run Tryz.prog U = .ok (.string (str (Lib.join (l.map prV) [44, 32] ++ [44]))) U := c0
        have d1 : ∀ U, (Op.stringOp .add ⟨#[40]⟩ (str (Lib.join (l.map prV) [44, 32] ++ [44]))).run Tryz.prog U = .ok (.string (str ([40] ++ (Lib.join (l.map prV) [44, 32] ++ [44])))) U := c1
        have d2 : ∀ U, (Op.stringOp .add (str ([40] ++ (Lib.join (l.map prV) [44, 32] ++ [44]))) ⟨#[41]⟩).run Tryz.prog U = .ok (.string (str ([40] ++ (Lib.join (l.map prV) [44, 32] ++ [44]) ++ [41]))) U := c2
        clear c0 c1 c2
        generalize str ([40] ++ (Lib.join (l.map prV) [44, 32] ++ [44]) ++ [41]) = s3 at *
        generalize str ([40] ++ (Lib.join (l.map prV) [44, 32] ++ [44])) = s2 at *
        generalize str (Lib.join (l.map prV) [44, 32] ++ [44]) = s1 at *
        generalize str (Lib.join (l.map prV) [44, 32]) = s0 at *
        go_wp2
        go_ret
        rw [HPR.out]
        exact ⟨rfl, trans_v bW HBL.out⟩
      · have HPR := hide (show str (prV ⟨5, i, m, t, l⟩) = str ([40] ++ Lib.join (l.map prV) [44, 32] ++ [41]) by rw [pr_tuple _ _ _ _ hone]; rfl)
        have hone' : ((l.length : Int) == 1) = false := by simp; omega
        have c1 := fun U => cat [40] (Lib.join (l.map prV) [44, 32]) (by simp; omega) U
        have c2 := fun U => cat ([40] ++ Lib.join (l.map prV) [44, 32]) [41] (by simp; omega) U
        have d1 : ∀ U, (Op.stringOp .add ⟨#[40]⟩ (str (Lib.join (l.map prV) [44, 32]))).run Tryz.prog U = .ok (.string (str ([40] ++ Lib.join (l.map prV) [44, 32]))) U := c1
        have d2 : ∀ U, (Op.stringOp .add (str ([40] ++ Lib.join (l.map prV) [44, 32])) ⟨#[41]⟩).run Tryz.prog U = .ok (.string (str ([40] ++ Lib.join (l.map prV) [44, 32] ++ [41]))) U := c2
        clear c1 c2
        generalize str ([40] ++ Lib.join (l.map prV) [44, 32] ++ [41]) = s2 at *
        generalize str ([40] ++ Lib.join (l.map prV) [44, 32]) = s1 at *
        generalize str (Lib.join (l.map prV) [44, 32]) = s0 at *
        go_wp2
        go_ret
        rw [HPR.out]
        exact ⟨rfl, trans_v bW HBL.out⟩
set_option maxRecDepth 100000 in
set_option maxHeartbeats 1000000 in
theorem rwr_row6 (i m : Int) (t : ByteArray) (l : List Vl) (a : Option Addr) (c : Nat) (w : World) (n B : Nat) (hC : RWrC n) (hBw : B ≤ w.heap.size) (hi : ItemsAt w B (n + 1) (.slice a l.length c) l) (hf : ∀ x ∈ l, formV x = true) (hz : ∀ x ∈ l, x.size ≤ 1000000000) (hll : l.length ≤ 1000000000) (hn : (Lib.join (l.map prV) [44, 32]).length ≤ 1000000000000) :
    Calls Tryz.prog 63 #[.agg (vcells ⟨6, i, m, t, l⟩ (.slice a l.length c))] w fun e w' => e = .returned (.string (str (prV ⟨6, i, m, t, l⟩))) ∧ Below w.heap.size w w' := by
  obtain ⟨W, hW⟩ : ∃ W, w.alloc (.cells (vcells ⟨6, i, m, t, l⟩ (.slice a l.length c)) 46) = W := ⟨_, rfl⟩
  have bW : Below w.heap.size w W := by rw [← hW]; exact alloc_v (Below.refl _ _) _
  have e1 : W.heap[w.heap.size]? = some (.cells (vcells ⟨6, i, m, t, l⟩ (.slice a l.length c)) 46 (0, 0)) := by rw [← hW]; exact World.alloc_heap_new w _
  have zW : w.heap.size < W.heap.size := (Array.getElem?_eq_some_iff.1 e1).1
  have x0 := cells_at e1 0 _ rfl
  have x1 := cells_at e1 1 _ rfl
  have x2 := cells_at e1 2 _ rfl
  have x3 := cells_at e1 3 _ rfl
  have x4 := cells_at e1 4 _ rfl
  have HB := hide (fun (U : World) (b : Below W.heap.size W U) => (b.block _ zW).trans e1)
  have HI := hide (hi.below (bW.mono hBw))
  have HJ := hide (fun q : Nat => Nat.le_trans (jn_le l q) hn)
  have HCC := hide hC
  have HF := hide hf
  have HZ := hide hz
  have HMEM := hide (fun (q : Nat) (h : q < l.length) => Nat.le_trans (join_mem [44, 32] (List.mem_map_of_mem (f := prV) (List.getElem_mem h))) hn)
  clear e1 hi hC hf hz
  go_enter Tryz.func63, Tryz.ntmps63
  go_wp2
  clear x0 x1 x2 x3 x4 hW
  go_loopw [4, 5] (fun s u wr => ∃ q : Nat, q ≤ l.length ∧ u = .int .i64 q ∧ s = .string (str (jn l q)) ∧ Below W.heap.size W wr) (fun _ u _ => l.length - (intOf u).toNat)
  case atStart => exact ⟨0, Nat.zero_le _, rfl, by rw [jn_zero]; rfl, Below.refl _ _⟩
  case round =>
    obtain ⟨q, hq, rfl, rfl, hbel⟩ := hrel
    have y4 := cells_at (HB.out wr hbel) 4 _ rfl
    have y0 := cells_at (HB.out wr hbel) 0 _ rfl
    by_cases hlt : q < l.length
    · obtain ⟨b1, o1, s1, rfl, g1, p0, p1, p2, p3, p4, p5, p6⟩ := (HI.out.below (hbel.mono (by have := bW.size; omega))).item q hlt
      have l1 : b1 < wr.heap.size := by have := hbel.size; have := bW.size; omega
      have HC := hide (HCC.out l[q] wr B s1 (HF.out _ (List.getElem_mem hlt)) p6 (HZ.out _ (List.getElem_mem hlt)) (HMEM.out q hlt) (by have := hbel.size; have := bW.size; omega) p5)
      have hj1 := HJ.out q
      have hm1 := HMEM.out q hlt
      obtain ⟨xx1, yy1, rfl, _⟩ := p5.len
      have HBL := hide hbel
      clear p5 p6 g1 hbel
      by_cases h0 : 0 < q
      · have hgt : ((q : Int) > 0) := by omega
        have c1 := fun U => cat (jn l q) [44, 32] (by simp; omega) U
        have d1 : ∀ U, (Op.stringOp .add (str (jn l q)) ⟨#[44, 32]⟩).run Tryz.prog U = .ok (.string (str (jn l q ++ [44, 32]))) U := c1
        have d2 := fun U => cat (jn l q ++ [44, 32]) (prV l[q]) (by simp; omega) U
        have HS := hide (jn_succ l q h0 hlt)
        clear c1 hj1 hm1
        generalize prV l[q] = pv at *
        generalize l[q].items = xi at *
        generalize l[q] = x at *
        rw [← HS.out] at d2
        clear HS
        go_wp2_with (go_at_call 63; refine HC.out.mono ?_; clear HC; rintro e w5 ⟨rfl, b5⟩)
        go_roundw
        case rel => exact ⟨q + 1, by omega, by go_num, rfl, trans_v HBL.out b5⟩
        case measure => simp [intOf]; omega
      · obtain rfl : q = 0 := by omega
        have d2 := fun U => cat (jn l 0) (prV l[0]) (by omega) U
        have HS := hide (show jn l 0 ++ prV l[0] = jn l 1 by rw [jn_zero, jn_one l hlt]; rfl)
        clear hj1 hm1
        generalize prV l[0] = pv at *
        generalize l[0].items = xi at *
        generalize l[0] = x at *
        rw [HS.out] at d2
        clear HS
        (try simp only [Nat.zero_mul, Nat.add_zero] at p0)
        (try simp only [Nat.zero_mul, Nat.add_zero] at p1)
        (try simp only [Nat.zero_mul, Nat.add_zero] at p2)
        (try simp only [Nat.zero_mul, Nat.add_zero] at p3)
        (try simp only [Nat.zero_mul, Nat.add_zero] at p4)
        go_wp2_with (go_at_call 63; refine HC.out.mono ?_; clear HC; rintro e w5 ⟨rfl, b5⟩)
        go_roundw
        case rel => exact ⟨1, by omega, rfl, rfl, trans_v HBL.out b5⟩
        case measure => simp [intOf]; omega
    · have hje := jn_all l (k := q) (by omega)
      rw [hje]
      have HBL := hide hbel
      clear hje HCC HF HZ HI HJ HMEM hbel
      have HPR := hide (show str (prV ⟨6, i, m, t, l⟩) = str ([91] ++ Lib.join (l.map prV) [44, 32] ++ [93]) by rw [pr_list]; rfl)
      have c1 := fun U => cat [91] (Lib.join (l.map prV) [44, 32]) (by simp; omega) U
      have c2 := fun U => cat ([91] ++ Lib.join (l.map prV) [44, 32]) [93] (by simp; omega) U
      have d1 : ∀ U, (Op.stringOp .add ⟨#[91]⟩ (str (Lib.join (l.map prV) [44, 32]))).run Tryz.prog U = .ok (.string (str ([91] ++ Lib.join (l.map prV) [44, 32]))) U := c1
      have d2 : ∀ U, (Op.stringOp .add (str ([91] ++ Lib.join (l.map prV) [44, 32])) ⟨#[93]⟩).run Tryz.prog U = .ok (.string (str ([91] ++ Lib.join (l.map prV) [44, 32] ++ [93]))) U := c2
      clear c1 c2
      generalize str ([91] ++ Lib.join (l.map prV) [44, 32] ++ [93]) = s2 at *
      generalize str ([91] ++ Lib.join (l.map prV) [44, 32]) = s1 at *
      generalize str (Lib.join (l.map prV) [44, 32]) = s0 at *
      go_wp2
      go_ret
      rw [HPR.out]
      exact ⟨rfl, trans_v bW HBL.out⟩
set_option maxRecDepth 100000 in
set_option maxHeartbeats 1000000 in
theorem rwr_row7 (i m : Int) (t : ByteArray) (l : List Vl) (a : Option Addr) (c : Nat) (w : World) (n B : Nat) (hC : RWrC n) (hBw : B ≤ w.heap.size) (hi : ItemsAt w B (n + 1) (.slice a l.length c) l) (hf : ∀ x ∈ l, formV x = true) (hz : ∀ x ∈ l, x.size ≤ 1000000000) (hll : l.length ≤ 1000000000) (hn : (Lib.join (l.map prV) [44, 32]).length ≤ 1000000000000) :
    Calls Tryz.prog 63 #[.agg (vcells ⟨7, i, m, t, l⟩ (.slice a l.length c))] w fun e w' => e = .returned (.string (str (prV ⟨7, i, m, t, l⟩))) ∧ Below w.heap.size w w' := by
  obtain ⟨W, hW⟩ : ∃ W, w.alloc (.cells (vcells ⟨7, i, m, t, l⟩ (.slice a l.length c)) 46) = W := ⟨_, rfl⟩
  have bW : Below w.heap.size w W := by rw [← hW]; exact alloc_v (Below.refl _ _) _
  have e1 : W.heap[w.heap.size]? = some (.cells (vcells ⟨7, i, m, t, l⟩ (.slice a l.length c)) 46 (0, 0)) := by rw [← hW]; exact World.alloc_heap_new w _
  have zW : w.heap.size < W.heap.size := (Array.getElem?_eq_some_iff.1 e1).1
  have x0 := cells_at e1 0 _ rfl
  have x1 := cells_at e1 1 _ rfl
  have x2 := cells_at e1 2 _ rfl
  have x3 := cells_at e1 3 _ rfl
  have x4 := cells_at e1 4 _ rfl
  have HB := hide (fun (U : World) (b : Below W.heap.size W U) => (b.block _ zW).trans e1)
  have HI := hide (hi.below (bW.mono hBw))
  have HJ := hide (fun q : Nat => Nat.le_trans (jn_le l q) hn)
  have HCC := hide hC
  have HF := hide hf
  have HZ := hide hz
  have HMEM := hide (fun (q : Nat) (h : q < l.length) => Nat.le_trans (join_mem [44, 32] (List.mem_map_of_mem (f := prV) (List.getElem_mem h))) hn)
  clear e1 hi hC hf hz
  go_enter Tryz.func63, Tryz.ntmps63
  go_wp2
  clear x0 x1 x2 x3 x4 hW
  go_loopw [4, 5] (fun s u wr => ∃ q : Nat, q ≤ l.length ∧ u = .int .i64 q ∧ s = .string (str (jn l q)) ∧ Below W.heap.size W wr) (fun _ u _ => l.length - (intOf u).toNat)
  case atStart => exact ⟨0, Nat.zero_le _, rfl, by rw [jn_zero]; rfl, Below.refl _ _⟩
  case round =>
    obtain ⟨q, hq, rfl, rfl, hbel⟩ := hrel
    have y4 := cells_at (HB.out wr hbel) 4 _ rfl
    have y0 := cells_at (HB.out wr hbel) 0 _ rfl
    by_cases hlt : q < l.length
    · obtain ⟨b1, o1, s1, rfl, g1, p0, p1, p2, p3, p4, p5, p6⟩ := (HI.out.below (hbel.mono (by have := bW.size; omega))).item q hlt
      have l1 : b1 < wr.heap.size := by have := hbel.size; have := bW.size; omega
      have HC := hide (HCC.out l[q] wr B s1 (HF.out _ (List.getElem_mem hlt)) p6 (HZ.out _ (List.getElem_mem hlt)) (HMEM.out q hlt) (by have := hbel.size; have := bW.size; omega) p5)
      have hj1 := HJ.out q
      have hm1 := HMEM.out q hlt
      obtain ⟨xx1, yy1, rfl, _⟩ := p5.len
      have HBL := hide hbel
      clear p5 p6 g1 hbel
      by_cases h0 : 0 < q
      · have hgt : ((q : Int) > 0) := by omega
        have c1 := fun U => cat (jn l q) [44, 32] (by simp; omega) U
        have d1 : ∀ U, (Op.stringOp .add (str (jn l q)) ⟨#[44, 32]⟩).run Tryz.prog U = .ok (.string (str (jn l q ++ [44, 32]))) U := c1
        have d2 := fun U => cat (jn l q ++ [44, 32]) (prV l[q]) (by simp; omega) U
        have HS := hide (jn_succ l q h0 hlt)
        clear c1 hj1 hm1
        generalize prV l[q] = pv at *
        generalize l[q].items = xi at *
        generalize l[q] = x at *
        rw [← HS.out] at d2
        clear HS
        go_wp2_with (go_at_call 63; refine HC.out.mono ?_; clear HC; rintro e w5 ⟨rfl, b5⟩)
        go_roundw
        case rel => exact ⟨q + 1, by omega, by go_num, rfl, trans_v HBL.out b5⟩
        case measure => simp [intOf]; omega
      · obtain rfl : q = 0 := by omega
        have d2 := fun U => cat (jn l 0) (prV l[0]) (by omega) U
        have HS := hide (show jn l 0 ++ prV l[0] = jn l 1 by rw [jn_zero, jn_one l hlt]; rfl)
        clear hj1 hm1
        generalize prV l[0] = pv at *
        generalize l[0].items = xi at *
        generalize l[0] = x at *
        rw [HS.out] at d2
        clear HS
        (try simp only [Nat.zero_mul, Nat.add_zero] at p0)
        (try simp only [Nat.zero_mul, Nat.add_zero] at p1)
        (try simp only [Nat.zero_mul, Nat.add_zero] at p2)
        (try simp only [Nat.zero_mul, Nat.add_zero] at p3)
        (try simp only [Nat.zero_mul, Nat.add_zero] at p4)
        go_wp2_with (go_at_call 63; refine HC.out.mono ?_; clear HC; rintro e w5 ⟨rfl, b5⟩)
        go_roundw
        case rel => exact ⟨1, by omega, rfl, rfl, trans_v HBL.out b5⟩
        case measure => simp [intOf]; omega
    · have hje := jn_all l (k := q) (by omega)
      rw [hje]
      have HBL := hide hbel
      clear hje HCC HF HZ HI HJ HMEM hbel
      have HPR := hide (show str (prV ⟨7, i, m, t, l⟩) = str ([123] ++ Lib.join (l.map prV) [44, 32] ++ [125]) by rw [pr_set]; rfl)
      have c1 := fun U => cat [123] (Lib.join (l.map prV) [44, 32]) (by simp; omega) U
      have c2 := fun U => cat ([123] ++ Lib.join (l.map prV) [44, 32]) [125] (by simp; omega) U
      have d1 : ∀ U, (Op.stringOp .add ⟨#[123]⟩ (str (Lib.join (l.map prV) [44, 32]))).run Tryz.prog U = .ok (.string (str ([123] ++ Lib.join (l.map prV) [44, 32]))) U := c1
      have d2 : ∀ U, (Op.stringOp .add (str ([123] ++ Lib.join (l.map prV) [44, 32])) ⟨#[125]⟩).run Tryz.prog U = .ok (.string (str ([123] ++ Lib.join (l.map prV) [44, 32] ++ [125]))) U := c2
      clear c1 c2
      generalize str ([123] ++ Lib.join (l.map prV) [44, 32] ++ [125]) = s2 at *
      generalize str ([123] ++ Lib.join (l.map prV) [44, 32]) = s1 at *
      generalize str (Lib.join (l.map prV) [44, 32]) = s0 at *
      go_wp2
      go_ret
      rw [HPR.out]
      exact ⟨rfl, trans_v bW HBL.out⟩
end Go.Proofs.YtcedpdneanjbkaaGreatDoor

/- alive answers true. -/
namespace Go.Proofs.YtcedpdneanjbkaaGreatDoor
open Go.RowKit

/-- A value that lies in a block of its own, and its items. -/
def Keeps (W : World) (b : Nat) (a : Option Addr) (c n : Nat) : Prop := W.heap[b]? = some (.cells (vcells sv (.slice a 2 c)) 46 (0, 0)) ∧ ItemsAt W W.heap.size n (.slice a 2 c) sv.items
theorem Keeps.below {W W' : World} {b c n : Nat} {a : Option Addr} (h : Keeps W b a c n) (hb : Below W.heap.size W W') : Keeps W' b a c n :=
  ⟨(hb.block _ (Array.getElem?_eq_some_iff.1 h.1).1).trans h.1, (h.2.below hb).up hb.size⟩
theorem Keeps.new (W : World) (a : Option Addr) (c n : Nat) (h : ItemsAt W W.heap.size n (.slice a 2 c) sv.items) : Keeps (W.alloc (.cells (vcells sv (.slice a 2 c)) 46)) W.heap.size a c n :=
  ⟨World.alloc_heap_new W _, (h.below (alloc_v (Below.refl _ _) _)).up (by simp)⟩
theorem Keeps.cells {W : World} {b c n : Nat} {a : Option Addr} (h : Keeps W b a c n) : W.cell? ⟨b, 0, none⟩ = some (.int .i64 7) ∧ W.cell? ⟨b, 1, none⟩ = some (.int .i64 0) ∧ W.cell? ⟨b, 2, none⟩ = some (.int .i64 0) ∧ W.cell? ⟨b, 3, none⟩ = some (.string ⟨#[]⟩) ∧ W.cell? ⟨b, 4, none⟩ = some (.slice a 2 c) :=
  ⟨cells_at h.1 0 _ rfl, cells_at h.1 1 _ rfl, cells_at h.1 2 _ rfl, cells_at h.1 3 _ rfl, cells_at h.1 4 _ rfl⟩
theorem gauss_34 (w : World) : Calls Tryz.prog 199 #[.int .i64 3, .int .i64 (-4)] w fun e w' => e = .returned (.tuple #[.agg (vcells ⟨3, 3, -4, ⟨#[]⟩, []⟩ (.slice none 0 0)), .int .i64 0]) ∧ Below w.heap.size w w' := by
  refine (gauss_k 3 (-4) w).mono ?_
  rintro e w' ⟨rfl, hb⟩
  exact ⟨by rw [show gaussB 3 (-4) = true by decide]; rfl, hb⟩
/-- A fault that lies in a block of its own. -/
def FaultIs (W : World) (b : Nat) (cs : Array Value) : Prop := W.heap[b]? = some (.cells cs 53 (0, 0))
theorem FaultIs.below {W W' : World} {b : Nat} {cs : Array Value} (h : FaultIs W b cs) (hb : Below W.heap.size W W') : FaultIs W' b cs := (hb.block _ (Array.getElem?_eq_some_iff.1 h).1).trans h
theorem FaultIs.cells {W : World} {b : Nat} {x y z t : Value} (h : FaultIs W b #[x, y, z, t]) : W.cell? ⟨b, 0, none⟩ = some x ∧ W.cell? ⟨b, 1, none⟩ = some y ∧ W.cell? ⟨b, 2, none⟩ = some z ∧ W.cell? ⟨b, 3, none⟩ = some t := ⟨cells_at h 0 _ rfl, cells_at h 1 _ rfl, cells_at h 2 _ rfl, cells_at h 3 _ rfl⟩
theorem FaultIs.new (W : World) (o : Obj) (cs : Array Value) : FaultIs ((W.alloc o).alloc (.cells cs 53)) (W.heap.size + 1) cs := by
  have := World.alloc_heap_new (W.alloc o) (.cells cs 53)
  rwa [World.size_alloc] at this
end Go.Proofs.YtcedpdneanjbkaaGreatDoor

/- The reference's Print; ValuePrints answers true. -/
namespace Go.Proofs.YtcedpdneanjbkaaGreatDoor
open Go.RowKit

theorem rwr_k : ∀ n, RWrC n
  | 0 => fun _ _ _ _ _ _ _ _ _ h => h.elim
  | n + 1 => fun v w B sl hf hok hz hl hB hi => by
    obtain ⟨⟨hu, hg⟩, hall⟩ := form_parts hf
    obtain ⟨a, c, rfl, _⟩ := hi.len
    have hsz : ∀ x ∈ v.items, x.size ≤ 1000000000 := fun x hx => by have := Vl.size_item hx; omega
    have hll : v.items.length ≤ 1000000000 := by have := size_len v; omega
    obtain ⟨k, i, m, t, l⟩ := v
    unfold goodB at hg
    simp only at *
    split at hg
    · rename_i h
      rcases h with rfl | rfl | rfl | rfl
      · exact rwr_int i m t l a c w hok.2.1.1 hok.2.1.2
      · refine rwr_row5 i m t l a c w n B (rwr_k n) hB hi hall hsz hll ?_
        by_cases h1 : l.length = 1
        · rw [pr_one _ _ _ _ h1] at hl
          simp at hl
          omega
        · rw [pr_tuple _ _ _ _ h1] at hl
          simp at hl
          omega
      · refine rwr_row6 i m t l a c w n B (rwr_k n) hB hi hall hsz hll ?_
        rw [pr_list] at hl
        simp at hl
        omega
      · refine rwr_row7 i m t l a c w n B (rwr_k n) hB hi hall hsz hll ?_
        rw [pr_set] at hl
        simp at hl
        omega
    · split at hg
      · rename_i h
        subst h
        exact rwr_bool i m t l a c w (by simpa using hg)
      · split at hg
        · rename_i h
          subst h
          exact rwr_sym i m t l a c w
        · split at hg
          · rename_i h
            subst h
            exact rwr_gauss i m t l a c w hok.2.1.1 hok.2.1.2 hok.2.2.1 hok.2.2.2 hl
          · cases hg
theorem itoa_short {i : Int} (h0 : -9223372036854775808 ≤ i) (h1 : i ≤ 9223372036854775807) : (Lib.itoa i).length ≤ 21 := by
  unfold Lib.itoa
  have := dec_len 19 i.natAbs (by omega)
  split
  · simp; omega
  · have h2 : i.toNat = i.natAbs := by omega
    rw [h2]
    omega
theorem join_short {l : List Vl} {c : Nat} (h : ∀ x ∈ l, (prV x).length + 2 ≤ x.size * c) : (Lib.join (l.map prV) [44, 32]).length ≤ (l.map Vl.size).sum * c := by
  have h2 : ∀ l : List Vl, (∀ x ∈ l, (prV x).length + 2 ≤ x.size * c) → Lib.lens (l.map prV) + 2 * l.length ≤ (l.map Vl.size).sum * c := by
    intro l
    induction l with
    | nil => intro _; simp [Lib.lens]
    | cons x r ih =>
      intro h
      have a1 := h x (by simp)
      have a2 := ih fun y hy => h y (by simp [hy])
      simp only [Lib.lens, List.map_cons, List.sum_cons, Nat.add_mul, List.length_cons] at a2 ⊢
      omega
  cases l with
  | nil => simp [Lib.join_nil]
  | cons x r =>
    have := h2 (x :: r) h
    rw [List.map_cons, Lib.join_length]
    simp only [List.map_cons, List.length_cons, List.length_nil, List.length_map] at this ⊢
    omega
set_option maxRecDepth 100000 in
theorem pr_len : ∀ (n : Nat) (v : Vl) (w : World) (B : Nat) (sl : Value), ItemsAt w B n sl v.items → v.ok → (prV v).length + 2 ≤ v.size * 1048700
  | 0, _, _, _, _, h, _ => h.elim
  | n + 1, v, w, B, sl, h, hok => by
    obtain ⟨a, c, rfl, hla⟩ := h.len
    have hit : ∀ x ∈ v.items, (prV x).length + 2 ≤ x.size * 1048700 := fun x hx => by
      obtain ⟨j, hj, rfl⟩ := List.getElem_of_mem hx
      obtain ⟨b, o, s, _, _, _, _, _, _, _, h5, h6⟩ := h.item j hj
      exact pr_len n _ w B s h5 h6
    have hf := join_short hit
    have z1 := itoa_short hok.2.1.1 hok.2.1.2
    have z2 := itoa_short hok.2.2.1 hok.2.2.2
    have ht : v.text.data.toList.length ≤ 1048576 := by rw [size_eq]; exact hok.1
    obtain ⟨S, hS⟩ : ∃ S, (v.items.map Vl.size).sum * 1048700 = S := ⟨_, rfl⟩
    rw [hS] at hf
    have hsz : v.size * 1048700 = S + 1048700 := by rw [Vl.size_eq, Nat.add_mul, hS, Nat.one_mul]
    rw [hsz, prV_eq]
    clear hsz hS
    split
    · split <;> simp
    · split
      · omega
      · split
        · have : (if 0 ≤ v.im then ([43] : List UInt8) else []).length ≤ 1 := by split <;> simp
          simp only [List.length_append, List.length_cons, List.length_nil]
          omega
        · split
          · omega
          · split
            · split
              · simp only [List.length_append, List.length_cons, List.length_nil]; omega
              · simp only [List.length_append, List.length_cons, List.length_nil]; omega
            · split
              · simp only [List.length_append, List.length_cons, List.length_nil]; omega
              · simp only [List.length_append, List.length_cons, List.length_nil]; omega
theorem pr_short {n : Nat} {v : Vl} {w : World} {B : Nat} {sl : Value} (h : ItemsAt w B n sl v.items) (hok : v.ok) (hr : rightV v = true) : (prV v).length ≤ 1000000000000 := by
  have h1 := pr_len n v w B sl h hok
  have h2 := right_size hr
  have h3 := Nat.mul_le_mul_right 1048700 h2
  omega
set_option maxRecDepth 100000 in
theorem printC_k (v : Vl) (w : World) (n : Nat) (sl : Value) (hT : Tabs w) (hok : v.ok) (hz : v.size ≤ 1000000000) (hs : ItemsAt w w.heap.size n sl v.items) :
    Calls Tryz.prog 22 #[.agg (vcells v sl)] w fun e w' => e = .returned (.tuple #[.string (bif rightV v then str (prV v) else ⟨#[]⟩), .int .i64 (bif rightV v then 0 else 40)]) ∧ Below w.heap.size w w' := by
  have hl := pr_short hs hok
  obtain ⟨W, hW⟩ : ∃ W, w.alloc (.cells (vcells v sl) 46) = W := ⟨_, rfl⟩
  have bW : Below w.heap.size w W := by rw [← hW]; exact alloc_v (Below.refl _ _) _
  have e1 : W.heap[w.heap.size]? = some (.cells (vcells v sl) 46 (0, 0)) := by rw [← hW]; exact World.alloc_heap_new w _
  have x0 := cells_at e1 0 _ rfl
  have x1 := cells_at e1 1 _ rfl
  have x2 := cells_at e1 2 _ rfl
  have x3 := cells_at e1 3 _ rfl
  have x4 := cells_at e1 4 _ rfl
  have zW : w.heap.size < W.heap.size := (Array.getElem?_eq_some_iff.1 e1).1
  have HR := hide (right_k v W n sl (hT.below bW) hok.1 ((hs.below bW).up bW.size))
  have HE := hide (fun (h : rightV v = true) (U : World) (b : Below W.heap.size W U) => written_k n v U w.heap.size sl (form_right h) hok hz (hl h) ((hT.below bW).below b) (trans_v bW b).size (hs.below (trans_v bW b)))
  obtain ⟨a, c, rfl, _⟩ := hs.len
  clear hs e1 hT
  cases hx : rightV v
  · rw [hx] at HR
    go_enter Tryz.func22, Tryz.ntmps22
    go_wp2_with (go_at_call 55; refine HR.out.mono ?_; clear HR; rintro e w2 ⟨rfl, b2⟩)
    go_ret2
    exact ⟨rfl, trans_v bW b2⟩
  · rw [hx] at HR
    have HE := hide (HE.out hx)
    clear hx
    go_enter Tryz.func22, Tryz.ntmps22
    go_wp2_with (first
      | (go_at_call 55; refine HR.out.mono ?_; clear HR; rintro e w2 ⟨rfl, b2⟩; have hc := (bcellV b2).1)
      | (go_at_call 56; refine (HE.out _ b2).mono ?_; clear HE; rintro e w3 ⟨rfl, b3⟩))
    go_ret2
    exact ⟨rfl, trans_v (trans_v bW b2) b3⟩
set_option maxRecDepth 100000 in
theorem refPrint_k (v : Vl) (w : World) (n : Nat) (sl : Value) (hok : v.ok) (hz : v.size ≤ 1000000000) (hs : ItemsAt w w.heap.size n sl v.items) :
    Calls Tryz.prog 28 #[.agg (vcells v sl)] w fun e w' => e = .returned (.tuple #[.string (bif rightV v then str (prV v) else ⟨#[]⟩), .int .i64 (bif rightV v then 0 else 40)]) ∧ Below w.heap.size w w' := by
  have hl := pr_short hs hok
  obtain ⟨W, hW⟩ : ∃ W, w.alloc (.cells (vcells v sl) 46) = W := ⟨_, rfl⟩
  have bW : Below w.heap.size w W := by rw [← hW]; exact alloc_v (Below.refl _ _) _
  have e1 : W.heap[w.heap.size]? = some (.cells (vcells v sl) 46 (0, 0)) := by rw [← hW]; exact World.alloc_heap_new w _
  have x0 := cells_at e1 0 _ rfl
  have x1 := cells_at e1 1 _ rfl
  have x2 := cells_at e1 2 _ rfl
  have x3 := cells_at e1 3 _ rfl
  have x4 := cells_at e1 4 _ rfl
  have zW : w.heap.size < W.heap.size := (Array.getElem?_eq_some_iff.1 e1).1
  have HR := hide (refRight_k v W n sl hok.1 ((hs.below bW).up bW.size))
  have HE := hide (fun (h : rightV v = true) (U : World) (b : Below W.heap.size W U) => rwr_k n v U w.heap.size sl (form_right h) hok hz (hl h) (trans_v bW b).size (hs.below (trans_v bW b)))
  obtain ⟨a, c, rfl, _⟩ := hs.len
  clear hs e1
  cases hx : rightV v
  · rw [hx] at HR
    go_enter Tryz.func28, Tryz.ntmps28
    go_wp2_with (go_at_call 29; refine HR.out.mono ?_; clear HR; rintro e w2 ⟨rfl, b2⟩)
    go_ret2
    exact ⟨rfl, trans_v bW b2⟩
  · rw [hx] at HR
    have HE := hide (HE.out hx)
    clear hx
    go_enter Tryz.func28, Tryz.ntmps28
    go_wp2_with (first
      | (go_at_call 29; refine HR.out.mono ?_; clear HR; rintro e w2 ⟨rfl, b2⟩; have hc := (bcellV b2).1)
      | (go_at_call 63; refine (HE.out _ b2).mono ?_; clear HE; rintro e w3 ⟨rfl, b3⟩))
    go_ret2
    exact ⟨rfl, trans_v (trans_v bW b2) b3⟩
end Go.Proofs.YtcedpdneanjbkaaGreatDoor

/- The reference's Print of events. -/
namespace Go.Proofs.YtcedpdneanjbkaaGreatDoor
open Go.RowKit

theorem cats (l1 l2 : List UInt8) (b : ByteArray) (hb : b = str l2) (h : l1.length + l2.length ≤ 9000000000000000000) : ∀ U, (Op.stringOp .add (str l1) b).run Tryz.prog U = .ok (.string (str (l1 ++ l2))) U := by
  subst hb
  exact fun U => cat l1 l2 h U
theorem ln_inv (x : Evn) (h : x.kind = 1) : lnE x = [105, 110, 118, 32] ++ x.proc ++ [32] ++ x.obj ++ [32] ++ x.op ++ [32] ++ prV x.val ++ [10] := by
  unfold lnE
  rw [if_pos h]
  simp [Lib.join_cons, Lib.joinTail]
theorem ln_res (x : Evn) (h : ¬ x.kind = 1) : lnE x = [114, 101, 115, 32] ++ x.proc ++ [32] ++ prV x.val ++ [10] := by
  unfold lnE
  rw [if_neg h]
  simp [Lib.join_cons, Lib.joinTail]
set_option maxRecDepth 100000 in
set_option maxHeartbeats 8000000 in
theorem refPrint6_k (l : List Evn) (w : World) (n : Nat) (sa : Value) (ha : EvsAt w w.heap.size n sa l) (hlen : ∀ k, k ≤ l.length → (∀ j (h : j < l.length), j < k → rightE l[j] = true) → (prL (l.take k)).length ≤ 1000000000000) :
    Calls Tryz.prog 11 #[sa] w fun e w' => PrR w l e w' := by
  obtain ⟨aa, ca, rfl, hla⟩ := ha.len
  have HA := hide ha
  have HLEN := hide hlen
  clear ha hlen
  go_enter Tryz.func11, Tryz.ntmps11
  go_wp2
  go_loopw [4, 5] (fun s i wr => ∃ k : Nat, i = .int .i64 (k : Int) ∧ k ≤ l.length ∧ s = .string (str (prL (l.take k))) ∧ Hid (∀ j (h : j < l.length), j < k → rightE l[j] = true) ∧ Below w.heap.size w wr)
    (fun _ i _ => l.length - (Lib.intOf i).toNat)
  case atStart => exact ⟨0, rfl, Nat.zero_le _, rfl, hide (fun _ _ h => absurd h (by omega)), Below.refl _ _⟩
  case round =>
    obtain ⟨k, rfl, hk, rfl, HM, hbel⟩ := hrel
    by_cases hlt : k < l.length
    · obtain ⟨b1, o1, s1, rfl, g1, p0, p1, p2, p3, p4, p5, p6, p7, p8, p9, p10, p11, p12, p13, p14⟩ := (HA.out.below hbel).item k hlt
      have l1 : b1 < wr.heap.size := by have := hbel.size; omega
      have HK := hide (HLEN.out (k + 1) hlt)
      have HN := hide (fun (h : rightE l[k] = false) (e : Ending) (w' : World) => prR_no (w := w) (e := e) (w' := w') hlt h)
      have HALL := hide (fun (h : rightE l[k] = true) => (show ∀ j (hj : j < l.length), j < k + 1 → rightE l[j] = true from fun j hj hjk => by
        by_cases e : j = k
        · subst e; exact h
        · exact HM.out j hj (by omega)))
      have HFL := hide (flatL_take l k hlt)
      have HRF := hide (show rightE l[k] = true → rightV l[k].val = true from fun h => by
        unfold rightE at h
        split at h
        · simp only [Bool.and_eq_true] at h; exact h.2
        · split at h
          · simp only [Bool.and_eq_true] at h; exact h.2
          · cases h)
      have HPR := hide (fun (U : World) (b : Below wr.heap.size wr U) => refPrint_k l[k].val U n s1 p13.val p14 ((p12.below (b.mono hbel.size)).up (by have := b.size; have := hbel.size; omega)))
      obtain ⟨x1, y1, rfl, _⟩ := p12.len
      have HRG := hide (fun (U : World) (b : Below wr.heap.size wr U) => right6_k l[k] U n (.slice x1 l[k].val.items.length y1) p13 ((p12.below (b.mono hbel.size)).up (by have := b.size; have := hbel.size; omega)))
      have HBEL := hide hbel
      have hw0 : w.heap.size ≤ wr.heap.size := hbel.size
      obtain ⟨W1, hW1⟩ : ∃ W1, wr.alloc (.cells (evCells l[k] (.slice x1 l[k].val.items.length y1)) 50) = W1 := ⟨_, rfl⟩
      have bW1 : Below wr.heap.size wr W1 := by rw [← hW1]; exact alloc_v (Below.refl _ _) _
      have e1 : W1.heap[wr.heap.size]? = some (.cells (evCells l[k] (.slice x1 l[k].val.items.length y1)) 50 (0, 0)) := by rw [← hW1]; exact World.alloc_heap_new wr _
      have lW1 : wr.heap.size < W1.heap.size := (Array.getElem?_eq_some_iff.1 e1).1
      have f0 := cells_at e1 0 _ rfl
      have f1 := cells_at e1 1 _ rfl
      have f2 := cells_at e1 2 _ rfl
      have f3 := cells_at e1 3 _ rfl
      have f4 := cells_at e1 4 _ rfl
      have f5 := cells_at e1 5 _ rfl
      have f6 := cells_at e1 6 _ rfl
      have f7 := cells_at e1 7 _ rfl
      have f8 := cells_at e1 8 _ rfl
      have f9 := cells_at e1 9 _ rfl
      have f10 := cells_at e1 10 _ rfl
      have f11 := cells_at e1 11 _ rfl
      have HE1 := hide e1
      have HRG1 := hide (HRG.out W1 bW1)
      clear hbel p12 p13 p14 g1 e1 HRG
      generalize l[k] = x at *
      cases hr : rightE x with
      | false =>
        have hfin := HN.out hr
        rw [hr] at HRG1
        clear HALL HFL HK HRF HN HM hr HPR
        go_wp2_with (go_at_call 27; refine HRG1.out.mono ?_; clear HRG1; rintro e w2 ⟨rfl, b2⟩; have B2 := hide b2; clear b2)
        go_ret2
        exact hfin _ _ rfl (trans_v HBEL.out (trans_v bW1 B2.out))
      | true =>
      rw [hr] at HRG1
      rw [HRF.out hr] at HPR
      simp only [cond_true] at HPR
      have HALL2 := hide (HALL.out hr)
      have hkk := HK.out HALL2.out
      rw [HFL.out, List.length_append] at hkk
      have HFLE := hide HFL.out
      clear HALL HK HFL HRF HN hr HM
      generalize hbs : prL (l.take k) = bs at *
      clear hbs
      by_cases hk1x : x.kind = 1
      · have hkb : (x.kind == 1) = true := by simp [hk1x]
        have hee := ln_inv x hk1x
        have hlx := congrArg List.length hee
        simp only [List.length_append, List.length_cons, List.length_nil] at hlx
        rw [hlx] at hkk
        have c1 := cats (bs) [105, 110, 118, 32] ⟨#[105, 110, 118, 32]⟩ rfl (by simp only [List.length_cons, List.length_nil]; omega)
        have c2 := cats (bs ++ [105, 110, 118, 32]) x.proc (bsN x.proc) rfl (by simp only [List.length_append, List.length_cons, List.length_nil]; omega)
        have c3 := cats (bs ++ [105, 110, 118, 32] ++ x.proc) [32] ⟨#[32]⟩ rfl (by simp only [List.length_append, List.length_cons, List.length_nil]; omega)
        have c4 := cats (bs ++ [105, 110, 118, 32] ++ x.proc ++ [32]) x.obj (bsN x.obj) rfl (by simp only [List.length_append, List.length_cons, List.length_nil]; omega)
        have c5 := cats (bs ++ [105, 110, 118, 32] ++ x.proc ++ [32] ++ x.obj) [32] ⟨#[32]⟩ rfl (by simp only [List.length_append, List.length_cons, List.length_nil]; omega)
        have c6 := cats (bs ++ [105, 110, 118, 32] ++ x.proc ++ [32] ++ x.obj ++ [32]) x.op (bsN x.op) rfl (by simp only [List.length_append, List.length_cons, List.length_nil]; omega)
        have c7 := cats (bs ++ [105, 110, 118, 32] ++ x.proc ++ [32] ++ x.obj ++ [32] ++ x.op) [32] ⟨#[32]⟩ rfl (by simp only [List.length_append, List.length_cons, List.length_nil]; omega)
        have c8 := cats (bs ++ [105, 110, 118, 32] ++ x.proc ++ [32] ++ x.obj ++ [32] ++ x.op ++ [32]) (prV x.val) (str (prV x.val)) rfl (by simp only [List.length_append, List.length_cons, List.length_nil]; omega)
        have c9 := cats (bs ++ [105, 110, 118, 32] ++ x.proc ++ [32] ++ x.obj ++ [32] ++ x.op ++ [32] ++ prV x.val) [10] ⟨#[10]⟩ rfl (by simp only [List.length_append, List.length_cons, List.length_nil]; omega)
        have HEQ := hide (show bs ++ [105, 110, 118, 32] ++ x.proc ++ [32] ++ x.obj ++ [32] ++ x.op ++ [32] ++ prV x.val ++ [10] = bs ++ lnE x by rw [hee]; simp)
        clear hee hlx hkk hk1x
        have HS9 : Hid (str (bs ++ [105, 110, 118, 32] ++ x.proc ++ [32] ++ x.obj ++ [32] ++ x.op ++ [32] ++ prV x.val ++ [10]) = str (bs ++ lnE x)) := hide (by rw [HEQ.out])
        clear HEQ
        generalize str (bs ++ [105, 110, 118, 32] ++ x.proc ++ [32] ++ x.obj ++ [32] ++ x.op ++ [32] ++ prV x.val ++ [10]) = z9 at *
        generalize str (bs ++ [105, 110, 118, 32] ++ x.proc ++ [32] ++ x.obj ++ [32] ++ x.op ++ [32] ++ prV x.val) = z8 at *
        generalize str (bs ++ [105, 110, 118, 32] ++ x.proc ++ [32] ++ x.obj ++ [32] ++ x.op ++ [32]) = z7 at *
        generalize str (bs ++ [105, 110, 118, 32] ++ x.proc ++ [32] ++ x.obj ++ [32] ++ x.op) = z6 at *
        generalize str (bs ++ [105, 110, 118, 32] ++ x.proc ++ [32] ++ x.obj ++ [32]) = z5 at *
        generalize str (bs ++ [105, 110, 118, 32] ++ x.proc ++ [32] ++ x.obj) = z4 at *
        generalize str (bs ++ [105, 110, 118, 32] ++ x.proc ++ [32]) = z3 at *
        generalize str (bs ++ [105, 110, 118, 32] ++ x.proc) = z2 at *
        generalize str (bs ++ [105, 110, 118, 32]) = z1 at *
        generalize str (prV x.val) = sv at *
        generalize str bs = z0 at c1 ⊢
        have C1 := hide c1
        have C2 := hide c2
        have C3 := hide c3
        have C4 := hide c4
        have C5 := hide c5
        have C6 := hide c6
        have C7 := hide c7
        have C8 := hide c8
        have C9 := hide c9
        clear c1 c2 c3 c4 c5 c6 c7 c8 c9
        go_wp2_with (first
          | (go_at_call 27; refine HRG1.out.mono ?_; clear HRG1; rintro e w2 ⟨rfl, b2⟩; have g2 := (b2.block _ lW1).trans HE1.out; have d0 := cells_at g2 0 _ rfl; have d4 := cells_at g2 4 _ rfl; have d5 := cells_at g2 5 _ rfl; have d6 := cells_at g2 6 _ rfl; have d7 := cells_at g2 7 _ rfl; have d8 := cells_at g2 8 _ rfl; have HP2 := hide (HPR.out w2 (trans_v bW1 b2)); have B2 := hide (trans_v bW1 b2); have G2 := hide g2; have hz2 := b2.size; clear b2 g2 f0 f1 f2 f3 f4 f5 f6 f7 f8 f9 f10 f11)
          | (go_at_call 28; refine HP2.out.mono ?_; clear HP2; rintro e w3 ⟨rfl, b3⟩; have g3 := (b3.block wr.heap.size (by omega)).trans G2.out; clear d0 d4 d5 d6 d7 d8; have m0 := cells_at g3 0 _ rfl; have m1 := cells_at g3 1 _ rfl; have m2 := cells_at g3 2 _ rfl; have m3 := cells_at g3 3 _ rfl; have B3 := hide (trans_v B2.out b3); clear b3 g3; have c1 := C1.out; have c2 := C2.out; have c3 := C3.out; have c4 := C4.out; have c5 := C5.out; have c6 := C6.out; have c7 := C7.out; have c8 := C8.out; have c9 := C9.out))
        go_roundw
        case rel => exact ⟨k + 1, by go_num, by omega, by rw [HFLE.out, ← HS9.out], HALL2, trans_v HBEL.out B3.out⟩
        case measure => simp [Lib.intOf]; omega
      · have hkb : (x.kind == 1) = false := by simpa using hk1x
        have hee := ln_res x hk1x
        have hlx := congrArg List.length hee
        simp only [List.length_append, List.length_cons, List.length_nil] at hlx
        rw [hlx] at hkk
        have c1 := cats (bs) [114, 101, 115, 32] ⟨#[114, 101, 115, 32]⟩ rfl (by simp only [List.length_cons, List.length_nil]; omega)
        have c2 := cats (bs ++ [114, 101, 115, 32]) x.proc (bsN x.proc) rfl (by simp only [List.length_append, List.length_cons, List.length_nil]; omega)
        have c3 := cats (bs ++ [114, 101, 115, 32] ++ x.proc) [32] ⟨#[32]⟩ rfl (by simp only [List.length_append, List.length_cons, List.length_nil]; omega)
        have c4 := cats (bs ++ [114, 101, 115, 32] ++ x.proc ++ [32]) (prV x.val) (str (prV x.val)) rfl (by simp only [List.length_append, List.length_cons, List.length_nil]; omega)
        have c5 := cats (bs ++ [114, 101, 115, 32] ++ x.proc ++ [32] ++ prV x.val) [10] ⟨#[10]⟩ rfl (by simp only [List.length_append, List.length_cons, List.length_nil]; omega)
        have HEQ := hide (show bs ++ [114, 101, 115, 32] ++ x.proc ++ [32] ++ prV x.val ++ [10] = bs ++ lnE x by rw [hee]; simp)
        clear hee hlx hkk hk1x
        have HS5 : Hid (str (bs ++ [114, 101, 115, 32] ++ x.proc ++ [32] ++ prV x.val ++ [10]) = str (bs ++ lnE x)) := hide (by rw [HEQ.out])
        clear HEQ
        generalize str (bs ++ [114, 101, 115, 32] ++ x.proc ++ [32] ++ prV x.val ++ [10]) = z5 at *
        generalize str (bs ++ [114, 101, 115, 32] ++ x.proc ++ [32] ++ prV x.val) = z4 at *
        generalize str (bs ++ [114, 101, 115, 32] ++ x.proc ++ [32]) = z3 at *
        generalize str (bs ++ [114, 101, 115, 32] ++ x.proc) = z2 at *
        generalize str (bs ++ [114, 101, 115, 32]) = z1 at *
        generalize str (prV x.val) = sv at *
        generalize str bs = z0 at c1 ⊢
        have C1 := hide c1
        have C2 := hide c2
        have C3 := hide c3
        have C4 := hide c4
        have C5 := hide c5
        clear c1 c2 c3 c4 c5
        go_wp2_with (first
          | (go_at_call 27; refine HRG1.out.mono ?_; clear HRG1; rintro e w2 ⟨rfl, b2⟩; have g2 := (b2.block _ lW1).trans HE1.out; have d0 := cells_at g2 0 _ rfl; have d4 := cells_at g2 4 _ rfl; have d5 := cells_at g2 5 _ rfl; have d6 := cells_at g2 6 _ rfl; have d7 := cells_at g2 7 _ rfl; have d8 := cells_at g2 8 _ rfl; have HP2 := hide (HPR.out w2 (trans_v bW1 b2)); have B2 := hide (trans_v bW1 b2); have G2 := hide g2; have hz2 := b2.size; clear b2 g2 f0 f1 f2 f3 f4 f5 f6 f7 f8 f9 f10 f11)
          | (go_at_call 28; refine HP2.out.mono ?_; clear HP2; rintro e w3 ⟨rfl, b3⟩; have g3 := (b3.block wr.heap.size (by omega)).trans G2.out; clear d0 d4 d5 d6 d7 d8; have m0 := cells_at g3 0 _ rfl; have m1 := cells_at g3 1 _ rfl; have m2 := cells_at g3 2 _ rfl; have m3 := cells_at g3 3 _ rfl; have B3 := hide (trans_v B2.out b3); clear b3 g3; have c1 := C1.out; have c2 := C2.out; have c3 := C3.out; have c4 := C4.out; have c5 := C5.out))
        go_roundw
        case rel => exact ⟨k + 1, by go_num, by omega, by rw [HFLE.out, ← HS5.out], HALL2, trans_v HBEL.out B3.out⟩
        case measure => simp [Lib.intOf]; omega
    · have hke : k = l.length := by omega
      subst hke
      rw [List.take_length]
      have hall : l.all rightE = true := List.all_eq_true.2 fun x hx => by obtain ⟨j, hj, rfl⟩ := List.getElem_of_mem hx; exact HM.out j hj hj
      have HALL := hide hall
      clear hall HM
      go_wp2
      go_ret2
      unfold PrR
      rw [if_pos HALL.out]
      exact ⟨hbel, rfl⟩
end Go.Proofs.YtcedpdneanjbkaaGreatDoor

/- EventPrints answers true. -/
namespace Go.Proofs.YtcedpdneanjbkaaGreatDoor
open Go.RowKit

theorem right_val {x : Evn} (h : rightE x = true) : rightV x.val = true := by
  unfold rightE at h
  split at h
  · simp only [Bool.and_eq_true] at h; exact h.2
  · split at h
    · simp only [Bool.and_eq_true] at h; exact h.2
    · cases h
theorem sameB_refl {l : List Evn} (h : l.all rightE = true) : sameB l l = true :=
  sameB_yes rfl fun j h1 _ _ => by
    have hr := right_val (List.all_eq_true.1 h _ (List.getElem_mem h1))
    unfold simB
    simp [hr, ordV_self]
set_option maxRecDepth 100000 in
set_option maxHeartbeats 1000000 in
theorem eventPrints_walk (l : List Evn) (w : World) (n : Nat) (sa : Value) (hT : Tabs w) (ha : EvsAt w w.heap.size n sa l) (hl : l.length ≤ 1048576) :
    Calls Tryz.prog 3 #[sa] w fun e w' => e = .returned (.bool true) ∧ Below w.heap.size w w' := by
  have HC := hide (refCopy6_k l w n sa ha)
  have HP := hide (fun (U : World) (v : Value) (b : Below w.heap.size w U) (h : EvsAt U U.heap.size n v l) => print6_k l U n v (hT.below b) h (pr_ok h hl))
  have HR := hide (fun (U : World) (b : Below w.heap.size w U) => refPrint6_k l U n sa ((ha.below b).up b.size) (pr_ok ha hl))
  have HS := hide (fun (U : World) (v : Value) (b : Below w.heap.size w U) (h : EvsAt U U.heap.size n v l) => refSame6_k l l U n n v sa h ((ha.below b).up b.size))
  have HA := hide (fun (U : World) (b : Below w.heap.size w U) => alive6_k U (hT.below b))
  unfold PrR at HP HR
  cases hr : l.all rightE with
  | true =>
    have hsm := sameB_refl hr
    simp only [hr, if_true] at HP HR
    simp only [hsm] at HS
    clear ha hT hl hr hsm
    generalize str (prL l) = s at *
    go_enter Tryz.func3, Tryz.ntmps3
    go_wp2_with (first 
      | (go_at_call 9; refine HC.out.mono ?_; clear HC; rintro e w2 ⟨v, rfl, i2, b2⟩; obtain ⟨va, vc, rfl, _⟩ := i2.len; have B2 := hide b2; have I2 := hide i2; clear b2 i2)
      | (go_at_call 10; refine (HP.out _ _ B2.out I2.out).mono ?_; clear HP; rintro e w3 ⟨b3, rfl⟩; have B3 := hide (trans_v B2.out b3); have I3 := hide ((I2.out.below b3).up b3.size); clear b3)
      | (go_at_call 11; refine (HR.out _ B3.out).mono ?_; clear HR; rintro e w4 ⟨b4, rfl⟩; have B4 := hide (trans_v B3.out b4); have I4 := hide ((I3.out.below b4).up b4.size); clear b4)
      | (go_at_call 12; refine (num6_k _ _).mono ?_; rintro e wq ⟨rfl, rfl⟩)
      | (go_at_call 13; refine (HS.out _ _ B4.out I4.out).mono ?_; clear HS; rintro e w5 ⟨rfl, b5⟩; have B5 := hide (trans_v B4.out b5); clear b5)
      | (go_at_call 14; refine (HA.out _ B5.out).mono ?_; clear HA; rintro e w6 ⟨rfl, b6⟩; have B6 := hide (trans_v B5.out b6); clear b6))
    go_ret
    exact ⟨rfl, B6.out⟩
  | false =>
    simp only [hr, Bool.false_eq_true, if_false] at HP HR
    clear ha hT hl hr HS
    go_enter Tryz.func3, Tryz.ntmps3
    go_wp2_with (first 
      | (go_at_call 9; refine HC.out.mono ?_; clear HC; rintro e w2 ⟨v, rfl, i2, b2⟩; obtain ⟨va, vc, rfl, _⟩ := i2.len; have B2 := hide b2; have I2 := hide i2; clear b2 i2)
      | (go_at_call 10; refine (HP.out _ _ B2.out I2.out).mono ?_; clear HP; rintro e w3 ⟨b3, rfl⟩; have B3 := hide (trans_v B2.out b3); clear b3)
      | (go_at_call 11; refine (HR.out _ B3.out).mono ?_; clear HR; rintro e w4 ⟨b4, rfl⟩; have B4 := hide (trans_v B3.out b4); clear b4)
      | (go_at_call 12; refine (num6_k _ _).mono ?_; rintro e wq ⟨rfl, rfl⟩)
      | (go_at_call 14; refine (HA.out _ B4.out).mono ?_; clear HA; rintro e w6 ⟨rfl, b6⟩; have B6 := hide (trans_v B4.out b6); clear b6))
    go_ret
    exact ⟨rfl, B6.out⟩
end Go.Proofs.YtcedpdneanjbkaaGreatDoor

/- EventPrints holds of every input within the bulk. -/
namespace Go.Proofs.YtcedpdneanjbkaaGreatDoor.eventPrints
open Go.ChangeShapes Go.WideShapes Go.ChangeAt Go.RowKit
open Go.ChangeMaps (open_string)

set_option maxRecDepth 100000 in
theorem contract (H : Type) (enc : TypeId × Value → H) (W : World) (base : Nat) (args : Array Value) (ds gs : List (DataW H)) (before : List MemPlace)
    (hval : ∀ (j : Nat) t v, Tryz.f3.params[j]? = some t → args[j]? = some v → Value.okWide Tryz.prog W .any base t v)
    (hW : DataW.Whole enc Tryz.prog Tryz.f3.params.toList Rows.eventPrintsSpec.vars false W args.toList ds gs before) (hL : laidMetH Tryz.prog laidE W) (hk : Rows.uptoBulkAll (ds ++ gs) ≤ 1048576) :
    Calls Tryz.prog 3 args W fun e W' => ∃ v, e = .returned v ∧ Rows.eventPrintsSpec.post enc Tryz.prog Tryz.f3 false true false false W args v W' := by
  have hW' := hW
  obtain ⟨p, q, hA0, hV, rfl, hfz, hnd⟩ := hW
  have hA : DataW.TrodAll enc Tryz.prog W 0 (fun _ => true) true Tryz.f3.params.toList args.toList ds p := hA0
  rw [Tryz.params3] at hA hval
  obtain ⟨v0, vs0, d0, ds0, p0, q0, hargs, rfl, rfl, h0, r0⟩ := trodAll_cons hA
  obtain ⟨rfl, rfl, rfl⟩ := trodAll_nil r0
  obtain rfl : args = #[v0] := by cases args; simp_all
  obtain ⟨rfl, rfl⟩ := trodVars_none hV
  simp only [List.append_nil, Rows.uptoBulkAll] at hk
  obtain ⟨a0, len0, cap0, rfl⟩ := okWide_slice Tryz.underlying22 (hval 0 22 v0 rfl rfl)
  have k0 := h0
  have lt0 : ∀ x ∈ p0, x.block < W.heap.size := by obtain ⟨m, hm⟩ := k0; exact DataW.trod_lt m _ _ _ hm
  obtain ⟨fuel0, hf0⟩ := h0
  obtain ⟨l0, hl0, hI0, hs0⟩ := open_evs hf0 (by omega)
  subst hl0
  clear hA0
  simp only [List.append_nil] at hW'
  refine (eventPrints_walk l0 W (fuel0 + 2) _ (tabsE_of_laid hL) hI0 (by omega)).mono fun e W' ⟨he, bel⟩ => ?_
  subst he
  exact ⟨_, rfl, _, _, _, [], _, [], hW', trodAll_mk1 (shut_bool Tryz.underlying4 _), trodAll_cons_mk (Below.trod laidOut (by kernel_rfl) (of_decide_eq_true (by kernel_rfl)) k0 bel lt0) trodAll_mk0, rfl, bel.frame _, fun h => by cases h⟩

theorem laid_met (os : Os) : laidMet Tryz.prog Rows.eventPrintsUptoRow.laid ((laidWorldE os).forCall (fun _ _ => 0) ⟨#[], #[.slice none 0 0], []⟩).memory :=
  laidMet_of_run' 8 (by kernel_rfl) (by kernel_rfl)
theorem reads (os : Os) {H : Type} (enc : TypeId × Value → H) : ∃ places, DataW.whole enc Tryz.prog ((laidWorldE os).forCall (fun _ _ => 0) ⟨#[], #[.slice none 0 0], []⟩).memory Tryz.f3.params.toList Rows.eventPrintsSpec.vars false #[Value.slice none 0 0].toList 8 = some ([.nil], [], places) :=
  ⟨[], by kernel_rfl⟩

set_option maxRecDepth 100000 in
theorem liftedUpto (os : Os) (started : os.Started) (H : Type) (enc : TypeId × Value → H) (F : Stop.Interp) :
    ReturnsInHanded {} Tryz.checked os 3 .any ((Rows.OpenSpec.upto Rows.eventPrintsSpec).preRow enc Tryz.prog Tryz.f3 Rows.eventPrintsUptoRow.domain false Rows.eventPrintsUptoRow.laid) (((Rows.OpenSpec.upto Rows.eventPrintsSpec).at F).post enc Tryz.prog Tryz.f3 false true false false) := by
  obtain ⟨places, hx⟩ := reads os enc
  refine returnsInHanded_of_row (C := Tryz.checked) (s := Rows.OpenSpec.upto Rows.eventPrintsSpec) own started (by kernel_rfl) Tryz.func3
    (witness_row_at (enc := enc) (C := Tryz.checked) false (laidWorldE os) #[.slice none 0 0] rfl (by kernel_rfl) (by kernel_rfl) (by kernel_rfl)
      (OpenSpec.preRow_of_cond 8 hx (by kernel_rfl) (fun k hk => by cases hk; kernel_rfl) (by kernel_rfl) (laid_met os))) ?_
  intro W base args ds gs before hval hW _ hcond _ hL _ _
  exact contract H enc W base args ds gs before hval hW hL (of_decide_eq_true (hcond _ rfl))

theorem saidUpto : Rows.EventPrintsUptoSaid :=
  OpenClaim.holds_of_cond 3 Tryz.f3 rfl rfl rfl rfl rfl rfl rfl ⟨rfl, rfl, rfl, rfl, rfl⟩ rfl rfl rfl rfl rfl (by kernel_rfl) Tryz.func3 (by kernel_rfl)
    (of_decide_eq_true (by kernel_rfl)) (by unfold Func.isWrapper; first | (rw [if_pos (by decide +kernel)]; kernel_rfl) | (rw [if_neg (by decide +kernel)]; exact ⟨rfl, rfl⟩))
    (fun os started H enc _ F => by rw [OpenClaim.pre_eq_preRow]; exact liftedUpto os started H enc F)

theorem plain (f : FuncId) (fn : Func) (hf : Tryz.pinned.checked.prog.funcNamed Rows.eventPrintsRow.func = some f) (hfn : Tryz.pinned.checked.prog.funcs[f]? = some fn) :
    true = Tryz.pinned.checked.prog.looks [] ∧ ∀ (j : Nat) t, fn.params[j]? = some t → Tryz.pinned.checked.prog.wantsStandIn t = false := by
  obtain rfl : f = 3 := Option.some.inj ((show Tryz.prog.funcNamed Rows.eventPrintsRow.func = some 3 by kernel_rfl).symm.trans hf) |>.symm
  obtain rfl : fn = Tryz.f3 := (Option.some.inj (Tryz.func3.symm.trans hfn)).symm
  refine ⟨by kernel_rfl, fun j t ht => ?_⟩
  rw [Tryz.params3] at ht
  obtain rfl : t = 22 := by simpa using Array.mem_of_getElem? ht
  exact (show Tryz.prog.wantsStandIn 22 = false by kernel_rfl)

theorem cardUpto : Rows.EventPrintsUptoCardSaid :=
  Claim7.holds_tied_plain_at .later [] _ _ _ _ saidUpto (fun _ h => by cases h) (by kernel_rfl) (fun _ h => by cases h) eventPrintsUpto_row_tie rfl ⟨rfl, rfl⟩ (by kernel_rfl) rfl plain (by kernel_rfl)
end Go.Proofs.YtcedpdneanjbkaaGreatDoor.eventPrints
namespace Go.Proofs.YtcedpdneanjbkaaGreatDoor
theorem eventPrints_upto : Rows.EventPrintsUptoCardSaid := eventPrints.cardUpto
#print axioms eventPrints_upto
end Go.Proofs.YtcedpdneanjbkaaGreatDoor
