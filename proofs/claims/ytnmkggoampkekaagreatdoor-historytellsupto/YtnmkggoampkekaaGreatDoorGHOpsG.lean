/- operations: what Make makes, but for the copies. -/
import Derived.Test.YtnmkggoampkekaaGreatDoorGHTkG
import Derived.Deep.Cut
namespace Go.Proofs.YtnmkggoampkekaaGreatDoor
open Go.RowKit Go.Maps

theorem OpnM.mono {w : World} {mb k k' : Nat} {o : List (Nat × Nat)} (h : OpnM w mb k o) (hk : k ≤ k') : OpnM w mb k' o := by
  obtain ⟨D, h1, h2⟩ := h
  exact ⟨D, h1.mono hk, h2⟩
theorem GAt.more {w : World} {B h0 L gb mp mo mm k k' n : Nat} {g : Gs} {v0 v1 v2 : Value} {rs : List CV} (hg : GAt w B h0 L gb mp mo mm k n g v0 v1 v2 rs) (hk : k ≤ k') : GAt w B h0 L gb mp mo mm k' n g v0 v1 v2 rs :=
  ⟨hg.blk, hg.pr, hg.ob, hg.cl, hg.same, hg.its, hg.bh, hg.np, hg.no, hg.om.mono hk, hg.dis, hg.sz⟩
/-- How great a gathering of k events is. -/
theorem gAt_small (l : List Evn) : ∀ k, (gAt l k).procs.length ≤ k ∧ (gAt l k).objs.length ≤ k ∧ (gAt l k).calls.length ≤ k ∧ (gAt l k).opn.length ≤ k
  | 0 => by simp [gAt]
  | k + 1 => by
    obtain ⟨h1, h2, h3, h4⟩ := gAt_small l k
    have ha : ∀ (l : List (List UInt8)) s, (addN l s).length ≤ l.length + 1 := fun l s => by unfold addN; split <;> simp
    rw [gAt]
    split
    · unfold takeM
      split
      · have := ha (gAt l k).procs l[k].proc
        have hd : (dropO (gAt l k).opn ((gAt l k).procs.idxOf l[k].proc)).length ≤ (gAt l k).opn.length := List.length_filter_le _ _
        exact ⟨by simp only; omega, by simp only; omega, by simp only [answer_len]; omega, by simp only; omega⟩
      · have := ha (gAt l k).procs l[k].proc
        have := ha (gAt l k).objs l[k].obj
        exact ⟨by simp only; omega, by simp only; omega, by simp only [List.length_append, List.length_singleton]; omega, by simp only [List.length_cons]; omega⟩
    · exact ⟨by omega, by omega, by omega, by omega⟩
/-- take: an event that is well formed there. -/
theorem take_k (l : List Evn) (k : Nat) (hlt : k < l.length) (hf : Fine l (k + 1)) (w : World) (B h0 L gb mp mo mm n : Nat) (v0 v1 v2 : Value) (rs : List CV) (s : Value) (hg : GAt w B h0 L gb mp mo mm k (n + 1) (gAt l k) v0 v1 v2 rs) (hF : Fix h0 L gb mp mo mm) (h0l : h0 ≤ w.heap.size) (he : EvOk l[k]) (hz : l[k].val.size ≤ 1000000000) (hi : ItemsAt w B (n + 1) s l[k].val.items) (hk : k + 1 ≤ 1000000000) :
    Calls Tryz.prog 46 #[.pointer (some ⟨gb, 0, none⟩), .int .i64 (k : Int), .agg (evCells l[k] s)] w fun r w' => (∃ v, r = .returned v) ∧ (∃ v0' v1' v2' rs', GAt w' B h0 L gb mp mo mm (k + 1) (n + 1) (gAt l (k + 1)) v0' v1' v2' rs') ∧ Below h0 w w' := by
  obtain ⟨s1, s2, s3, s4⟩ := gAt_small l k
  have hgd := good_at l k (by omega) (fun j hj hjk => hf j hj (by omega))
  have h0' := hf k hlt (by omega)
  rw [gAt_succ l k hlt]
  obtain ⟨_, ⟨k1, k2⟩ | ⟨k1, k2⟩⟩ := fault_inv h0'
  · refine takeInv_k l[k] k w B h0 L gb mp mo mm k n (gAt l k) v0 v1 v2 rs s hg hF h0l he k1 hz hi (fun h => ?_) (by omega) (by omega) (by omega) (by omega) (by omega)
    obtain ⟨⟨p, c⟩, hm, e⟩ := List.mem_map.1 h
    simp only at e
    subst e
    exact k2 ((hgd.nms _).2 ⟨c, hm⟩)
  · obtain ⟨c0, hc0⟩ := (hgd.nms _).1 k2
    obtain ⟨hlc, _, _⟩ := hgd.opn _ _ hc0
    refine (takeRes_k l[k] k w B h0 L gb mp mo mm k (n + 1) (gAt l k) v0 v1 v2 rs s hg hF h0l he k1 hz hi c0 hc0 (findO_mem (fun c c' => hgd.one _ c c') hc0) hlc (by omega) (by omega) (by omega)).mono ?_
    rintro r w' ⟨h1, ⟨a, b, c, h2⟩, h3⟩
    exact ⟨h1, ⟨a, v1, b, c, h2.more (Nat.le_succ _)⟩, h3⟩
end Go.Proofs.YtnmkggoampkekaaGreatDoor

/- operations: the walk. -/
namespace Go.Proofs.YtnmkggoampkekaaGreatDoor
open Go.RowKit Go.Maps

theorem results_struct_two {P : Program} {fn : Func} {p u u2 : Tmp} {ty : TypeId} (h : fn.results = #[.cell p ty, .tmp u, .tmp u2]) (tmps : Array Value) (w : World) (g : Nat) (t : TypeId) (cs : Array Value) (fr : Nat × Nat) (d : TypeDesc)
    (hp : tmps.getD p undef = .pointer (some ⟨g, 0, none⟩)) (hg : w.heap[g]? = some (.cells cs t fr)) (hu : P.underlying ty = some d) (hd : (match d with | .struct _ | .array _ _ => true | _ => false) = true) (hi : (P.info? ty).map (·.size) = some cs.size) :
    (results fn tmps).run P w = .ok (.tuple #[.agg cs, tmps.getD u undef, tmps.getD u2 undef]) w := by
  have hl := run_loadVar_row w g t ty cs fr d hg hu hd hi
  have hp' : tmps[p]?.getD undef = .pointer (some ⟨g, 0, none⟩) := by simpa using hp
  simp [results, h, hp', asAddr, hl]
theorem infoPast : (Tryz.prog.info? 25).map (·.size) = some 3 := by kernel_rfl
/-- Operations in memory of their own, from block L on; the items of their values lie below B. -/
structure PastAt (w : World) (L B n : Nat) (g : Gs) (v0 v1 v2 : Value) (rs : List CV) : Prop where
  pr : w.ownsRow L 9 1 v0 g.procs.length (strs g.procs)
  ob : w.ownsRow L 9 1 v1 g.objs.length (strs g.objs)
  cl : w.ownsRow L 69 15 v2 g.calls.length (crow rs)
  same : rs.map (·.1) = g.calls
  its : ∀ x ∈ rs, CvAt w B n x
/-- The first event with which there is too much. -/
def LargeAt (l : List Evn) (k : Nat) : Prop := largeG (gAt l (k + 1)) = true ∧ ∀ j, j < k → largeG (gAt l (j + 1)) = false
def NoLarge (l : List Evn) : Prop := ∀ j, j < l.length → largeG (gAt l (j + 1)) = false
/-- What operations answers where there are none. -/
def Refused (l : List Evn) (at' : Nat) (code : Int) : Prop := (IllR l at' code ∧ code ≠ 0) ∨ (Fine l l.length ∧ at' < l.length ∧ LargeAt l at' ∧ code = 72)
set_option maxRecDepth 100000 in
set_option maxHeartbeats 4000000 in
theorem operations_k (l : List Evn) (w : World) (n : Nat) (sl : Value) (hT : TabL w) (hi : EvsAt w w.heap.size (n + 1) sl l) :
    Calls Tryz.prog 28 #[sl] w fun e w' => (∃ v0 v1 v2 at' code, e = .returned (.tuple #[.agg #[v0, v1, v2], .int .i64 ((at' : Nat) : Int), .int .i64 code]) ∧
      ((Refused l at' code ∧ v0 = .slice none 0 0 ∧ v1 = .slice none 0 0 ∧ v2 = .slice none 0 0) ∨ (code = 0 ∧ at' = 0 ∧ Fine l l.length ∧ NoLarge l ∧ ∃ rs L B, w.heap.size ≤ L ∧ B ≤ L ∧ L ≤ w'.heap.size ∧ PastAt w' L B (n + 1) (gAt l l.length) v0 v1 v2 rs))) ∧ Below w.heap.size w w' := by
  obtain ⟨W, hW⟩ : ∃ W, w.alloc (.cells #[.slice none 0 0, .slice none 0 0, .slice none 0 0] 25) = W := ⟨_, rfl⟩
  have bW : Below w.heap.size w W := by rw [← hW]; exact alloc_v (Below.refl _ _) _
  have e1 : W.heap[w.heap.size]? = some (.cells #[.slice none 0 0, .slice none 0 0, .slice none 0 0] 25 (0, 0)) := by rw [← hW]; exact World.alloc_heap_new w _
  have zW : W.heap.size = w.heap.size + 1 := by rw [← hW]; simp
  have HI := hide (hi.below bW)
  have HT := hide (hT.below bW)
  have HL := hide (illFormed_k l W (n + 1) sl (hT.below bW) ((hi.below bW).up bW.size))
  have HE := hide e1
  obtain ⟨a, c, rfl, hlen⟩ := hi.len
  clear hi hT e1
  go_enter Tryz.func28, Tryz.ntmps28
  go_upto_if 16 with (go_at_call 44; refine HL.out.mono ?_; clear HL; rintro r w1 ⟨⟨at', code, rfl, hill⟩, b1⟩)
  have bw1 := trans_v bW b1
  have f1 := (b1.block w.heap.size (by omega)).trans HE.out
  have q0 := frozen_at f1 0
  have q1 := frozen_at f1 1
  have q2 := frozen_at f1 2
  have x0 := cells_at f1 0 _ rfl
  have x1 := cells_at f1 1 _ rfl
  have x2 := cells_at f1 2 _ rfl
  by_cases hc : code = 0
  rotate_left
  · have hcb : (code != 0) = true := by simpa using hc
    have HC := hide hc
    have HF := hide f1
    clear hc f1
    go_wp2
    have g1 := heap_setCell_same _ _ 0 _ _ (.slice none 0 0) HF.out
    have g2 := heap_setCell_same _ _ 1 _ _ (.slice none 0 0) g1
    have g3 := heap_setCell_same _ _ 2 _ _ (.slice none 0 0) g2
    refine bodyPost_ret (results_struct_two rfl _ _ w.heap.size _ _ _ _ rfl g3 Tryz.underlying25 rfl infoPast) rfl ?_
    exact ⟨⟨_, _, _, at', code, rfl, .inl ⟨.inl ⟨hill, HC.out⟩, rfl, rfl, rfl⟩⟩, ((bw1.setCell (Nat.le_refl _) _).setCell (Nat.le_refl _) _).setCell (Nat.le_refl _) _⟩
  · subst hc
    have hfine : Fine l l.length := by
      rcases hill with ⟨_, _, h⟩ | ⟨h, e, h', _⟩
      · exact h
      · exact absurd rfl h'
    have HNG := hide (newGathering_k w1 w.heap.size (n + 1) bw1.size)
    have hz1 := b1.size
    clear x0 x1 x2 q0 q1 q2 hill
    go_wp2_with (go_at_call 45; refine HNG.out.mono ?_; clear HNG; rintro r w2 ⟨L, gb, mp, mo, mm, rfl, hF, hg2, b2⟩)
    have HF1 := hide f1
    have HFX := hide hF
    clear f1
    go_loopw [9, 23] (fun _ i wr => ∃ (k : Nat) (v0 v1 v2 : Value) (rs : List CV), k ≤ l.length ∧ i = .int .i64 k ∧ GAt wr w.heap.size w1.heap.size L gb mp mo mm k (n + 1) (gAt l k) v0 v1 v2 rs ∧ (∀ j, j < k → largeG (gAt l (j + 1)) = false) ∧ Below w1.heap.size w1 wr) (fun _ i _ => l.length - (intOf i).toNat)
    case atStart => exact ⟨0, _, _, _, _, Nat.zero_le _, rfl, hg2, fun j h => by omega, b2⟩
    case round =>
      obtain ⟨k, v0, v1, v2, rs, hk, rfl, hgk, hlk, hbel⟩ := hrel
      by_cases hlt : k < l.length
      · obtain ⟨b3, o3, s3, rfl, g3, p0, p1, p2, p3, p4, p5, p6, p7, p8, p9, p10, p11, pi, pk, pz⟩ := (HI.out.below ((b1.mono (by omega)).trans (hbel.mono (by omega)))).item k hlt
        have l3 : b3 < wr.heap.size := by have := hbel.size; omega
        have bA : Below wr.heap.size wr (wr.alloc (.cells (evCells l[k] s3) 61)) := alloc_v (Below.refl _ _) _
        have hbs := hbel.size
        have HTK := hide (take_k l k hlt (fun j hj hjk => hfine j hj hj) (wr.alloc (.cells (evCells l[k] s3) 61)) w.heap.size w1.heap.size L gb mp mo mm n v0 v1 v2 rs s3 (hgk.below bA hbs HFX.out) HFX.out (by have := bA.size; omega) pk pz (pi.below (bA.mono (by omega))) (by omega))
        have HSM := hide (gAt_small l (k + 1))
        have HBL := hide (trans_v (Below.refl wr.heap.size wr) bA)
        obtain ⟨xx3, yy3, rfl, _⟩ := pi.len
        have HBE := hide hbel
        clear hgk pi pk pz g3 hbel bA
        generalize hek : l[k] = e at *
        go_upto_if 33 with (first
          | (go_at_call 46; refine HTK.out.mono ?_; clear HTK; rintro r w4 ⟨⟨rv, rfl⟩, ⟨v0', v1', v2', rs', g4⟩, b4⟩; have HTL := hide (tooLarge_k w4 w.heap.size w1.heap.size L gb mp mo mm (k + 1) (n + 1) (gAt l (k + 1)) v0' v1' v2' rs' g4 (by have := HSM.out; omega) (by have := HSM.out; omega) (by have := HSM.out; omega)); have G4 := hide g4; have B4 := hide b4; clear g4 b4)
          | (go_at_call 47; refine HTL.out.mono ?_; clear HTL; rintro r w5 ⟨rfl, rfl⟩))
        have b5 := (trans_v HBE.out HBL.out).trans B4.out
        cases hlg : largeG (gAt l (k + 1))
        · have G5 := hide G4.out
          go_wp2
          go_roundw
          case rel => exact ⟨k + 1, v0', v1', v2', rs', by omega, by go_num, G5.out, fun j hj => by
            by_cases ej : j = k
            · subst ej; exact hlg
            · exact hlk j (by omega), b5⟩
          case measure => simp [intOf]; omega
        · have f9 := (b5.block w.heap.size (by omega)).trans HF1.out
          have q0 := frozen_at f9 0
          have q1 := frozen_at f9 1
          have q2 := frozen_at f9 2
          have x0 := cells_at f9 0 _ rfl
          have x1 := cells_at f9 1 _ rfl
          have x2 := cells_at f9 2 _ rfl
          have HF9 := hide f9
          clear f9
          go_wp2
          have g1 := heap_setCell_same _ _ 0 _ _ (.slice none 0 0) HF9.out
          have g2 := heap_setCell_same _ _ 1 _ _ (.slice none 0 0) g1
          have g3 := heap_setCell_same _ _ 2 _ _ (.slice none 0 0) g2
          refine bodyPost_ret (results_struct_two rfl _ _ w.heap.size _ _ _ _ rfl g3 Tryz.underlying25 rfl infoPast) rfl ?_
          exact ⟨⟨_, _, _, k, 72, rfl, .inl ⟨.inr ⟨hfine, hlt, ⟨hlg, hlk⟩, rfl⟩, rfl, rfl, rfl⟩⟩, (((bw1.trans (b5.mono bw1.size)).setCell (Nat.le_refl _) _).setCell (Nat.le_refl _) _).setCell (Nat.le_refl _) _⟩
      · have he : k = l.length := by omega
        subst he
        have m0 := cells_at hgk.blk 0 _ rfl
        have m2 := cells_at hgk.blk 2 _ rfl
        have m4 := cells_at hgk.blk 4 _ rfl
        have f9 := (hbel.block w.heap.size (by omega)).trans HF1.out
        have q0 := frozen_at f9 0
        have q1 := frozen_at f9 1
        have q2 := frozen_at f9 2
        have x0 := cells_at f9 0 _ rfl
        have x1 := cells_at f9 1 _ rfl
        have x2 := cells_at f9 2 _ rfl
        obtain ⟨a0, c0, e0⟩ := rowLen hgk.pr
        obtain ⟨a1, c1, e1⟩ := rowLen hgk.ob
        obtain ⟨a2, c2, e2⟩ := rowLen hgk.cl
        subst e0 e1 e2
        have HG := hide hgk
        have HF9 := hide f9
        clear hgk f9
        go_wp2
        go_region
        go_wp2
        have g1 := heap_setCell_same _ _ 0 _ _ (.slice a0 (gAt l l.length).procs.length c0) HF9.out
        have g2 := heap_setCell_same _ _ 1 _ _ (.slice a1 (gAt l l.length).objs.length c1) g1
        have g3 := heap_setCell_same _ _ 2 _ _ (.slice a2 (gAt l l.length).calls.length c2) g2
        refine bodyPost_ret (results_struct_two rfl _ _ w.heap.size _ _ _ _ rfl g3 Tryz.underlying25 rfl infoPast) rfl ?_
        have hl0 := HFX.out.lo
        have hgsz := HG.out.sz
        have kp : Keeps (fun x => x = w.heap.size) wr (((wr.setCell ⟨w.heap.size, 0, none⟩ (.slice a0 (gAt l l.length).procs.length c0)).setCell ⟨w.heap.size, 1, none⟩ (.slice a1 (gAt l l.length).objs.length c1)).setCell ⟨w.heap.size, 2, none⟩ (.slice a2 (gAt l l.length).calls.length c2)).drew := by
          have h := ((Keeps.set wr w.heap.size 0 (.slice a0 (gAt l l.length).procs.length c0)).trans (Keeps.set _ w.heap.size 1 (.slice a1 (gAt l l.length).objs.length c1)) (fun _ _ h => h)).trans (Keeps.set _ w.heap.size 2 (.slice a2 (gAt l l.length).calls.length c2)) (fun _ _ h => h)
          exact ⟨h.os, h.tape, h.output, h.size, h.block⟩
        have hrow : ∀ {v : Value} {t : TypeId} {z m : Nat} {xs : List Value}, wr.ownsRow L t z v m xs → ∀ y, v.ownBlock = some y → ¬ (y = w.heap.size) := fun hr y ey h => by have := (hr.lt _ ey).1; omega
        refine ⟨⟨_, _, _, 0, 0, rfl, .inr ⟨rfl, rfl, hfine, hlk, rs, L, w.heap.size, by omega, by omega, Nat.le_trans hgsz kp.size, ?_⟩⟩, ?_⟩
        · refine ⟨kp.row HG.out.pr (hrow HG.out.pr), kp.row HG.out.ob (hrow HG.out.ob), kp.row HG.out.cl (hrow HG.out.cl), HG.out.same, fun x hx => ?_⟩
          have hx := HG.out.its x hx
          have hk : Below w.heap.size wr _ := kp.toBelow (by have := hbel.size; omega) (fun x h => by omega)
          exact hx.below hk
        · exact (trans_v bw1 hbel).trans (kp.toBelow (by have := hbel.size; omega) (fun x h => by omega))
end Go.Proofs.YtnmkggoampkekaaGreatDoor
