/- The reference's add, all ways. -/
import Derived.Test.YtnmkggoampkekaaGreatDoorGHRfF
namespace Go.Proofs.YtnmkggoampkekaaGreatDoor
open Go.RowKit Go.Maps

theorem RAt.opn {w : World} {h0 n : Nat} {I : Nat → Prop} {g : Gs} {v0 v1 v2 : Value} {rs : List CV} (h : RAt w h0 n I g v0 v1 v2 rs) (g' : Gs) (e0 : g'.procs = g.procs) (e1 : g'.objs = g.objs) (e2 : g'.calls = g.calls) : RAt w h0 n I g' v0 v1 v2 rs := by
  obtain ⟨p, o, c, q⟩ := g'
  dsimp only at e0 e1 e2
  subst e0 e1 e2
  exact ⟨h.pr, h.ob, h.cl, h.same, h.its, h.no, h.dis, h.sz⟩
theorem RAt.forms {w : World} {h0 n : Nat} {I : Nat → Prop} {g : Gs} {v0 v1 v2 : Value} {rs : List CV} (h : RAt w h0 n I g v0 v1 v2 rs) : (∃ a m c, v0 = .slice a m c) ∧ (∃ a m c, v1 = .slice a m c) ∧ ∃ a m c, v2 = .slice a m c := by
  obtain ⟨a0, c0, e0⟩ := rowLen h.pr
  obtain ⟨a1, c1, e1⟩ := rowLen h.ob
  obtain ⟨a2, c2, e2⟩ := rowLen h.cl
  exact ⟨⟨_, _, _, e0⟩, ⟨_, _, _, e1⟩, ⟨_, _, _, e2⟩⟩
theorem right_kinds {e : Evn} (h : rightE e = true) : e.kind = 1 ∨ e.kind = 2 := by
  unfold rightE at h
  split at h
  · exact .inl (by assumption)
  · split at h
    · exact .inr (by assumption)
    · cases h
theorem addAll_k (e : Evn) (k : Nat) (w : World) (h0 n : Nat) (I : Nat → Prop) (g : Gs) (v0 v1 v2 : Value) (rs : List CV) (s : Value) (O : List (List UInt8)) (B : Nat) (hB : B ≤ h0) (hG : Good O k g) (hg : RAt w h0 (n + 1) I g v0 v1 v2 rs) (hi : ItemsAt w B (n + 1) s e.val.items) (he : EvOk e) (hz : e.val.size ≤ 1000000000) (hl0 : g.procs.length + 1 ≤ 1000000000) (hl1 : g.objs.length + 1 ≤ 1000000000) (hl2 : g.calls.length + 1 ≤ 1000000000) (hr : rightE e = true) :
    Calls Tryz.prog 55 #[.agg #[v0, v1, v2], .agg (evCells e s), .int .i64 (k : Int)] w fun r w' => (∃ u0 u1 u2, r = .returned (.tuple #[.agg #[u0, u1, u2], .int .i64 (faultE O e)]) ∧ ((∃ a m c, u0 = .slice a m c) ∧ (∃ a m c, u1 = .slice a m c) ∧ ∃ a m c, u2 = .slice a m c) ∧ (faultE O e = 0 → ∃ I' rs', RAt w' h0 (n + 1) I' (takeM g k e) u0 u1 u2 rs' ∧ ∀ b, I' b → I b ∨ b < B ∨ w.heap.size ≤ b)) ∧ Below h0 w w' := by
  have hsz := hg.sz
  rcases right_kinds hr with hk | hk
  · have ht : takeM g k e = ⟨addN g.procs e.proc, addN g.objs e.obj, g.calls ++ [⟨g.procs.idxOf e.proc, g.objs.idxOf e.obj, e.op, e.val, k, -1, zeroVl⟩], (g.procs.idxOf e.proc, g.calls.length) :: g.opn⟩ := by unfold takeM; rw [if_neg (by rw [hk]; decide)]
    by_cases ho : e.proc ∈ O
    · have hf : faultE O e = 71 := by unfold faultE; rw [hr, if_neg (by decide), if_pos hk, if_pos ho]
      obtain ⟨hm, hw, _⟩ := whoR_in hG ho
      rw [hf]
      refine (addBusy_k e k w h0 (n + 1) I g v0 v1 v2 rs s hg (hi.up hB) hl0 hl2 hk hm _ hw).mono ?_
      rintro r w' ⟨⟨y0, m0, d0, y1, m1, d1, y2, m2, d2, rfl⟩, b⟩
      exact ⟨⟨_, _, _, rfl, ⟨⟨_, _, _, rfl⟩, ⟨_, _, _, rfl⟩, ⟨_, _, _, rfl⟩⟩, fun h => by omega⟩, b.mono hsz⟩
    · have hf : faultE O e = 0 := by unfold faultE; rw [hr, if_neg (by decide), if_pos hk, if_neg ho]
      have hw := whoR_out hG ho
      rw [hf, ht]
      have fin : ∀ r w', ((∃ u0 u1 u2 I' rs', r = Ending.returned (.tuple #[.agg #[u0, u1, u2], .int .i64 0]) ∧ RAt w' h0 (n + 1) I' { g with procs := addN g.procs e.proc, objs := addN g.objs e.obj, calls := g.calls ++ [⟨g.procs.idxOf e.proc, g.objs.idxOf e.obj, e.op, e.val, k, -1, zeroVl⟩] } u0 u1 u2 rs' ∧ ∀ b, I' b → I b ∨ b < B ∨ w.heap.size ≤ b) ∧ Below h0 w w') →
          ((∃ u0 u1 u2, r = Ending.returned (.tuple #[.agg #[u0, u1, u2], .int .i64 0]) ∧ ((∃ a m c, u0 = .slice a m c) ∧ (∃ a m c, u1 = .slice a m c) ∧ ∃ a m c, u2 = .slice a m c) ∧ ((0 : Int) = 0 → ∃ I' rs', RAt w' h0 (n + 1) I' ⟨addN g.procs e.proc, addN g.objs e.obj, g.calls ++ [⟨g.procs.idxOf e.proc, g.objs.idxOf e.obj, e.op, e.val, k, -1, zeroVl⟩], (g.procs.idxOf e.proc, g.calls.length) :: g.opn⟩ u0 u1 u2 rs' ∧ ∀ b, I' b → I b ∨ b < B ∨ w.heap.size ≤ b)) ∧ Below h0 w w') := by
        rintro r w' ⟨⟨u0, u1, u2, I', rs', rfl, h, hI⟩, b⟩
        exact ⟨⟨u0, u1, u2, rfl, h.forms, fun _ => ⟨I', rs', h.opn _ rfl rfl rfl, hI⟩⟩, b⟩
      by_cases hm : e.proc ∈ g.procs
      · by_cases hmo : e.obj ∈ g.objs
        · exact (addInv1_k e k w h0 n I g v0 v1 v2 rs s B hB hg hi he hz hl0 hl1 hl2 hk hw hm hmo).mono fin
        · exact (addInv2_k e k w h0 n I g v0 v1 v2 rs s B hB hg hi he hz hl0 hl1 hl2 hk hw hm hmo).mono fin
      · by_cases hmo : e.obj ∈ g.objs
        · exact (addInv3_k e k w h0 n I g v0 v1 v2 rs s B hB hg hi he hz hl0 hl1 hl2 hk hw hm hmo).mono fin
        · exact (addInv4_k e k w h0 n I g v0 v1 v2 rs s B hB hg hi he hz hl0 hl1 hl2 hk hw hm hmo).mono fin
  · by_cases ho : e.proc ∈ O
    · have hf : faultE O e = 0 := by unfold faultE; rw [hr, if_neg (by decide), if_neg (by rw [hk]; decide), if_pos ho]
      obtain ⟨hm, hw, hlt⟩ := whoR_in hG ho
      have ht : takeM g k e = ⟨addN g.procs e.proc, g.objs, answer g.calls (findO g.opn (g.procs.idxOf e.proc)) k e.val, dropO g.opn (g.procs.idxOf e.proc)⟩ := by unfold takeM; rw [if_pos hk]
      rw [hf, ht]
      refine (addRes_k e k w h0 (n + 1) I g v0 v1 v2 rs s B hB hg hi he.val hz hl0 hl2 hk hm _ hlt hw).mono ?_
      rintro r w' ⟨⟨u0, u1, u2, I', rs', rfl, h, hI⟩, b⟩
      exact ⟨⟨u0, u1, u2, rfl, h.forms, fun _ => ⟨I', rs', h.opn _ (if_pos hm) rfl rfl, hI⟩⟩, b⟩
    · have hf : faultE O e = 70 := by unfold faultE; rw [hr, if_neg (by decide), if_neg (by rw [hk]; decide), if_neg ho]
      rw [hf]
      refine (addIdle_k e k w h0 (n + 1) I g v0 v1 v2 rs s hg (hi.up hB) hl0 hl2 hk (whoR_out hG ho)).mono ?_
      rintro r w' ⟨⟨y0, m0, d0, y1, m1, d1, y2, m2, d2, rfl⟩, b⟩
      exact ⟨⟨_, _, _, rfl, ⟨⟨_, _, _, rfl⟩, ⟨_, _, _, rfl⟩, ⟨_, _, _, rfl⟩⟩, fun h => by omega⟩, b.mono hsz⟩
end Go.Proofs.YtnmkggoampkekaaGreatDoor

/- The reference's Make. -/
namespace Go.Proofs.YtnmkggoampkekaaGreatDoor
open Go.RowKit Go.Maps

/-- What the reference's Make answers. -/
def RMakeR (l : List Evn) (n h0 : Nat) (w' : World) (v0 v1 v2 : Value) (at' : Nat) (code : Int) : Prop :=
  (Refused l at' code ∧ v0 = .slice none 0 0 ∧ v1 = .slice none 0 0 ∧ v2 = .slice none 0 0) ∨ (code = 0 ∧ at' = 0 ∧ Fine l l.length ∧ NoLarge l ∧ ∃ rs I, RAt w' h0 n I (gAt l l.length) v0 v1 v2 rs)
/-- The twelve cells of an event. -/
structure CellsE (U : World) (b o : Nat) (e : Evn) (s : Value) : Prop where
  c0 : U.cell? ⟨b, o, none⟩ = some (.int .i64 e.kind)
  c1 : U.cell? ⟨b, o + 1, none⟩ = some (.string (bsN e.proc))
  c2 : U.cell? ⟨b, o + 2, none⟩ = some (.string (bsN e.obj))
  c3 : U.cell? ⟨b, o + 3, none⟩ = some (.string (bsN e.op))
  c4 : U.cell? ⟨b, o + 4, none⟩ = some (.int .i64 e.val.kind)
  c5 : U.cell? ⟨b, o + 5, none⟩ = some (.int .i64 e.val.int)
  c6 : U.cell? ⟨b, o + 6, none⟩ = some (.int .i64 e.val.im)
  c7 : U.cell? ⟨b, o + 7, none⟩ = some (.string e.val.text)
  c8 : U.cell? ⟨b, o + 8, none⟩ = some s
  c9 : U.cell? ⟨b, o + 9, none⟩ = some (.int .i64 e.off)
  c10 : U.cell? ⟨b, o + 10, none⟩ = some (.int .i64 e.line)
  c11 : U.cell? ⟨b, o + 11, none⟩ = some (.int .i64 e.col)
theorem CellsE.of {W U : World} {L b o : Nat} {e : Evn} {s : Value} (hb : Below L W U) (h : b < L) (c0 : W.cell? ⟨b, o, none⟩ = some (.int .i64 e.kind)) (c1 : W.cell? ⟨b, o + 1, none⟩ = some (.string (bsN e.proc))) (c2 : W.cell? ⟨b, o + 2, none⟩ = some (.string (bsN e.obj))) (c3 : W.cell? ⟨b, o + 3, none⟩ = some (.string (bsN e.op))) (c4 : W.cell? ⟨b, o + 4, none⟩ = some (.int .i64 e.val.kind)) (c5 : W.cell? ⟨b, o + 5, none⟩ = some (.int .i64 e.val.int)) (c6 : W.cell? ⟨b, o + 6, none⟩ = some (.int .i64 e.val.im)) (c7 : W.cell? ⟨b, o + 7, none⟩ = some (.string e.val.text)) (c8 : W.cell? ⟨b, o + 8, none⟩ = some s) (c9 : W.cell? ⟨b, o + 9, none⟩ = some (.int .i64 e.off)) (c10 : W.cell? ⟨b, o + 10, none⟩ = some (.int .i64 e.line)) (c11 : W.cell? ⟨b, o + 11, none⟩ = some (.int .i64 e.col)) : CellsE U b o e s :=
  have k : ∀ i, U.cell? ⟨b, i, none⟩ = W.cell? ⟨b, i, none⟩ := fun i => hb.cell (p := ⟨b, i, none⟩) h
  ⟨(k _).trans c0, (k _).trans c1, (k _).trans c2, (k _).trans c3, (k _).trans c4, (k _).trans c5, (k _).trans c6, (k _).trans c7, (k _).trans c8, (k _).trans c9, (k _).trans c10, (k _).trans c11⟩
/-- What the loop of the reference's Make holds. -/
structure RLoop (l : List Evn) (n : Nat) (w wr : World) (k : Nat) (I : Nat → Prop) (v0 v1 v2 : Value) (rs : List CV) : Prop where
  res : wr.heap[w.heap.size]? = some (.cells #[.slice none 0 0, .slice none 0 0, .slice none 0 0] 25 (0, 0))
  own : wr.heap[w.heap.size + 1]? = some (.cells #[v0, v1, v2] 25 (0, 0))
  rat : RAt wr (w.heap.size + 2) (n + 1) I (gAt l k) v0 v1 v2 rs
  no : ∀ b, I b → b ≠ w.heap.size ∧ b ≠ w.heap.size + 1
  fine : Fine l k
  bel : Below w.heap.size w wr
theorem RLoop.below {l : List Evn} {n : Nat} {w wr w' : World} {k : Nat} {I : Nat → Prop} {v0 v1 v2 : Value} {rs : List CV} (h : RLoop l n w wr k I v0 v1 v2 rs) (hb : Below wr.heap.size wr w') : RLoop l n w w' k I v0 v1 v2 rs :=
  ⟨(hb.block _ (Array.getElem?_eq_some_iff.1 h.res).1).trans h.res, (hb.block _ (Array.getElem?_eq_some_iff.1 h.own).1).trans h.own, h.rat.below hb, h.no, h.fine, h.bel.trans (hb.mono h.bel.size)⟩
theorem RAt.cla {w : World} {h0 n : Nat} {I : Nat → Prop} {g : Gs} {v0 v1 v2 : Value} {rs : List CV} (h : RAt w h0 n I g v0 v1 v2 rs) (hl : g.calls.length ≤ 1000000000) : ClAt w w.heap.size v2 g.calls := by
  obtain ⟨a2, c2, e2⟩ := rowLen h.cl
  subst e2
  have hrl : rs.length = g.calls.length := by rw [← h.same, List.length_map]
  have h1 := h.cl
  rw [← hrl] at h1
  have h2 := (HvsAt.row h1 (by omega)).cl
  rw [h.same, hrl] at h2
  exact h2
/-- Behind a store of the three of what is made. -/
theorem RLoop.next {l : List Evn} {n : Nat} {w wr w' : World} {k : Nat} {I I' : Nat → Prop} {v0 v1 v2 u0 u1 u2 : Value} {rs rs' : List CV} (hk : k < l.length) (h : RLoop l n w wr k I v0 v1 v2 rs) (hb : Below (w.heap.size + 2) wr w') (hr : RAt w' (w.heap.size + 2) (n + 1) I' (takeM (gAt l k) k l[k]) u0 u1 u2 rs') (hI : ∀ b, I' b → I b ∨ b < w.heap.size ∨ wr.heap.size ≤ b) (hf : faultE (opensAt l k) l[k] = 0) :
    RLoop l n w (((w'.setCell ⟨w.heap.size + 1, 0, none⟩ u0).setCell ⟨w.heap.size + 1, 1, none⟩ u1).setCell ⟨w.heap.size + 1, 2, none⟩ u2) (k + 1) I' u0 u1 u2 rs' := by
  have l0 := (Array.getElem?_eq_some_iff.1 h.res).1
  have l1 := (Array.getElem?_eq_some_iff.1 h.own).1
  have hno : ∀ b, I' b → b ≠ w.heap.size ∧ b ≠ w.heap.size + 1 := fun b hb' => by
    rcases hI b hb' with h1 | h1 | h1
    · exact h.no b h1
    · omega
    · omega
  have e0 := (hb.block _ (by omega)).trans h.res
  have e1 := (hb.block _ (by omega)).trans h.own
  have g1 := heap_setCell_same _ _ 0 _ _ u0 e1
  have g2 := heap_setCell_same _ _ 1 _ _ u1 g1
  have g3 := heap_setCell_same _ _ 2 _ _ u2 g2
  have kp : Keeps (fun x => x = w.heap.size + 1) w' (((w'.setCell ⟨w.heap.size + 1, 0, none⟩ u0).setCell ⟨w.heap.size + 1, 1, none⟩ u1).setCell ⟨w.heap.size + 1, 2, none⟩ u2) :=
    ((Keeps.set w' (w.heap.size + 1) 0 u0).trans (Keeps.set _ (w.heap.size + 1) 1 u1) (fun _ _ h => h)).trans (Keeps.set _ (w.heap.size + 1) 2 u2) (fun _ _ h => h)
  have nr : ∀ {v : Value} {t : TypeId} {z m : Nat} {xs : List Value}, w'.ownsRow (w.heap.size + 2) t z v m xs → v.ownBlock ≠ some (w.heap.size + 1) := fun hr e => by have := (hr.lt _ e).1; omega
  have hz := hb.size
  refine ⟨(kp.block _ (by omega) (by omega)).trans e0, g3, ?_, hno, fine_more h.fine hk hf, (h.bel.trans (hb.mono (by omega))).trans (kp.toBelow (by omega) (fun x h => by omega))⟩
  rw [gAt_succ l k hk]
  exact hr.keep kp (fun h => (hno _ h).2 rfl) (nr hr.pr) (nr hr.ob) (nr hr.cl)

set_option maxRecDepth 100000 in
set_option maxHeartbeats 4000000 in
theorem refMake_k (l : List Evn) (w : World) (n : Nat) (sl : Value) (hi : EvsAt w w.heap.size (n + 1) sl l) :
    Calls Tryz.prog 39 #[sl] w fun e w' => (∃ v0 v1 v2 at' code, e = .returned (.tuple #[.agg #[v0, v1, v2], .int .i64 ((at' : Nat) : Int), .int .i64 code]) ∧ RMakeR l (n + 1) (w.heap.size + 2) w' v0 v1 v2 at' code) ∧ Below w.heap.size w w' := by
  obtain ⟨W1, hW1⟩ : ∃ W, w.alloc (.cells #[.slice none 0 0, .slice none 0 0, .slice none 0 0] 25) = W := ⟨_, rfl⟩
  obtain ⟨W, hW⟩ : ∃ W, W1.alloc (.cells #[.slice none 0 0, .slice none 0 0, .slice none 0 0] 25) = W := ⟨_, rfl⟩
  have b1 : Below w.heap.size w W1 := by rw [← hW1]; exact alloc_v (Below.refl _ _) _
  have b2 : Below W1.heap.size W1 W := by rw [← hW]; exact alloc_v (Below.refl _ _) _
  have z1 : W1.heap.size = w.heap.size + 1 := by rw [← hW1]; simp
  have z2 : W.heap.size = w.heap.size + 2 := by rw [← hW]; simp [z1]
  have e1 : W.heap[w.heap.size]? = some (.cells #[.slice none 0 0, .slice none 0 0, .slice none 0 0] 25 (0, 0)) := by
    refine (b2.block _ (by omega)).trans ?_
    rw [← hW1]; exact World.alloc_heap_new w _
  have e2 : W.heap[w.heap.size + 1]? = some (.cells #[.slice none 0 0, .slice none 0 0, .slice none 0 0] 25 (0, 0)) := by rw [← hW, ← z1]; exact World.alloc_heap_new W1 _
  have hst : ∀ W' : World, W'.heap[w.heap.size]? = some (.cells #[.slice none 0 0, .slice none 0 0, .slice none 0 0] 25 (0, 0)) → W'.heap[w.heap.size + 1]? = some (.cells #[.slice none 0 0, .slice none 0 0, .slice none 0 0] 25 (0, 0)) → w.heap.size + 2 ≤ W'.heap.size → Below w.heap.size w W' → RLoop l n w W' 0 (fun _ => False) (.slice none 0 0) (.slice none 0 0) (.slice none 0 0) [] := fun W' e1 e2 hz hb => ⟨e1, e2, RAt.start W' _ _ hz, fun _ h => h.elim, fun j _ h => by omega, hb⟩
  have HST : Hid (RLoop l n w (((W.setCell ⟨w.heap.size + 1, 0, none⟩ (.slice none 0 0)).setCell ⟨w.heap.size + 1, 1, none⟩ (.slice none 0 0)).setCell ⟨w.heap.size + 1, 2, none⟩ (.slice none 0 0)) 0 (fun _ => False) (.slice none 0 0) (.slice none 0 0) (.slice none 0 0) []) := by
    refine hst _ ?_ (heap_setCell_same _ _ 2 _ _ _ (heap_setCell_same _ _ 1 _ _ _ (heap_setCell_same _ _ 0 _ _ _ e2))) ?_ ?_
    · rw [Below.heap_setCell _ _ _ _ (by simp), Below.heap_setCell _ _ _ _ (by simp), Below.heap_setCell _ _ _ _ (by simp)]
      exact e1
    · simp [World.setCell]
      omega
    · exact (((trans_v b1 b2).setCell (Nat.le_succ _) _).setCell (Nat.le_succ _) _).setCell (Nat.le_succ _) _
  have x0 := cells_at e2 0 _ rfl
  have x1 := cells_at e2 1 _ rfl
  have x2 := cells_at e2 2 _ rfl
  have q0 := frozen_at e2 0
  have q1 := frozen_at e2 1
  have q2 := frozen_at e2 2
  have HI := hide hi
  obtain ⟨a, c, rfl, hlen⟩ := hi.len
  clear hi e1 e2 b1 b2 z2 hst
  go_enter Tryz.func39, Tryz.ntmps39
  go_wp2
  clear x0 x1 x2 q0 q1 q2
  go_loopw [6] (fun i wr => ∃ (k : Nat) (I : Nat → Prop) (v0 v1 v2 : Value) (rs : List CV), k ≤ l.length ∧ i = .int .i64 k ∧ RLoop l n w wr k I v0 v1 v2 rs) (fun i _ => l.length - (intOf i).toNat)
  case atStart => exact ⟨0, _, _, _, _, _, Nat.zero_le _, rfl, HST.out⟩
  case round =>
    clear HST
    obtain ⟨k, I, v0, v1, v2, rs, hk, rfl, hL⟩ := hrel
    by_cases hlt : k < l.length
    · obtain ⟨b3, o3, s3, rfl, g3, p0, p1, p2, p3, p4, p5, p6, p7, p8, p9, p10, p11, pi, pk, pz⟩ := (HI.out.below hL.bel).item k hlt
      have hz := hL.bel.size
      have HR := hide (refRightE_k l[k] wr (n + 1) s3 pk (pi.up hL.bel.size))
      have HK := hide pk
      have HPI := hide pi
      have HPZ := hide pz
      have HLL := hide hL
      obtain ⟨xx3, yy3, rfl, _⟩ := pi.len
      have bd : b3 < wr.heap.size := by omega
      clear pi pk pz hL
      go_upto_if 23 with (go_at_call 54; refine HR.out.mono ?_; clear HR; rintro r w3 ⟨rfl, bb⟩; have B3 := hide bb; clear bb)
      have hLB := HLL.out.below B3.out
      have f0 := hLB.res
      have x0 := cells_at f0 0 _ rfl
      have x1 := cells_at f0 1 _ rfl
      have x2 := cells_at f0 2 _ rfl
      have q0 := frozen_at f0 0
      have q1 := frozen_at f0 1
      have q2 := frozen_at f0 2
      have HF0 := hide f0
      have HLB := hide hLB
      clear f0 hLB
      cases hre : rightE l[k]
      · have HRE := hide hre
        clear hre
        go_wp2
        have g1 := heap_setCell_same _ _ 0 _ _ (.slice none 0 0) HF0.out
        have g2 := heap_setCell_same _ _ 1 _ _ (.slice none 0 0) g1
        have g3 := heap_setCell_same _ _ 2 _ _ (.slice none 0 0) g2
        refine bodyPost_ret (results_struct_two rfl _ _ w.heap.size _ _ _ _ rfl g3 Tryz.underlying25 rfl infoPast) rfl ?_
        have hfk : faultE (opensAt l k) l[k] = 2 := by unfold faultE; rw [if_pos HRE.out]
        exact ⟨⟨_, _, _, k, 2, rfl, .inl ⟨.inl ⟨.inr ⟨hlt, hfk.symm, by decide, HLB.out.fine⟩, by decide⟩, rfl, rfl, rfl⟩⟩, ((HLB.out.bel.setCell (Nat.le_refl _) _).setCell (Nat.le_refl _) _).setCell (Nat.le_refl _) _⟩
      · have HRE := hide hre
        clear hre x0 x1 x2 q0 q1 q2
        have hSS : ∀ U : World, Below w.heap.size w3 U → CellsE U b3 (o3 + k * 12) l[k] (.slice xx3 l[k].val.items.length yy3) := fun U hU => CellsE.of ((B3.out.mono hz).trans hU) g3 p0 p1 p2 p3 p4 p5 p6 p7 p8 p9 p10 p11
        have HSS := hide hSS
        have HADD := hide (fun (U : World) (hU : Below w3.heap.size w3 U) => addAll_k l[k] k U (w.heap.size + 2) n I (gAt l k) v0 v1 v2 rs (.slice xx3 l[k].val.items.length yy3) (opensAt l k) w.heap.size (by omega) (good_at l k (by omega) HLB.out.fine) (HLB.out.below hU).rat ((HPI.out.below ((B3.out.trans (hU.mono B3.out.size)).mono hz)).up (Nat.le_refl _)) HK.out HPZ.out (by have := gAt_small l k; omega) (by have := gAt_small l k; omega) (by have := gAt_small l k; omega) HRE.out)
        obtain ⟨a0, c0, e0⟩ := rowLen HLB.out.rat.pr
        obtain ⟨a1, c1, e1⟩ := rowLen HLB.out.rat.ob
        obtain ⟨a2, c2, e2⟩ := rowLen HLB.out.rat.cl
        subst e0 e1 e2
        have hown := HLB.out.own
        have y0 := cells_at hown 0 _ rfl
        have y1 := cells_at hown 1 _ rfl
        have y2 := cells_at hown 2 _ rfl
        have HOWN := hide hown
        clear hSS hown p0 p1 p2 p3 p4 p5 p6 p7 p8 p9 p10 p11
        generalize hek : l[k] = ek at *
        go_upto_region 9 with (fail)
        refine wp_region_E 11 12 (fun U => CellsE U b3 (o3 + k * 12) ek (.slice xx3 ek.val.items.length yy3)) (by kernel_rfl) (by kernel_rfl) (by kernel_rfl) (by kernel_rfl) (by decide) (by kernel_rfl) ?_
        intro hsk inv
        have HS2 := hide (HSS.out w3.drew (drewB 1 w3 |>.mono HLB.out.bel.size))
        refine wpAnyE_take (i := 1) (v := ?v1) hsk inv (by decide) rfl (by kernel_rfl) (by kernel_rfl) (fun _ _ _ h => h) (Or.inl ⟨by rfl, ?hy1⟩) HS2.out ?rest1
        case hy1 => intro U hU; have d0 := hU.c0; have d1 := hU.c1; have d2 := hU.c2; have d3 := hU.c3; have d4 := hU.c4; have d5 := hU.c5; have d6 := hU.c6; have d7 := hU.c7; have d8 := hU.c8; have d9 := hU.c9; have d10 := hU.c10; have d11 := hU.c11; go_simp; (try with_reducible rfl)
        case rest1 =>
        clear inv
        intro inv
        (try simp only [Act.put, List.setIfInBounds_toArray])
        refine wpAnyE_take (i := 2) (v := ?v2) hsk inv (by decide) rfl (by kernel_rfl) (by kernel_rfl) (fun _ _ _ h => h) (Or.inl ⟨by rfl, ?hy2⟩) HS2.out ?rest2
        case hy2 => intro U hU; have d0 := hU.c0; have d1 := hU.c1; have d2 := hU.c2; have d3 := hU.c3; have d4 := hU.c4; have d5 := hU.c5; have d6 := hU.c6; have d7 := hU.c7; have d8 := hU.c8; have d9 := hU.c9; have d10 := hU.c10; have d11 := hU.c11; go_simp; (try with_reducible rfl)
        case rest2 =>
        clear inv
        intro inv
        (try simp only [Act.put])
        refine wpAnyE_take (i := 5) (v := ?v5) hsk inv (by decide) rfl (by kernel_rfl) (by kernel_rfl) (fun _ _ _ h => h) (Or.inl ⟨by rfl, ?hy5⟩) HS2.out ?rest5
        case hy5 => intro U hU; have d0 := hU.c0; have d1 := hU.c1; have d2 := hU.c2; have d3 := hU.c3; have d4 := hU.c4; have d5 := hU.c5; have d6 := hU.c6; have d7 := hU.c7; have d8 := hU.c8; have d9 := hU.c9; have d10 := hU.c10; have d11 := hU.c11; go_simp; (try with_reducible rfl)
        case rest5 =>
        clear inv
        intro inv
        (try simp only [Act.put])
        refine wpAnyE_take (i := 3) (v := ?v3) hsk inv (by decide) rfl (by kernel_rfl) (by kernel_rfl) (fun _ _ _ h => h) (Or.inl ⟨by rfl, ?hy3⟩) HS2.out ?rest3
        case hy3 => intro U hU; have d0 := hU.c0; have d1 := hU.c1; have d2 := hU.c2; have d3 := hU.c3; have d4 := hU.c4; have d5 := hU.c5; have d6 := hU.c6; have d7 := hU.c7; have d8 := hU.c8; have d9 := hU.c9; have d10 := hU.c10; have d11 := hU.c11; go_simp; (try with_reducible rfl)
        case rest3 =>
        clear inv
        intro inv
        (try simp only [Act.put])
        refine wpAnyE_take (i := 4) (v := ?v4) hsk inv (by decide) rfl (by kernel_rfl) (by kernel_rfl) (fun _ _ _ h => h) (Or.inl ⟨by rfl, ?hy4⟩) HS2.out ?rest4
        case hy4 => intro U hU; have d0 := hU.c0; have d1 := hU.c1; have d2 := hU.c2; have d3 := hU.c3; have d4 := hU.c4; have d5 := hU.c5; have d6 := hU.c6; have d7 := hU.c7; have d8 := hU.c8; have d9 := hU.c9; have d10 := hU.c10; have d11 := hU.c11; go_simp; (try with_reducible rfl)
        case rest4 =>
        clear inv
        intro inv
        (try simp only [Act.put])
        refine wpAnyE_one (i := 0) inv (by decide) (by kernel_rfl) rfl (fun K hK => ?_)
        go_simp
        refine hK.out _ _ HS2.out ?_
        clear hK K inv
        intro inv
        (try simp only [Act.put, List.setIfInBounds_toArray, List.set_cons_zero, List.set_cons_succ])
        refine wpAnyE_one (i := 6) inv (by decide) (by kernel_rfl) rfl (fun K hK => ?_)
        go_simp
        go_at_call 55
        refine (HADD.out _ (drewB 1 _)).mono ?_
        rintro r w4 ⟨⟨u0, u1, u2, rfl, ⟨⟨A0, M0, D0, rfl⟩, ⟨A1, M1, D1, rfl⟩, ⟨A2, M2, D2, rfl⟩⟩, hadd⟩, b4⟩
        have HA4 := hide hadd
        have bb4 : Below (w.heap.size + 2) w3 w4 := ((drewB 1 w3).mono HLB.out.rat.sz).trans b4
        have HB4 := hide bb4
        have HS4 := hide (HSS.out w4 (bb4.mono (by omega)))
        have o4 := (bb4.block (w.heap.size + 1) (by omega)).trans HOWN.out
        have z0 := cells_at o4 0 _ rfl
        have z1' := cells_at o4 1 _ rfl
        have z2 := cells_at o4 2 _ rfl
        have q0 := frozen_at o4 0
        have q1 := frozen_at o4 1
        have q2 := frozen_at o4 2
        have HO4 := hide o4
        have HS5 := hide (HSS.out (((w4.setCell ⟨w.heap.size + 1, 0, none⟩ (.slice A0 M0 D0)).setCell ⟨w.heap.size + 1, 1, none⟩ (.slice A1 M1 D1)).setCell ⟨w.heap.size + 1, 2, none⟩ (.slice A2 M2 D2)) ((((bb4.mono (by omega)).setCell (Nat.le_succ _) _).setCell (Nat.le_succ _) _).setCell (Nat.le_succ _) _))
        clear hadd b4 bb4 o4
        refine hK.out _ _ HS4.out ?_
        clear hK K inv
        intro inv
        (try simp only [Act.put, List.setIfInBounds_toArray, List.set_cons_zero, List.set_cons_succ])
        refine wpAnyE_take (i := 7) (v := ?v7) hsk inv (by decide) rfl (by kernel_rfl) (by kernel_rfl) (fun _ _ _ h => h) (Or.inl ⟨by rfl, ?hy7⟩) HS4.out ?rest7
        case hy7 => intro U hU; have d0 := hU.c0; have d1 := hU.c1; have d2 := hU.c2; have d3 := hU.c3; have d4 := hU.c4; have d5 := hU.c5; have d6 := hU.c6; have d7 := hU.c7; have d8 := hU.c8; have d9 := hU.c9; have d10 := hU.c10; have d11 := hU.c11; go_simp; (try with_reducible rfl)
        case rest7 =>
        clear inv
        intro inv
        (try simp only [Act.put, List.setIfInBounds_toArray])
        refine wpAnyE_take (i := 8) (v := ?v8) hsk inv (by decide) rfl (by kernel_rfl) (by kernel_rfl) (fun _ _ _ h => h) (Or.inl ⟨by rfl, ?hy8⟩) HS4.out ?rest8
        case hy8 => intro U hU; have d0 := hU.c0; have d1 := hU.c1; have d2 := hU.c2; have d3 := hU.c3; have d4 := hU.c4; have d5 := hU.c5; have d6 := hU.c6; have d7 := hU.c7; have d8 := hU.c8; have d9 := hU.c9; have d10 := hU.c10; have d11 := hU.c11; go_simp; (try with_reducible rfl)
        case rest8 =>
        clear inv
        intro inv
        (try simp only [Act.put])
        refine wpAnyE_take (i := 9) (v := ?v9) hsk inv (by decide) rfl (by kernel_rfl) (by kernel_rfl) (fun _ _ _ h => h) (Or.inl ⟨by rfl, ?hy9⟩) HS4.out ?rest9
        case hy9 => intro U hU; have d0 := hU.c0; have d1 := hU.c1; have d2 := hU.c2; have d3 := hU.c3; have d4 := hU.c4; have d5 := hU.c5; have d6 := hU.c6; have d7 := hU.c7; have d8 := hU.c8; have d9 := hU.c9; have d10 := hU.c10; have d11 := hU.c11; go_simp; (try with_reducible rfl)
        case rest9 =>
        clear inv
        intro inv
        (try simp only [Act.put])
        refine wpAnyE_one (i := 10) inv (by decide) (by kernel_rfl) rfl (fun K hK => ?_)
        go_simp
        refine hK.out _ _ HS5.out ?_
        clear hK K inv
        intro inv
        (try simp only [Act.put, List.setIfInBounds_toArray, List.set_cons_zero, List.set_cons_succ])
        refine wpAnyE_last (by kernel_rfl) (by kernel_rfl) rfl (fun K hK => ?_)
        go_simp
        refine hK.out _ _ ?_
        clear hK K HS5 HS4 HS2 z0 z1' z2 q0 q1 q2 y0 y1 y2
        by_cases hfz : faultE (opensAt l k) ek = 0
        · obtain ⟨I', rs', hr', hI'⟩ := HA4.out hfz
          have HN := hide (RLoop.next (l := l) hlt HLB.out HB4.out (by rw [hek]; exact hr') hI' (by rw [hek]; exact hfz))
          rw [hfz]
          clear hr' hI' hfz HA4
          go_wp2
          go_roundw
          case rel => exact ⟨k + 1, I', _, _, _, rs', by omega, by go_num, HN.out⟩
          case measure => simp [intOf]; omega
        · have hfb : (faultE (opensAt l k) ek != 0) = true := by simpa using hfz
          have f0 : (((w4.setCell ⟨w.heap.size + 1, 0, none⟩ (.slice A0 M0 D0)).setCell ⟨w.heap.size + 1, 1, none⟩ (.slice A1 M1 D1)).setCell ⟨w.heap.size + 1, 2, none⟩ (.slice A2 M2 D2)).heap[w.heap.size]? = some (.cells #[.slice none 0 0, .slice none 0 0, .slice none 0 0] 25 (0, 0)) := by
            rw [Below.heap_setCell _ _ _ _ (by simp), Below.heap_setCell _ _ _ _ (by simp), Below.heap_setCell _ _ _ _ (by simp)]
            exact (HB4.out.block _ (by omega)).trans HF0.out
          have hbel : Below w.heap.size w (((w4.setCell ⟨w.heap.size + 1, 0, none⟩ (.slice A0 M0 D0)).setCell ⟨w.heap.size + 1, 1, none⟩ (.slice A1 M1 D1)).setCell ⟨w.heap.size + 1, 2, none⟩ (.slice A2 M2 D2)) := (((HLB.out.bel.trans (HB4.out.mono (by omega))).setCell (Nat.le_succ _) _).setCell (Nat.le_succ _) _).setCell (Nat.le_succ _) _
          have HBL := hide hbel
          have HF5 := hide f0
          have HFZ := hide hfz
          have x0 := cells_at f0 0 _ rfl
          have x1 := cells_at f0 1 _ rfl
          have x2 := cells_at f0 2 _ rfl
          have q0 := frozen_at f0 0
          have q1 := frozen_at f0 1
          have q2 := frozen_at f0 2
          clear f0 hbel hfz
          obtain ⟨W5, hW5⟩ : ∃ W5, (((w4.setCell ⟨w.heap.size + 1, 0, none⟩ (.slice A0 M0 D0)).setCell ⟨w.heap.size + 1, 1, none⟩ (.slice A1 M1 D1)).setCell ⟨w.heap.size + 1, 2, none⟩ (.slice A2 M2 D2)) = W5 := ⟨_, rfl⟩
          rw [hW5] at HBL HF5 x0 x1 x2 q0 q1 q2 ⊢
          clear hW5
          go_wp2
          have g1 := heap_setCell_same _ _ 0 _ _ (.slice none 0 0) HF5.out
          have g2 := heap_setCell_same _ _ 1 _ _ (.slice none 0 0) g1
          have g3 := heap_setCell_same _ _ 2 _ _ (.slice none 0 0) g2
          refine bodyPost_ret (results_struct_two rfl _ _ w.heap.size _ _ _ _ rfl g3 Tryz.underlying25 rfl infoPast) rfl ?_
          exact ⟨⟨_, _, _, k, _, rfl, .inl ⟨.inl ⟨.inr ⟨hlt, by rw [hek], HFZ.out, HLB.out.fine⟩, HFZ.out⟩, rfl, rfl, rfl⟩⟩, ((HBL.out.setCell (Nat.le_refl _) _).setCell (Nat.le_refl _) _).setCell (Nat.le_refl _) _⟩
    · have hkl : k = l.length := by omega
      subst hkl
      have HLL := hide hL
      clear hL
      go_wp2
      go_loopw [9] (fun i wr' => ∃ t : Nat, t ≤ l.length ∧ i = .int .i64 t ∧ RLoop l n w wr' l.length I v0 v1 v2 rs ∧ ∀ j, j < t → largeG (gAt l (j + 1)) = false) (fun i _ => l.length - (intOf i).toNat)
      case atStart => exact ⟨0, Nat.zero_le _, rfl, HLL.out, fun j h => by omega⟩
      case round =>
        rename_i wq
        clear HLL
        obtain ⟨t, ht, rfl, hL, hnl⟩ := hrel
        have HNL := hide hnl
        have HLL := hide hL
        have f0 := hL.res
        have x0 := cells_at f0 0 _ rfl
        have x1 := cells_at f0 1 _ rfl
        have x2 := cells_at f0 2 _ rfl
        have q0 := frozen_at f0 0
        have q1 := frozen_at f0 1
        have q2 := frozen_at f0 2
        have hown := hL.own
        have y0 := cells_at hown 0 _ rfl
        have y1 := cells_at hown 1 _ rfl
        have y2 := cells_at hown 2 _ rfl
        have HF0 := hide f0
        have hz := hL.bel.size
        by_cases hlt : t < l.length
        · have hx := ext_at l (t + 1) hlt l.length hlt (Nat.le_refl _) hL.fine
          have hg := good_at l (t + 1) hlt (fine_less hL.fine hlt)
          have hgl := good_at l l.length (Nat.le_refl _) hL.fine
          have hsm := gAt_small l l.length
          have HLK := hide (large_k7 wr v0 v1 v2 hL.rat.forms.1 hL.rat.forms.2.1 (gAt l l.length).calls (hL.rat.cla (by omega)) (t : Int) (gAt l (t + 1)).calls.length hx.len (fun j hj hjm => by
            have h1 := (hx.same j hjm hj).2.1
            have h2 := (hg.plc j hjm).1
            omega) (fun h => by
            have := hx.late _ h (Nat.le_refl _)
            omega) (fun j hj => by
            have := hgl.num j hj
            omega))
          rw [largeR_eq hL.fine hlt] at HLK
          obtain ⟨⟨a0, m0, c0, e0⟩, ⟨a1, m1, c1, e1⟩, ⟨a2, m2, c2, e2⟩⟩ := hL.rat.forms
          subst e0 e1 e2
          clear hx hg hgl hsm hL f0 hown hnl
          cases hlg : largeG (gAt l (t + 1))
          · rw [hlg] at HLK
            have HLG := hide hlg
            clear hlg x0 x1 x2 q0 q1 q2
            go_wp2_with (go_at_call 56; refine HLK.out.mono ?_; clear HLK; rintro r w5 ⟨rfl, b5⟩; have HL5 := hide (HLL.out.below b5); clear b5)
            go_roundw
            case rel => exact ⟨t + 1, by omega, by go_num, HL5.out, fun j hj => by
              by_cases ej : j = t
              · subst ej; exact HLG.out
              · exact HNL.out j (by omega)⟩
            case measure => simp [intOf]; omega
          · rw [hlg] at HLK
            have HLG := hide hlg
            clear hlg x0 x1 x2 q0 q1 q2
            go_wp2_with (go_at_call 56; refine HLK.out.mono ?_; clear HLK; rintro r w5 ⟨rfl, b5⟩; have HL5 := hide (HLL.out.below b5); have f5 := HL5.out.res; have HF5 := hide f5; have x0 := cells_at f5 0 _ rfl; have x1 := cells_at f5 1 _ rfl; have x2 := cells_at f5 2 _ rfl; have q0 := frozen_at f5 0; have q1 := frozen_at f5 1; have q2 := frozen_at f5 2; clear b5 f5)
            have g1 := heap_setCell_same _ _ 0 _ _ (.slice none 0 0) HF5.out
            have g2 := heap_setCell_same _ _ 1 _ _ (.slice none 0 0) g1
            have g3 := heap_setCell_same _ _ 2 _ _ (.slice none 0 0) g2
            refine bodyPost_ret (results_struct_two rfl _ _ w.heap.size _ _ _ _ rfl g3 Tryz.underlying25 rfl infoPast) rfl ?_
            exact ⟨⟨_, _, _, t, 72, rfl, .inl ⟨.inr ⟨HL5.out.fine, hlt, ⟨HLG.out, HNL.out⟩, rfl⟩, rfl, rfl, rfl⟩⟩, ((HL5.out.bel.setCell (Nat.le_refl _) _).setCell (Nat.le_refl _) _).setCell (Nat.le_refl _) _⟩
        · have htl : t = l.length := by omega
          subst htl
          obtain ⟨⟨a0, m0, c0, e0⟩, ⟨a1, m1, c1, e1⟩, ⟨a2, m2, c2, e2⟩⟩ := hL.rat.forms
          subst e0 e1 e2
          clear hL f0 hown hnl
          go_wp2
          have g1 := heap_setCell_same _ _ 0 _ _ (.slice a0 m0 c0) HF0.out
          have g2 := heap_setCell_same _ _ 1 _ _ (.slice a1 m1 c1) g1
          have g3 := heap_setCell_same _ _ 2 _ _ (.slice a2 m2 c2) g2
          refine bodyPost_ret (results_struct_two rfl _ _ w.heap.size _ _ _ _ rfl g3 Tryz.underlying25 rfl infoPast) rfl ?_
          have kp : Keeps (fun x => x = w.heap.size) wr (((wr.setCell ⟨w.heap.size, 0, none⟩ (.slice a0 m0 c0)).setCell ⟨w.heap.size, 1, none⟩ (.slice a1 m1 c1)).setCell ⟨w.heap.size, 2, none⟩ (.slice a2 m2 c2)) :=
            ((Keeps.set wr w.heap.size 0 (.slice a0 m0 c0)).trans (Keeps.set _ w.heap.size 1 (.slice a1 m1 c1)) (fun _ _ h => h)).trans (Keeps.set _ w.heap.size 2 (.slice a2 m2 c2)) (fun _ _ h => h)
          have nr : ∀ {v : Value} {t : TypeId} {z m : Nat} {xs : List Value}, wr.ownsRow (w.heap.size + 2) t z v m xs → v.ownBlock ≠ some w.heap.size := fun hr e => by have := (hr.lt _ e).1; omega
          exact ⟨⟨_, _, _, 0, 0, rfl, .inr ⟨rfl, rfl, HLL.out.fine, HNL.out, rs, I, HLL.out.rat.keep kp (fun h => (HLL.out.no _ h).1 rfl) (nr HLL.out.rat.pr) (nr HLL.out.rat.ob) (nr HLL.out.rat.cl)⟩⟩, ((HLL.out.bel.setCell (Nat.le_refl _) _).setCell (Nat.le_refl _) _).setCell (Nat.le_refl _) _⟩
end Go.Proofs.YtnmkggoampkekaaGreatDoor
