/- The decoder's value: its walk, where it succeeds. -/
import Derived.Test.YtngnlofjjlkcmaaGreatDoorZVDecV
import Derived.Deep.RegionHeld3
namespace Go.Proofs.YtngnlofjjlkcmaaGreatDoor
open Go.RowKit

/-- An append that is run at a step of a region that draws its order. -/
theorem step_runV {P : Program} (w : World) {ops : Array Oper} {o : Oper} {a : Act} {K : Act → World → Prop} {Q : Exit → Act → World → Prop} {E : Prop} (hgd : o.guard = none) (s x : Operand) (t : TypeId)
    (ho : o.op = .call { callee := .builtin .append, args := #[s, x], argTypes := #[t, t] }) (vs vx : Value) (hs : a.eval s = vs) (hx : a.eval x = vx) (v' : Value) (w' : World)
    (hr : (Builtin.append_ #[t, t] o.type #[vs, vx]).run P w = .ok v' w') (h : K (a.put o.dst v') w') :
    if Region.wanted o (yielded ops a.tmps) = true then Oper.wp P o a w K Q else E := by
  have hw : Region.wanted o (yielded ops a.tmps) = true := by simp [Region.wanted, hgd]
  rw [if_pos hw]
  unfold Oper.wp execOp
  simp only [ho, resolve, invoke, builtin, Sem.run_bind, Sem.run_pure, Result.andThen_ok, List.map_toArray, List.map_cons, List.map_nil, hs, hx, hr]
  exact h
theorem OwnAt.lt {w : World} {L n : Nat} {v : Value} {its : List Vl} (h : OwnAt w L n v its) {b : Nat} (e : v.ownBlock = some b) : L ≤ b ∧ b < w.heap.size := by
  obtain ⟨ss, hl, hr, hc⟩ := h
  exact hr.lt b e
theorem OwnAt.len {w : World} {L n : Nat} {v : Value} {its : List Vl} (h : OwnAt w L n v its) : ∃ a c, v = .slice a its.length c := by
  obtain ⟨ss, hl, hr, hc⟩ := h
  rcases hr.2 with ⟨hv, h0⟩ | ⟨g, cap, cur, hv, _⟩
  · exact ⟨none, 0, by rw [hv, h0]⟩
  · exact ⟨_, _, hv⟩
theorem decM_ok {l : List UInt8} {n p q : Nat} {v : Vl} {r : Nat × Nat} (h : decM l n p q = some (v, r)) : v.ok := by
  cases n with
  | zero => simp [decM] at h
  | succ n =>
    simp only [decM] at h
    split at h
    · cases h
    · cases e : headM (seen l p) with
      | none => rw [e] at h; cases h
      | some t =>
        obtain ⟨u, k, t⟩ := t
        rw [e] at h
        simp only at h
        have hsz : (seen l p).length ≤ 139 := by unfold seen; simp; omega
        have ho := (headM_ok e hsz).1
        split at h
        · cases h
        · simp only [Option.some.injEq, Prod.mk.injEq] at h
          obtain ⟨rfl, _⟩ := h
          exact ho
def DecC (l : List UInt8) (n : Nat) : Prop := ∀ (w : World) (db B p q : Nat) (sl : Value) (v : Vl) (p' q' : Nat), DecAt w db sl p q → BytesIn w 0 B sl l → B ≤ db → p ≤ l.length → l.length ≤ 1000000000000 → q ≤ 4096 → decM l n p q = some (v, p', q') →
  Calls Tryz.prog 17 #[.pointer (some ⟨db, 0, none⟩)] w fun e w' => ∃ s', e = .returned (.agg (vcells v s')) ∧ ItemsIn w' (fun b => w.heap.size ≤ b ∧ b < w'.heap.size) n s' v.items ∧ DecAt w' db sl p' q' ∧ w.grownBy w' (some db)
theorem BytesIn.grownV {w w' : World} {B : Nat} {v : Value} {l : List UInt8} {db : Nat} (h : BytesIn w 0 B v l) (hg : w.grownBy w' (some db)) (hB : B ≤ db) (hw : B ≤ w.heap.size) : BytesIn w' 0 B v l :=
  h.mono (fun b o _ hb => World.cell?_of_block (hg.block b (by omega) (by simp; omega))) (Nat.le_refl _) (Nat.le_refl _)
theorem grown_L {w W W' : World} {r : Option Nat} {L : Nat} (h : w.grownBy W r) (b : Below L W W') (h1 : w.heap.size ≤ L) (_h2 : L ≤ W.heap.size) : w.grownBy W' r :=
  ⟨b.os.trans h.os, b.tape.trans h.tape, b.output.trans h.output, Nat.le_trans h.size b.size, fun k hk hne => (b.block k (by omega)).trans (h.block k hk hne)⟩
set_option maxRecDepth 100000 in
set_option maxHeartbeats 4000000 in
theorem decv_step {l : List UInt8} {n : Nat} (hC : DecC l n) : DecC l (n + 1) := by
  intro w db B p q sl v p' q' hD hB hBd hp hl hq hdec
  simp only [decM] at hdec
  split at hdec
  · cases hdec
  rename_i hq1
  cases e : headM (seen l p) with
  | none => rw [e] at hdec; cases hdec
  | some t =>
  obtain ⟨u, K, r⟩ := t
  rw [e] at hdec
  simp only at hdec
  have hsz : (seen l p).length ≤ 139 ∧ (seen l p).length ≤ l.length - p := by unfold seen; simp; omega
  have ho := headM_ok e hsz.1
  cases e2 : itsM (decM l n) K (p + ((seen l p).length - r.length)) (q + 1) with
  | none => rw [e2] at hdec; cases hdec
  | some t =>
  obtain ⟨XS, p2, q2⟩ := t
  rw [e2] at hdec
  simp only [Option.some.injEq, Prod.mk.injEq] at hdec
  obtain ⟨rfl, rfl, rfl⟩ := hdec
  have hK : K ≤ 4096 := by have := itsM_le (l := l) (fun hp h => decM_le l n hp h) K (by omega) (by omega) e2; omega
  have HXL := hide (itsM_le (l := l) (fun hp h => decM_le l n hp h) K (by omega) (by omega) e2).2.2.2
  have hdb : db < w.heap.size := (Array.getElem?_eq_some_iff.1 hD).1
  obtain ⟨W, hW⟩ : ∃ W, w.alloc (.cells zcells 26) = W := ⟨_, rfl⟩
  have bW : Below w.heap.size w W := by rw [← hW]; exact alloc_v (Below.refl _ _) _
  have e1 : W.heap[w.heap.size]? = some (.cells zcells 26 (0, 0)) := by rw [← hW]; exact World.alloc_heap_new w _
  have zW : W.heap.size = w.heap.size + 1 := by rw [← hW]; simp
  have f1 : W.heap[db]? = some (.cells #[sl, .int .i64 p, .int .i64 q] 51 (0, 0)) := (bW.block _ hdb).trans hD
  have x2 := cells_at f1 2 _ rfl
  have z2 := frozen_at f1 2
  have hadd : IntKind.i64.wrap ((q : Int) + 1) = (q : Int) + 1 := by rw [IntKind.wrap_i64]; omega
  have f2 := heap_setCell_same _ _ 2 _ _ (.int .i64 ((q : Int) + 1)) f1
  have D1 : DecAt (W.setCell ⟨db, 2, none⟩ (.int .i64 ((q : Int) + 1))) db sl p (q + 1) := f2
  have g1 : w.grownBy (W.setCell ⟨db, 2, none⟩ (.int .i64 ((q : Int) + 1))) (some db) := grown_more (grown_of_below bW) (grown_set1 _ _ _ _)
  have HH := hide (head_k _ db B sl l p (q + 1) D1 (hB.grownV g1 hBd (by omega)) hBd hp hl e)
  have HE1 := hide ((Below.heap_setCell W ⟨db, 2, none⟩ (.int .i64 ((q : Int) + 1)) w.heap.size (by show w.heap.size ≠ db; omega)).trans e1)
  have HG1 := hide g1
  have HS1 : Hid ((W.setCell ⟨db, 2, none⟩ (.int .i64 ((q : Int) + 1))).heap.size = w.heap.size + 1) := by show _ = _; simpa [World.setCell] using zW
  have HB := hide hB
  have HC := hide hC
  have HE2 := hide e2
  have HO := hide ho
  have hp1 : p + ((seen l p).length - r.length) ≤ l.length := by omega
  generalize p + ((seen l p).length - r.length) = p1 at *
  have hq1' : ¬ (4096 : Int) < (q : Int) + 1 := by omega
  clear e1 f1 f2 D1 g1 hB hC e2 ho e hsz hD
  obtain ⟨uk, ui, um, ut, ul⟩ := u
  go_enter Tryz.func17, Tryz.ntmps17
  go_wp2_with (go_at_call 34; refine HH.out.mono ?_; clear HH; rintro e w2 ⟨rfl, d2, g2⟩; have D2 := hide d2; have G2 := hide g2; clear d2 g2)
  clear hW x2 z2 hadd
  have hS2 : w.heap.size + 1 ≤ w2.heap.size := by have := G2.out.size; have := HS1.out; omega
  have GW := hide (grown_more HG1.out G2.out)
  have RS := hide ((G2.out.block _ (by rw [HS1.out]; omega) (by simp; omega)).trans HE1.out)
  clear HG1 G2 HE1 HS1 bW zW
  go_loopw [24] (fun i wr => ∃ (k : Nat) (xs ys : List Vl) (pk qk : Nat) (o : Value), k ≤ K ∧ i = .int .u64 k ∧ xs.length = k ∧ XS = xs ++ ys ∧ itsM (decM l n) (K - k) pk qk = some (ys, p2, q2) ∧ pk ≤ l.length ∧ qk ≤ 4096 ∧ wr.heap[w2.heap.size]? = some (.cells #[.int .i64 uk, .int .i64 ui, .int .i64 um, .string ut, o] 26 (0, 0)) ∧ OwnAt wr (w2.heap.size + 1) n o xs ∧ DecAt wr db sl pk qk ∧ wr.heap[w.heap.size]? = some (.cells zcells 26 (0, 0)) ∧ w.grownBy wr (some db) ∧ w2.heap.size + 1 ≤ wr.heap.size)
    (fun i _ => K - (intOf i).toNat)
  case atStart =>
    refine ⟨0, [], XS, p1, q + 1, .slice none 0 0, Nat.zero_le _, rfl, rfl, rfl, HE2.out, hp1, by omega, World.alloc_heap_new w2 _, OwnAt.nil _ _ _, (Below.heap_alloc _ _ _ (by omega)).trans D2.out, (Below.heap_alloc _ _ _ (by omega)).trans RS.out, grown_more GW.out (grown_of_below (alloc_v (Below.refl _ _) _)), by simp⟩
  case round =>
    obtain ⟨k, xs, ys, pk, qk, o, hk, rfl, hxk, hxs, hits, hpk, hqk, hvb, hO, hDk, hrs, hgr, hsz⟩ := hrel
    by_cases hlt : k < K
    · obtain ⟨j, hj⟩ : ∃ j, K - k = j + 1 := ⟨K - k - 1, by omega⟩
      rw [hj] at hits
      simp only [itsM] at hits
      cases eg : decM l n pk qk with
      | none => rw [eg] at hits; cases hits
      | some t =>
      obtain ⟨x, p3, q3⟩ := t
      rw [eg] at hits
      simp only at hits
      cases e3 : itsM (decM l n) j p3 q3 with
      | none => rw [e3] at hits; cases hits
      | some t =>
      obtain ⟨zs, p4, q4⟩ := t
      rw [e3] at hits
      simp only [Option.some.injEq, Prod.mk.injEq] at hits
      obtain ⟨rfl, rfl, rfl⟩ := hits
      have hle := decM_le l n hpk eg
      have HX := hide (HC.out wr.drew db B pk qk sl x p3 q3 hDk (HB.out.grownV ⟨hgr.os, hgr.tape, hgr.output, hgr.size, hgr.block⟩ hBd (by omega)) hBd hpk hl hqk eg)
      have hxl : xs.length + 1 ≤ 1000000000 := by omega
      have HP := hide (fun (U : World) (s : Value) (g : wr.grownBy U (some db)) (i : ItemsIn U (fun b => wr.heap.size ≤ b ∧ b < U.heap.size) n s x.items) =>
        OwnAt.pushX (ty := 24) (x := x) (hO.far g.size (fun k h1 h2 => g.block k h2 (by simp; omega))) (by have := g.size; omega) (i.kept (fun _ _ _ => rfl) (fun b hb => ⟨by omega, hb.2, fun eq => by have := (hO.lt eq.symm).2; omega⟩)) (decM_ok eg) hxl)
      have HV := hide (fun (U : World) (g : wr.grownBy U (some db)) => (g.block w2.heap.size (by omega) (by simp; omega)).trans hvb)
      have HRS := hide (fun (U : World) (g : wr.grownBy U (some db)) => (g.block w.heap.size (by omega) (by simp; omega)).trans hrs)
      have c4 := cells_at hvb 4 _ rfl
      have HH := hide (And.intro hgr (And.intro hxs (And.intro hxk (And.intro e3 hle))))
      obtain ⟨oa, oc, rfl⟩ := hO.len
      clear hvb hO hDk hrs hgr hxs e3 eg hle hxl hpk hqk hxk
      go_wp2
      go_region_law
        (first
          | ((go_simp; go_at_call 17; refine HX.out.mono ?_; clear HX; rintro e w4 ⟨s4, rfl, i4, d4, g4'⟩; have g4 : wr.grownBy w4 (some db) := ⟨g4'.os, g4'.tape, g4'.output, g4'.size, g4'.block⟩; obtain ⟨sa4, sc4, rfl, _⟩ := i4.len; obtain ⟨v5, w5, hrun, o5, b5⟩ := HP.out w4 _ g4 i4; obtain ⟨va, vc, rfl⟩ := o5.len; have k4 : w4.cell? ⟨w2.heap.size, 4, none⟩ = some (.slice oa xs.length oc) := cells_at (HV.out w4 g4) 4 _ rfl; have k4a := fun ob : Obj => (World.cell?_alloc_some w4 ⟨w2.heap.size, 4, none⟩ ob (by rw [k4]; rfl)).trans k4; have F4 := hide (HV.out w4 g4); have R4 := hide (HRS.out w4 g4); have HRN := hide hrun; have O5 := hide o5; have B5 := hide b5; have D4 := hide d4; have G4 := hide g4; clear hrun o5 b5 d4 g4 g4' i4 HP))
          | ((refine step_runV _ (by rfl) (.tmp 27) (.tmp 30) 24 (by rfl) _ _ (by rfl) (by rfl) _ w5 HRN.out ?_; have f5 := (B5.out.block w2.heap.size (by omega)).trans F4.out; have k5 := cells_at f5 4 _ rfl; have z5 := frozen_at f5 4; have F5 := hide f5; clear f5 k4 k4a)))
      all_goals
        go_wp2
        go_roundw
        case rel =>
          have hh := HH.out
          have hL5 := B5.out.size
          have hL4 := G4.out.size
          have h1 : w2.heap.size + 1 ≤ w4.heap.size := by omega
          have g5 := grown_L (grown_more hh.1 G4.out) B5.out (by omega) h1
          refine ⟨k + 1, xs ++ [x], zs, p3, q3, .slice va (xs ++ [x]).length vc, by omega, by go_num, by rw [List.length_append, hh.2.2.1]; rfl, by rw [hh.2.1]; simp, ?_, hh.2.2.2.2.1, hh.2.2.2.2.2.2, ?_, ?_, ?_, ?_, grown_far g5 (by omega), ?_⟩
          · rw [show K - (k + 1) = j by omega]
            exact hh.2.2.2.1
          · rw [List.length_append]
            exact heap_setCell_same _ _ 4 _ _ _ F5.out
          · exact O5.out.far (by simp [World.setCell]) (fun k h1 _ => Below.heap_setCell _ _ _ _ (by show k ≠ w2.heap.size; omega))
          · exact (Below.heap_setCell _ _ _ _ (by show db ≠ w2.heap.size; omega)).trans ((B5.out.block db (by omega)).trans D4.out)
          · exact (Below.heap_setCell _ _ _ _ (by show w.heap.size ≠ w2.heap.size; omega)).trans ((B5.out.block w.heap.size (by omega)).trans R4.out)
          · simp only [World.setCell]
            simpa using (show w2.heap.size + 1 ≤ w5.heap.size by omega)
        case measure => simp [intOf]; omega
    · have hkK : k = K := by omega
      subst hkK
      rw [Nat.sub_self] at hits
      simp only [itsM, Option.some.injEq, Prod.mk.injEq] at hits
      obtain ⟨rfl, rfl, rfl⟩ := hits
      rw [List.append_nil] at hxs
      subst hxs
      have hit := hO.items (by unfold maxLen; omega)
      obtain ⟨oa, oc, rfl⟩ := hO.len
      have v0 := cells_at hvb 0 _ rfl
      have v1 := cells_at hvb 1 _ rfl
      have v2 := cells_at hvb 2 _ rfl
      have v3 := cells_at hvb 3 _ rfl
      have v4 := cells_at hvb 4 _ rfl
      have r0 := cells_at hrs 0 _ rfl
      have rz0 := frozen_at hrs 0
      have r1 := cells_at hrs 1 _ rfl
      have rz1 := frozen_at hrs 1
      have r2 := cells_at hrs 2 _ rfl
      have rz2 := frozen_at hrs 2
      have r3 := cells_at hrs 3 _ rfl
      have rz3 := frozen_at hrs 3
      have r4 := cells_at hrs 4 _ rfl
      have rz4 := frozen_at hrs 4
      have ne2 : w2.heap.size ≠ w.heap.size := by omega
      have F := hide (And.intro hvb (And.intro hDk (And.intro hrs (And.intro hgr hit))))
      clear hvb hDk hrs hgr hit hO hxk hk hpk hqk HC HB HE2 HXL HO D2 GW RS
      go_wp2
      have g2 := heap_setCell_same _ _ 0 _ _ (.int .i64 uk) F.out.2.2.1
      have g3 := heap_setCell_same _ _ 1 _ _ (.int .i64 ui) g2
      have g4 := heap_setCell_same _ _ 2 _ _ (.int .i64 um) g3
      have g5 := heap_setCell_same _ _ 3 _ _ (.string ut) g4
      have g6 := heap_setCell_same _ _ 4 _ _ (.slice oa XS.length oc) g5
      have nd : db ≠ w.heap.size := by omega
      refine bodyPost_ret (results_cell_row rfl _ _ w.heap.size _ _ _ _ rfl g6 Tryz.underlying26 rfl infoVal5) rfl ?_
      refine ⟨.slice oa XS.length oc, rfl, F.out.2.2.2.2.kept (fun b o hb => ?_) (fun b hb => ⟨by omega, by simpa using hb.2⟩), ?_, ?_⟩
      · have nb : b ≠ w.heap.size := by have := hb.1; omega
        refine World.cell?_of_block ?_
        rw [Below.heap_setCell _ _ _ _ nb, Below.heap_setCell _ _ _ _ nb, Below.heap_setCell _ _ _ _ nb, Below.heap_setCell _ _ _ _ nb, Below.heap_setCell _ _ _ _ nb]
      · unfold DecAt
        rw [Below.heap_setCell _ _ _ _ nd, Below.heap_setCell _ _ _ _ nd, Below.heap_setCell _ _ _ _ nd, Below.heap_setCell _ _ _ _ nd, Below.heap_setCell _ _ _ _ nd]
        exact F.out.2.1
      · exact grown_far (grown_far (grown_far (grown_far (grown_far F.out.2.2.2.1 (Nat.le_refl _)) (Nat.le_refl _)) (Nat.le_refl _)) (Nat.le_refl _)) (Nat.le_refl _)
theorem decv_k (l : List UInt8) : ∀ n, DecC l n
  | 0 => fun _ _ _ _ _ _ _ _ _ _ _ _ _ _ _ h => by simp [decM] at h
  | n + 1 => decv_step (decv_k l n)
end Go.Proofs.YtngnlofjjlkcmaaGreatDoor
