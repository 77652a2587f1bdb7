/- The decoder's value: its walk, where it succeeds. -/
import Derived.Test.YthmhcpghfbifiaaGreatDoorGE3
import Derived.Deep.RegionHeld3
import Derived.Recover
import Derived.Defers
namespace Go.Proofs.YthmhcpghfbifiaaGreatDoor
open Go.RowKit

/-- An append that is run at a step of a region that draws its order. -/
theorem step_runV {P : Program} (w : World) {ops : Array Oper} {o : Oper} {a : Act} {K : Act → World → Prop} {Q : Exit → Act → World → Prop} {E : Prop} (hgd : o.guard = none) (s x : Operand) (t : TypeId)
    (ho : o.op = .call { callee := .builtin .append, args := #[s, x], argTypes := #[t, t] }) (vs vx : Value) (hs : a.eval s = vs) (hx : a.eval x = vx) (v' : Value) (w' : World)
    (hr : (Builtin.append_ #[t, t] o.type #[vs, vx]).run P w = .ok v' w') (h : K (a.put o.dst v') w') :
    if Region.wanted o (yielded ops a.tmps) = true then Oper.wp P o a w K Q else E := by
  have hw : Region.wanted o (yielded ops a.tmps) = true := by simp [Region.wanted, hgd]
  rw [if_pos hw]
  unfold Oper.wp execOp
  simp only [ho, resolve, invoke, builtin, Sem.run_bind, Sem.run_pure, Result.andThen_ok, List.map_toArray, List.map_cons, List.map_nil, hs, hx, hr]
  exact h
theorem OwnAt.lt {w : World} {L n : Nat} {v : Value} {its : List Vl} (h : OwnAt w L n v its) {b : Nat} (e : v.ownBlock = some b) : L ≤ b ∧ b < w.heap.size := by
  obtain ⟨ss, hl, hr, hc⟩ := h
  exact hr.lt b e
theorem OwnAt.len {w : World} {L n : Nat} {v : Value} {its : List Vl} (h : OwnAt w L n v its) : ∃ a c, v = .slice a its.length c := by
  obtain ⟨ss, hl, hr, hc⟩ := h
  rcases hr.2 with ⟨hv, h0⟩ | ⟨g, cap, cur, hv, _⟩
  · exact ⟨none, 0, by rw [hv, h0]⟩
  · exact ⟨_, _, hv⟩
theorem decM_ok {l : List UInt8} {n p q : Nat} {v : Vl} {r : Nat × Nat} (h : decM l n p q = some (v, r)) : v.ok := by
  cases n with
  | zero => simp [decM] at h
  | succ n =>
    simp only [decM] at h
    split at h
    · cases h
    · cases e : headM (seen l p) with
      | none => rw [e] at h; cases h
      | some t =>
        obtain ⟨u, k, t⟩ := t
        rw [e] at h
        simp only at h
        have hsz : (seen l p).length ≤ 139 := by unfold seen; simp; omega
        have ho := (headM_ok e hsz).1
        split at h
        · cases h
        · simp only [Option.some.injEq, Prod.mk.injEq] at h
          obtain ⟨rfl, _⟩ := h
          exact ho
def DecC (l : List UInt8) (n : Nat) : Prop := ∀ (w : World) (db B p q : Nat) (sl : Value) (v : Vl) (p' q' : Nat), DecAt w db sl p q → BytesIn w 0 B sl l → B ≤ db → p ≤ l.length → l.length ≤ 1000000000000 → q ≤ 4096 → decM l n p q = some (v, p', q') →
  Calls Tryz.prog 104 #[.pointer (some ⟨db, 0, none⟩)] w fun e w' => ∃ s', e = .returned (.agg (vcells v s')) ∧ ItemsIn w' (fun b => w.heap.size ≤ b ∧ b < w'.heap.size) n s' v.items ∧ DecAt w' db sl p' q' ∧ w.grownBy w' (some db)
theorem BytesIn.grownV {w w' : World} {B : Nat} {v : Value} {l : List UInt8} {db : Nat} (h : BytesIn w 0 B v l) (hg : w.grownBy w' (some db)) (hB : B ≤ db) (hw : B ≤ w.heap.size) : BytesIn w' 0 B v l :=
  h.mono (fun b o _ hb => World.cell?_of_block (hg.block b (by omega) (by simp; omega))) (Nat.le_refl _) (Nat.le_refl _)
theorem grown_L {w W W' : World} {r : Option Nat} {L : Nat} (h : w.grownBy W r) (b : Below L W W') (h1 : w.heap.size ≤ L) (_h2 : L ≤ W.heap.size) : w.grownBy W' r :=
  ⟨b.os.trans h.os, b.tape.trans h.tape, b.output.trans h.output, Nat.le_trans h.size b.size, fun k hk hne => (b.block k (by omega)).trans (h.block k hk hne)⟩
set_option maxRecDepth 100000 in
set_option maxHeartbeats 4000000 in
theorem decv_step {l : List UInt8} {n : Nat} (hC : DecC l n) : DecC l (n + 1) := by
  intro w db B p q sl v p' q' hD hB hBd hp hl hq hdec
  simp only [decM] at hdec
  split at hdec
  · cases hdec
  rename_i hq1
  cases e : headM (seen l p) with
  | none => rw [e] at hdec; cases hdec
  | some t =>
  obtain ⟨u, K, r⟩ := t
  rw [e] at hdec
  simp only at hdec
  have hsz : (seen l p).length ≤ 139 ∧ (seen l p).length ≤ l.length - p := by unfold seen; simp; omega
  have ho := headM_ok e hsz.1
  cases e2 : itsM (decM l n) K (p + ((seen l p).length - r.length)) (q + 1) with
  | none => rw [e2] at hdec; cases hdec
  | some t =>
  obtain ⟨XS, p2, q2⟩ := t
  rw [e2] at hdec
  simp only [Option.some.injEq, Prod.mk.injEq] at hdec
  obtain ⟨rfl, rfl, rfl⟩ := hdec
  have hK : K ≤ 4096 := by have := itsM_le (l := l) (fun hp h => decM_le l n hp h) K (by omega) (by omega) e2; omega
  have HXL := hide (itsM_le (l := l) (fun hp h => decM_le l n hp h) K (by omega) (by omega) e2).2.2.2
  have hdb : db < w.heap.size := (Array.getElem?_eq_some_iff.1 hD).1
  obtain ⟨W, hW⟩ : ∃ W, w.alloc (.cells zcells 46) = W := ⟨_, rfl⟩
  have bW : Below w.heap.size w W := by rw [← hW]; exact alloc_v (Below.refl _ _) _
  have e1 : W.heap[w.heap.size]? = some (.cells zcells 46 (0, 0)) := by rw [← hW]; exact World.alloc_heap_new w _
  have zW : W.heap.size = w.heap.size + 1 := by rw [← hW]; simp
  have f1 : W.heap[db]? = some (.cells #[sl, .int .i64 p, .int .i64 q] 166 (0, 0)) := (bW.block _ hdb).trans hD
  have x2 := cells_at f1 2 _ rfl
  have z2 := frozen_at f1 2
  have hadd : IntKind.i64.wrap ((q : Int) + 1) = (q : Int) + 1 := by rw [IntKind.wrap_i64]; omega
  have f2 := heap_setCell_same _ _ 2 _ _ (.int .i64 ((q : Int) + 1)) f1
  have D1 : DecAt (W.setCell ⟨db, 2, none⟩ (.int .i64 ((q : Int) + 1))) db sl p (q + 1) := f2
  have g1 : w.grownBy (W.setCell ⟨db, 2, none⟩ (.int .i64 ((q : Int) + 1))) (some db) := grown_more (grown_of_below bW) (grown_set1 _ _ _ _)
  have HH := hide (head_k _ db B sl l p (q + 1) D1 (hB.grownV g1 hBd (by omega)) hBd hp hl e)
  have HE1 := hide ((Below.heap_setCell W ⟨db, 2, none⟩ (.int .i64 ((q : Int) + 1)) w.heap.size (by show w.heap.size ≠ db; omega)).trans e1)
  have HG1 := hide g1
  have HS1 : Hid ((W.setCell ⟨db, 2, none⟩ (.int .i64 ((q : Int) + 1))).heap.size = w.heap.size + 1) := by show _ = _; simpa [World.setCell] using zW
  have HB := hide hB
  have HC := hide hC
  have HE2 := hide e2
  have HO := hide ho
  have hp1 : p + ((seen l p).length - r.length) ≤ l.length := by omega
  generalize p + ((seen l p).length - r.length) = p1 at *
  have hq1' : ¬ (4096 : Int) < (q : Int) + 1 := by omega
  clear e1 f1 f2 D1 g1 hB hC e2 ho e hsz hD
  obtain ⟨uk, ui, um, ut, ul⟩ := u
  go_enter Tryz.func104, Tryz.ntmps104
  go_wp2_with (go_at_call 136; refine HH.out.mono ?_; clear HH; rintro e w2 ⟨rfl, d2, g2⟩; have D2 := hide d2; have G2 := hide g2; clear d2 g2)
  clear hW x2 z2 hadd
  have hS2 : w.heap.size + 1 ≤ w2.heap.size := by have := G2.out.size; have := HS1.out; omega
  have GW := hide (grown_more HG1.out G2.out)
  have RS := hide ((G2.out.block _ (by rw [HS1.out]; omega) (by simp; omega)).trans HE1.out)
  clear HG1 G2 HE1 HS1 bW zW
  go_loopw [24] (fun i wr => ∃ (k : Nat) (xs ys : List Vl) (pk qk : Nat) (o : Value), k ≤ K ∧ i = .int .u64 k ∧ xs.length = k ∧ XS = xs ++ ys ∧ itsM (decM l n) (K - k) pk qk = some (ys, p2, q2) ∧ pk ≤ l.length ∧ qk ≤ 4096 ∧ wr.heap[w2.heap.size]? = some (.cells #[.int .i64 uk, .int .i64 ui, .int .i64 um, .string ut, o] 46 (0, 0)) ∧ OwnAt wr (w2.heap.size + 1) n o xs ∧ DecAt wr db sl pk qk ∧ wr.heap[w.heap.size]? = some (.cells zcells 46 (0, 0)) ∧ w.grownBy wr (some db) ∧ w2.heap.size + 1 ≤ wr.heap.size)
    (fun i _ => K - (intOf i).toNat)
  case atStart =>
    refine ⟨0, [], XS, p1, q + 1, .slice none 0 0, Nat.zero_le _, rfl, rfl, rfl, HE2.out, hp1, by omega, World.alloc_heap_new w2 _, OwnAt.nil _ _ _, (Below.heap_alloc _ _ _ (by omega)).trans D2.out, (Below.heap_alloc _ _ _ (by omega)).trans RS.out, grown_more GW.out (grown_of_below (alloc_v (Below.refl _ _) _)), by simp⟩
  case round =>
    obtain ⟨k, xs, ys, pk, qk, o, hk, rfl, hxk, hxs, hits, hpk, hqk, hvb, hO, hDk, hrs, hgr, hsz⟩ := hrel
    by_cases hlt : k < K
    · obtain ⟨j, hj⟩ : ∃ j, K - k = j + 1 := ⟨K - k - 1, by omega⟩
      rw [hj] at hits
      simp only [itsM] at hits
      cases eg : decM l n pk qk with
      | none => rw [eg] at hits; cases hits
      | some t =>
      obtain ⟨x, p3, q3⟩ := t
      rw [eg] at hits
      simp only at hits
      cases e3 : itsM (decM l n) j p3 q3 with
      | none => rw [e3] at hits; cases hits
      | some t =>
      obtain ⟨zs, p4, q4⟩ := t
      rw [e3] at hits
      simp only [Option.some.injEq, Prod.mk.injEq] at hits
      obtain ⟨rfl, rfl, rfl⟩ := hits
      have hle := decM_le l n hpk eg
      have HX := hide (HC.out wr.drew db B pk qk sl x p3 q3 hDk (HB.out.grownV ⟨hgr.os, hgr.tape, hgr.output, hgr.size, hgr.block⟩ hBd (by omega)) hBd hpk hl hqk eg)
      have hxl : xs.length + 1 ≤ 1000000000 := by omega
      have HP := hide (fun (U : World) (s : Value) (g : wr.grownBy U (some db)) (i : ItemsIn U (fun b => wr.heap.size ≤ b ∧ b < U.heap.size) n s x.items) =>
        OwnAt.pushX (ty := 44) (x := x) (hO.far g.size (fun k h1 h2 => g.block k h2 (by simp; omega))) (by have := g.size; omega) (i.kept (fun _ _ _ => rfl) (fun b hb => ⟨by omega, hb.2, fun eq => by have := (hO.lt eq.symm).2; omega⟩)) (decM_ok eg) hxl)
      have HV := hide (fun (U : World) (g : wr.grownBy U (some db)) => (g.block w2.heap.size (by omega) (by simp; omega)).trans hvb)
      have HRS := hide (fun (U : World) (g : wr.grownBy U (some db)) => (g.block w.heap.size (by omega) (by simp; omega)).trans hrs)
      have c4 := cells_at hvb 4 _ rfl
      have HH := hide (And.intro hgr (And.intro hxs (And.intro hxk (And.intro e3 hle))))
      obtain ⟨oa, oc, rfl⟩ := hO.len
      clear hvb hO hDk hrs hgr hxs e3 eg hle hxl hpk hqk hxk
      go_wp2
      go_region_law
        (first
          | ((go_simp; go_at_call 104; refine HX.out.mono ?_; clear HX; rintro e w4 ⟨s4, rfl, i4, d4, g4'⟩; have g4 : wr.grownBy w4 (some db) := ⟨g4'.os, g4'.tape, g4'.output, g4'.size, g4'.block⟩; obtain ⟨sa4, sc4, rfl, _⟩ := i4.len; obtain ⟨v5, w5, hrun, o5, b5⟩ := HP.out w4 _ g4 i4; obtain ⟨va, vc, rfl⟩ := o5.len; have k4 : w4.cell? ⟨w2.heap.size, 4, none⟩ = some (.slice oa xs.length oc) := cells_at (HV.out w4 g4) 4 _ rfl; have k4a := fun ob : Obj => (World.cell?_alloc_some w4 ⟨w2.heap.size, 4, none⟩ ob (by rw [k4]; rfl)).trans k4; have F4 := hide (HV.out w4 g4); have R4 := hide (HRS.out w4 g4); have HRN := hide hrun; have O5 := hide o5; have B5 := hide b5; have D4 := hide d4; have G4 := hide g4; clear hrun o5 b5 d4 g4 g4' i4 HP))
          | ((refine step_runV _ (by rfl) (.tmp 27) (.tmp 30) 44 (by rfl) _ _ (by rfl) (by rfl) _ w5 HRN.out ?_; have f5 := (B5.out.block w2.heap.size (by omega)).trans F4.out; have k5 := cells_at f5 4 _ rfl; have z5 := frozen_at f5 4; have F5 := hide f5; clear f5 k4 k4a)))
      all_goals
        go_wp2
        go_roundw
        case rel =>
          have hh := HH.out
          have hL5 := B5.out.size
          have hL4 := G4.out.size
          have h1 : w2.heap.size + 1 ≤ w4.heap.size := by omega
          have g5 := grown_L (grown_more hh.1 G4.out) B5.out (by omega) h1
          refine ⟨k + 1, xs ++ [x], zs, p3, q3, .slice va (xs ++ [x]).length vc, by omega, by go_num, by rw [List.length_append, hh.2.2.1]; rfl, by rw [hh.2.1]; simp, ?_, hh.2.2.2.2.1, hh.2.2.2.2.2.2, ?_, ?_, ?_, ?_, grown_far g5 (by omega), ?_⟩
          · rw [show K - (k + 1) = j by omega]
            exact hh.2.2.2.1
          · rw [List.length_append]
            exact heap_setCell_same _ _ 4 _ _ _ F5.out
          · exact O5.out.far (by simp [World.setCell]) (fun k h1 _ => Below.heap_setCell _ _ _ _ (by show k ≠ w2.heap.size; omega))
          · exact (Below.heap_setCell _ _ _ _ (by show db ≠ w2.heap.size; omega)).trans ((B5.out.block db (by omega)).trans D4.out)
          · exact (Below.heap_setCell _ _ _ _ (by show w.heap.size ≠ w2.heap.size; omega)).trans ((B5.out.block w.heap.size (by omega)).trans R4.out)
          · simp only [World.setCell]
            simpa using (show w2.heap.size + 1 ≤ w5.heap.size by omega)
        case measure => simp [intOf]; omega
    · have hkK : k = K := by omega
      subst hkK
      rw [Nat.sub_self] at hits
      simp only [itsM, Option.some.injEq, Prod.mk.injEq] at hits
      obtain ⟨rfl, rfl, rfl⟩ := hits
      rw [List.append_nil] at hxs
      subst hxs
      have hit := hO.items (by unfold maxLen; omega)
      obtain ⟨oa, oc, rfl⟩ := hO.len
      have v0 := cells_at hvb 0 _ rfl
      have v1 := cells_at hvb 1 _ rfl
      have v2 := cells_at hvb 2 _ rfl
      have v3 := cells_at hvb 3 _ rfl
      have v4 := cells_at hvb 4 _ rfl
      have r0 := cells_at hrs 0 _ rfl
      have rz0 := frozen_at hrs 0
      have r1 := cells_at hrs 1 _ rfl
      have rz1 := frozen_at hrs 1
      have r2 := cells_at hrs 2 _ rfl
      have rz2 := frozen_at hrs 2
      have r3 := cells_at hrs 3 _ rfl
      have rz3 := frozen_at hrs 3
      have r4 := cells_at hrs 4 _ rfl
      have rz4 := frozen_at hrs 4
      have ne2 : w2.heap.size ≠ w.heap.size := by omega
      have F := hide (And.intro hvb (And.intro hDk (And.intro hrs (And.intro hgr hit))))
      clear hvb hDk hrs hgr hit hO hxk hk hpk hqk HC HB HE2 HXL HO D2 GW RS
      go_wp2
      have g2 := heap_setCell_same _ _ 0 _ _ (.int .i64 uk) F.out.2.2.1
      have g3 := heap_setCell_same _ _ 1 _ _ (.int .i64 ui) g2
      have g4 := heap_setCell_same _ _ 2 _ _ (.int .i64 um) g3
      have g5 := heap_setCell_same _ _ 3 _ _ (.string ut) g4
      have g6 := heap_setCell_same _ _ 4 _ _ (.slice oa XS.length oc) g5
      have nd : db ≠ w.heap.size := by omega
      refine bodyPost_ret (results_cell_row rfl _ _ w.heap.size _ _ _ _ rfl g6 Tryz.underlying46 rfl infoVal5) rfl ?_
      refine ⟨.slice oa XS.length oc, rfl, F.out.2.2.2.2.kept (fun b o hb => ?_) (fun b hb => ⟨by omega, by simpa using hb.2⟩), ?_, ?_⟩
      · have nb : b ≠ w.heap.size := by have := hb.1; omega
        refine World.cell?_of_block ?_
        rw [Below.heap_setCell _ _ _ _ nb, Below.heap_setCell _ _ _ _ nb, Below.heap_setCell _ _ _ _ nb, Below.heap_setCell _ _ _ _ nb, Below.heap_setCell _ _ _ _ nb]
      · unfold DecAt
        rw [Below.heap_setCell _ _ _ _ nd, Below.heap_setCell _ _ _ _ nd, Below.heap_setCell _ _ _ _ nd, Below.heap_setCell _ _ _ _ nd, Below.heap_setCell _ _ _ _ nd]
        exact F.out.2.1
      · exact grown_far (grown_far (grown_far (grown_far (grown_far F.out.2.2.2.1 (Nat.le_refl _)) (Nat.le_refl _)) (Nat.le_refl _)) (Nat.le_refl _)) (Nat.le_refl _)
theorem decv_k (l : List UInt8) : ∀ n, DecC l n
  | 0 => fun _ _ _ _ _ _ _ _ _ _ _ _ _ _ _ h => by simp [decM] at h
  | n + 1 => decv_step (decv_k l n)
end Go.Proofs.YthmhcpghfbifiaaGreatDoor

/- Decode, where it succeeds. -/
namespace Go.Proofs.YthmhcpghfbifiaaGreatDoor
open Go.RowKit

set_option maxRecDepth 100000 in
theorem decIdle (p0 p1 p2 : Addr) (w : World) :
    CallsD Tryz.prog 103 #[.pointer (some p0), .pointer (some p1), .pointer (some p2)] .returning w fun e u' w' => e = .returned (.tuple #[]) ∧ u' = .returning ∧ w' = w := by
  refine callsD_of_wpS Tryz.func103 rfl fun c₀ cs hu => ?_
  apply wpS_seq
  apply wpS_region
  simp [wpOpsS, go_sem, recoverD, hu, Tryz.ntmps103, Exit.thenS]
  refine wpS_of_wp ?_
  go_wp2
  cases c₀
  simp_all [bodyPostS, results, Tryz.results103]
theorem results3 {P : Program} {fn : Func} {p0 p1 p2 : Tmp} {t0 t1 t2 : TypeId} (h : fn.results = #[.cell p0 t0, .cell p1 t1, .cell p2 t2]) (tmps : Array Value) (w : World) (a0 a1 a2 : Addr) (v0 v1 v2 : Value)
    (hp0 : tmps.getD p0 undef = .pointer (some a0)) (hp1 : tmps.getD p1 undef = .pointer (some a1)) (hp2 : tmps.getD p2 undef = .pointer (some a2))
    (h0 : (loadVar t0 a0).run P w = .ok v0 w) (h1 : (loadVar t1 a1).run P w = .ok v1 w) (h2 : (loadVar t2 a2).run P w = .ok v2 w) : (results fn tmps).run P w = .ok (.tuple #[v0, v1, v2]) w := by
  have q0 : tmps[p0]?.getD undef = .pointer (some a0) := by simpa using hp0
  have q1 : tmps[p1]?.getD undef = .pointer (some a1) := by simpa using hp1
  have q2 : tmps[p2]?.getD undef = .pointer (some a2) := by simpa using hp2
  simp [results, h, q0, q1, q2, asAddr, h0, h1, h2]
theorem load_int {w : World} {g : Nat} {x : Value} (h : w.heap[g]? = some (.cells #[x] 3 (0, 0))) : (loadVar 3 ⟨g, 0, none⟩).run Tryz.prog w = .ok x w := by
  have c := cells_at h 0 _ rfl
  simp [go_sem, c]
theorem load_errno {w : World} {g : Nat} {x : Value} (h : w.heap[g]? = some (.cells #[x] 24 (0, 0))) : (loadVar 24 ⟨g, 0, none⟩).run Tryz.prog w = .ok x w := by
  have c := cells_at h 0 _ rfl
  simp [go_sem, c]
theorem load_val {w : World} {g : Nat} {cs : Array Value} (hc : cs.size = 5) (h : w.heap[g]? = some (.cells cs 46 (0, 0))) : (loadVar 46 ⟨g, 0, none⟩).run Tryz.prog w = .ok (.agg cs) w :=
  run_loadVar_row w g _ _ cs _ _ h Tryz.underlying46 rfl (by rw [infoVal5, hc])
theorem below_of_grown {w W : World} {b : Nat} (h : w.grownBy W (some b)) (hb : w.heap.size ≤ b) : Below w.heap.size w W := ⟨h.os, h.tape, h.output, h.size, fun k hk => h.block k hk (by simp; omega)⟩
theorem stored_cell2 (W : World) (b b' o : Nat) (v0 v1 v2 v3 v4 : Value) (h : b' ≠ b) :
    (((((W.setCell ⟨b, 0, none⟩ v0).setCell ⟨b, 1, none⟩ v1).setCell ⟨b, 2, none⟩ v2).setCell ⟨b, 3, none⟩ v3).setCell ⟨b, 4, none⟩ v4).cell? ⟨b', o, none⟩ = W.cell? ⟨b', o, none⟩ := by
  refine World.cell?_of_block ?_
  rw [Below.heap_setCell _ _ _ _ h, Below.heap_setCell _ _ _ _ h, Below.heap_setCell _ _ _ _ h, Below.heap_setCell _ _ _ _ h, Below.heap_setCell _ _ _ _ h]
theorem stored_block (W : World) (b k : Nat) (v0 v1 v2 v3 v4 : Value) (h : k ≠ b) :
    (((((W.setCell ⟨b, 0, none⟩ v0).setCell ⟨b, 1, none⟩ v1).setCell ⟨b, 2, none⟩ v2).setCell ⟨b, 3, none⟩ v3).setCell ⟨b, 4, none⟩ v4).heap[k]? = W.heap[k]? := by
  rw [Below.heap_setCell _ _ _ _ h, Below.heap_setCell _ _ _ _ h, Below.heap_setCell _ _ _ _ h, Below.heap_setCell _ _ _ _ h, Below.heap_setCell _ _ _ _ h]
theorem dec_end (w0 W : World) (k i m p : Int) (t : ByteArray) (sl : Value) (c : Array Value) (hc : c.size = 5) (b : Nat) (hb : w0.heap.size ≤ b) (bW : Below w0.heap.size w0 W) (f0 : W.heap[b]? = some (.cells c 46 (0, 0))) (x1 x2 : Value) (f1 : W.heap[b + 1]? = some (.cells #[x1] 3 (0, 0))) (f2 : W.heap[b + 1 + 1]? = some (.cells #[x2] 24 (0, 0))) :
    ((((((((W.setCell ⟨b, 0, none⟩ (.int .i64 k)).setCell ⟨b, 1, none⟩ (.int .i64 i)).setCell ⟨b, 2, none⟩ (.int .i64 m)).setCell ⟨b, 3, none⟩ (.string t)).setCell ⟨b, 4, none⟩ sl).setCell ⟨b + 1, 0, none⟩ (.int .i64 p)).setCell ⟨b + 1 + 1, 0, none⟩ (.int .i64 0))).heap[b]? = some (.cells #[.int .i64 k, .int .i64 i, .int .i64 m, .string t, sl] 46 (0, 0)) ∧ ((((((((W.setCell ⟨b, 0, none⟩ (.int .i64 k)).setCell ⟨b, 1, none⟩ (.int .i64 i)).setCell ⟨b, 2, none⟩ (.int .i64 m)).setCell ⟨b, 3, none⟩ (.string t)).setCell ⟨b, 4, none⟩ sl).setCell ⟨b + 1, 0, none⟩ (.int .i64 p)).setCell ⟨b + 1 + 1, 0, none⟩ (.int .i64 0))).heap[b + 1]? = some (.cells #[.int .i64 p] 3 (0, 0)) ∧ ((((((((W.setCell ⟨b, 0, none⟩ (.int .i64 k)).setCell ⟨b, 1, none⟩ (.int .i64 i)).setCell ⟨b, 2, none⟩ (.int .i64 m)).setCell ⟨b, 3, none⟩ (.string t)).setCell ⟨b, 4, none⟩ sl).setCell ⟨b + 1, 0, none⟩ (.int .i64 p)).setCell ⟨b + 1 + 1, 0, none⟩ (.int .i64 0))).heap[b + 1 + 1]? = some (.cells #[.int .i64 0] 24 (0, 0)) ∧ Below w0.heap.size w0 ((((((((W.setCell ⟨b, 0, none⟩ (.int .i64 k)).setCell ⟨b, 1, none⟩ (.int .i64 i)).setCell ⟨b, 2, none⟩ (.int .i64 m)).setCell ⟨b, 3, none⟩ (.string t)).setCell ⟨b, 4, none⟩ sl).setCell ⟨b + 1, 0, none⟩ (.int .i64 p)).setCell ⟨b + 1 + 1, 0, none⟩ (.int .i64 0))) ∧ (∀ j o, b + 1 + 1 < j → ((((((((W.setCell ⟨b, 0, none⟩ (.int .i64 k)).setCell ⟨b, 1, none⟩ (.int .i64 i)).setCell ⟨b, 2, none⟩ (.int .i64 m)).setCell ⟨b, 3, none⟩ (.string t)).setCell ⟨b, 4, none⟩ sl).setCell ⟨b + 1, 0, none⟩ (.int .i64 p)).setCell ⟨b + 1 + 1, 0, none⟩ (.int .i64 0))).cell? ⟨j, o, none⟩ = W.cell? ⟨j, o, none⟩) ∧ W.heap.size ≤ ((((((((W.setCell ⟨b, 0, none⟩ (.int .i64 k)).setCell ⟨b, 1, none⟩ (.int .i64 i)).setCell ⟨b, 2, none⟩ (.int .i64 m)).setCell ⟨b, 3, none⟩ (.string t)).setCell ⟨b, 4, none⟩ sl).setCell ⟨b + 1, 0, none⟩ (.int .i64 p)).setCell ⟨b + 1 + 1, 0, none⟩ (.int .i64 0))).heap.size := by
  have st := stored w0 W k i m t sl c b hb bW hc f0
  have h1 := heap_setCell_same _ _ 0 _ _ (.int .i64 p) ((stored_block W b (b + 1) (.int .i64 k) (.int .i64 i) (.int .i64 m) (.string t) sl (by omega)).trans f1)
  have h2 := (stored_block W b (b + 1 + 1) (.int .i64 k) (.int .i64 i) (.int .i64 m) (.string t) sl (by omega)).trans f2
  have n1 : b + 1 + 1 ≠ b + 1 := by omega
  have n2 : b + 1 ≠ b + 1 + 1 := by omega
  have n3 : b ≠ b + 1 := by omega
  have n4 : b ≠ b + 1 + 1 := by omega
  refine ⟨?_, ?_, ?_, (st.2.setCell (by show w0.heap.size ≤ b + 1; omega) _).setCell (by show w0.heap.size ≤ b + 1 + 1; omega) _, fun j o hj => ?_, by simp [World.setCell]⟩
  · rw [Below.heap_setCell _ _ _ _ n4, Below.heap_setCell _ _ _ _ n3]
    exact st.1
  · rw [Below.heap_setCell _ _ _ _ n2]
    exact h1
  · exact heap_setCell_same _ _ 0 _ _ (.int .i64 0) ((Below.heap_setCell _ _ _ _ n1).trans h2)
  · refine World.cell?_of_block ?_
    rw [Below.heap_setCell _ _ _ _ (by show j ≠ b + 1 + 1; omega), Below.heap_setCell _ _ _ _ (by show j ≠ b + 1; omega)]
    exact stored_block W b j _ _ _ _ _ (by omega)
set_option maxRecDepth 100000 in
set_option maxHeartbeats 2000000 in
theorem decode_ok (n : Nat) (w : World) (sl : Value) (l : List UInt8) (v : Vl) (p' q' : Nat) (hT : Tabs w) (hB : BytesIn w 0 w.heap.size sl l) (hl : l.length ≤ 1000000000000) (hd : decM l n 0 0 = some (v, p', q')) (hr : rightV v = true) :
    Calls Tryz.prog 79 #[sl] w fun e w' => ∃ s', e = .returned (.tuple #[.agg (vcells v s'), .int .i64 p', .int .i64 0]) ∧ ItemsIn w' (fun b => w.heap.size ≤ b ∧ b < w'.heap.size) n s' v.items ∧ Below w.heap.size w w' := by
  have hmf : ∀ (fn : Fn) (first cap : Array Value) (w : World), (Instr.makeFunc fn first cap).run Tryz.prog w = .ok (.func fn first cap) w := fun _ _ _ _ => rfl
  obtain ⟨W, hW⟩ : ∃ W, ((w.alloc (.cells zcells 46)).alloc (.cells #[.int .i64 0] 3)).alloc (.cells #[.int .i64 0] 24) = W := ⟨_, rfl⟩
  have zW : W.heap.size = w.heap.size + 3 := by rw [← hW]; simp
  have bW : Below w.heap.size w W := by rw [← hW]; exact alloc_v (alloc_v (alloc_v (Below.refl _ _) _) _) _
  have e0 : W.heap[w.heap.size]? = some (.cells zcells 46 (0, 0)) := by rw [← hW]; exact (Below.heap_alloc _ _ _ (by simp only [World.size_alloc]; omega)).trans ((Below.heap_alloc _ _ _ (by simp only [World.size_alloc]; omega)).trans (World.alloc_heap_new w _))
  have e1 : W.heap[w.heap.size + 1]? = some (.cells #[.int .i64 0] 3 (0, 0)) := by
    rw [← hW]
    refine (Below.heap_alloc _ _ _ (by simp only [World.size_alloc]; omega)).trans ?_
    have := World.alloc_heap_new (w.alloc (.cells zcells 46)) (.cells #[.int .i64 0] 3)
    rwa [World.size_alloc] at this
  have e2 : W.heap[w.heap.size + 2]? = some (.cells #[.int .i64 0] 24 (0, 0)) := by
    rw [← hW]
    have := World.alloc_heap_new ((w.alloc (.cells zcells 46)).alloc (.cells #[.int .i64 0] 3)) (.cells #[.int .i64 0] 24)
    rwa [World.size_alloc, World.size_alloc] at this
  obtain ⟨a, c, rfl, _⟩ := id hB
  have hvt := (decM_ok hd).1
  obtain ⟨vk, vi, vm, vt, vl⟩ := v
  have hV := decv_k l n (W.alloc (.cells #[.slice a l.length c, .int .i64 0, .int .i64 0] 166)) (w.heap.size + 3) w.heap.size 0 0 (.slice a l.length c) ⟨vk, vi, vm, vt, vl⟩ p' q' (by rw [← zW]; exact World.alloc_heap_new W _) (hB.mono (fun b o _ hb => (alloc_v bW _).cell (p := ⟨b, o, none⟩) hb) (Nat.le_refl _) (Nat.le_refl _)) (by omega) (Nat.zero_le _) hl (by omega) hd
  have HV := hide hV
  have HT := hide (fun (U : World) (b : Below w.heap.size w U) => hT.below b)
  have HR := hide hr
  have HE := hide (And.intro e0 (And.intro e1 e2))
  clear hV hT hr e0 e1 e2 hd hB
  go_enter_defers Tryz.func79, Tryz.ntmps79
  go_wp2_with (first
    | (go_at_call 104; refine HV.out.mono ?_; clear HV; rintro e w2 ⟨s2, rfl, i2, d2, g2⟩; obtain ⟨sa, sc, rfl, _⟩ := i2.len; have bw2 := below_of_grown (grown_more (grown_of_below (alloc_v bW _)) g2) (show w.heap.size ≤ w.heap.size + 3 by omega); have f0 := (g2.block w.heap.size (by rw [World.size_alloc]; omega) (by simp)).trans ((Below.heap_alloc _ _ _ (by omega)).trans HE.out.1); have g := stored w w2 vk vi vm vt (.slice sa vl.length sc) zcells w.heap.size (Nat.le_refl _) bw2 rfl f0; have r0 := cells_at f0 0 _ rfl; have rz0 := frozen_at f0 0; have r1 := cells_at f0 1 _ rfl; have rz1 := frozen_at f0 1; have r2 := cells_at f0 2 _ rfl; have rz2 := frozen_at f0 2; have r3 := cells_at f0 3 _ rfl; have rz3 := frozen_at f0 3; have r4 := cells_at f0 4 _ rfl; have rz4 := frozen_at f0 4; have HRX := hide (right_k ⟨vk, vi, vm, vt, vl⟩ _ n (.slice sa vl.length sc) (HT.out _ g.2) hvt ((i2.kept (S' := fun b => b < (((((w2.setCell ⟨w.heap.size, 0, none⟩ (.int .i64 vk)).setCell ⟨w.heap.size, 1, none⟩ (.int .i64 vi)).setCell ⟨w.heap.size, 2, none⟩ (.int .i64 vm)).setCell ⟨w.heap.size, 3, none⟩ (.string vt)).setCell ⟨w.heap.size, 4, none⟩ (.slice sa vl.length sc)).heap.size) (fun b o hb => stored_cell2 _ _ _ _ _ _ _ _ _ (by have := hb.1; rw [World.size_alloc] at this; omega)) (fun b hb => by simpa using hb.2)).at (fun b hb => hb))); rw [HR.out] at HRX; have I2 := hide i2; have D2 := hide d2; have G2 := hide g2; have GG := hide g; have BW2 := hide bw2; clear i2 d2 g2 g bw2 f0)
    | (go_at_call 26; refine HRX.out.mono ?_; clear HRX; rintro e w3 ⟨rfl, b3⟩; have B3 := hide b3; clear b3))
  have hs2 := G2.out.size
  rw [World.size_alloc, zW] at hs2
  have hs3 := B3.out.size
  have hsX : w2.heap.size = (((((w2.setCell ⟨w.heap.size, 0, none⟩ (.int .i64 vk)).setCell ⟨w.heap.size, 1, none⟩ (.int .i64 vi)).setCell ⟨w.heap.size, 2, none⟩ (.int .i64 vm)).setCell ⟨w.heap.size, 3, none⟩ (.string vt)).setCell ⟨w.heap.size, 4, none⟩ (.slice sa vl.length sc)).heap.size := by simp [World.setCell]
  rw [← hsX] at hs3
  have f0 := (B3.out.block w.heap.size (by rw [← hsX]; omega)).trans GG.out.1
  have f1 := (B3.out.block (w.heap.size + 1) (by rw [← hsX]; omega)).trans ((stored_block _ _ _ _ _ _ _ _ (by omega)).trans ((G2.out.block (w.heap.size + 1) (by rw [World.size_alloc]; omega) (by simp)).trans ((Below.heap_alloc _ _ _ (by omega)).trans HE.out.2.1)))
  have f2 := (B3.out.block (w.heap.size + 2) (by rw [← hsX]; omega)).trans ((stored_block _ _ _ _ _ _ _ _ (by omega)).trans ((G2.out.block (w.heap.size + 2) (by rw [World.size_alloc]; omega) (by simp)).trans ((Below.heap_alloc _ _ _ (by omega)).trans HE.out.2.2)))
  have fd := (B3.out.block (w.heap.size + 3) (by rw [← hsX]; omega)).trans ((stored_block _ _ _ _ _ _ _ _ (by omega)).trans D2.out)
  have s0 := cells_at f0 0 _ rfl
  have sz0 := frozen_at f0 0
  have s1 := cells_at f0 1 _ rfl
  have sz1 := frozen_at f0 1
  have s2 := cells_at f0 2 _ rfl
  have sz2 := frozen_at f0 2
  have s3 := cells_at f0 3 _ rfl
  have sz3 := frozen_at f0 3
  have s4 := cells_at f0 4 _ rfl
  have sz4 := frozen_at f0 4
  have t0 := cells_at f1 0 _ rfl
  have tz0 := frozen_at f1 0
  have u0 := cells_at f2 0 _ rfl
  have uz0 := frozen_at f2 0
  have d1 := cells_at fd 1 _ rfl
  have dz1 := frozen_at fd 1
  have FF := hide (And.intro f0 (And.intro f1 (And.intro f2 fd)))
  clear f0 f1 f2 fd hs2 hs3 hsX r0 r1 r2 r3 r4 rz0 rz1 rz2 rz3 rz4 hmf hW
  go_region
  go_wp2
  refine leaves_cons (f := 103) (args := #[.pointer (some ⟨w.heap.size, 0, none⟩), .pointer (some ⟨w.heap.size + 1, 0, none⟩), .pointer (some ⟨w.heap.size + 1 + 1, 0, none⟩)]) (by simp) (by simp [go_sem]) ?_
  refine (decIdle _ _ _ _).mono ?_
  rintro e u' w4 ⟨rfl, rfl, rfl⟩
  obtain ⟨f0, f1, f2, fd⟩ := FF.out
  have E := dec_end w w3 vk vi vm p' vt (.slice sa vl.length sc) _ rfl w.heap.size (Nat.le_refl _) (trans_v GG.out.2 B3.out) f0 _ _ f1 f2
  generalize (((((((w3.setCell ⟨w.heap.size, 0, none⟩ (.int .i64 vk)).setCell ⟨w.heap.size, 1, none⟩ (.int .i64 vi)).setCell ⟨w.heap.size, 2, none⟩ (.int .i64 vm)).setCell ⟨w.heap.size, 3, none⟩ (.string vt)).setCell ⟨w.heap.size, 4, none⟩ (.slice sa vl.length sc)).setCell ⟨w.heap.size + 1, 0, none⟩ (.int .i64 p')).setCell ⟨w.heap.size + 1 + 1, 0, none⟩ (.int .i64 0)) = Y at E ⊢
  have EY : ∀ j : Nat, Y.drew.heap[j]? = Y.heap[j]? := fun _ => rfl
  have EC : ∀ b o : Nat, Y.drew.cell? ⟨b, o, none⟩ = Y.cell? ⟨b, o, none⟩ := fun _ _ => rfl
  have ES : Y.drew.heap.size = Y.heap.size := rfl
  refine ⟨_, results3 (t0 := 46) (t1 := 3) (t2 := 24) rfl _ _ ⟨w.heap.size, 0, none⟩ ⟨w.heap.size + 1, 0, none⟩ ⟨w.heap.size + 1 + 1, 0, none⟩ (.agg #[.int .i64 vk, .int .i64 vi, .int .i64 vm, .string vt, .slice sa vl.length sc]) (.int .i64 p') (.int .i64 0) rfl rfl rfl (load_val rfl ?_) (load_int ?_) (load_errno ?_), .slice sa vl.length sc, rfl, ?_, ?_⟩
  · rw [EY]; exact E.1
  · rw [EY]; exact E.2.1
  · rw [EY]; exact E.2.2.1
  rotate_left
  · exact ⟨E.2.2.2.1.os, E.2.2.2.1.tape, E.2.2.2.1.output, E.2.2.2.1.size, E.2.2.2.1.block⟩
  refine I2.out.kept (fun b o hb => ?_) (fun b hb => ⟨?_, ?_⟩)
  · have hb1 := hb.1
    rw [World.size_alloc, zW] at hb1
    rw [EC]
    refine (E.2.2.2.2.1 b o (by omega)).trans (((bcellV B3.out).1 b o ?_).trans (stored_cell2 _ _ _ _ _ _ _ _ _ (by omega)))
    simpa [World.setCell] using hb.2
  · have hb1 := hb.1
    rw [World.size_alloc] at hb1
    omega
  · have h1 := hb.2
    have h2 := B3.out.size
    have h3 : w2.heap.size ≤ w3.heap.size := by simpa [World.setCell] using h2
    rw [ES]
    exact Nat.lt_of_lt_of_le h1 (Nat.le_trans h3 E.2.2.2.2.2)
end Go.Proofs.YthmhcpghfbifiaaGreatDoor
