/- HistoryTells answers true: the walk. -/
import Derived.Test.YtnmkggoampkekaaGreatDoorGHTlC
import Derived.Test.YtnmkggoampkekaaGreatDoorGHHd
import Derived.Test.YtnmkggoampkekaaGreatDoorZHLaidL
import Derived.Test.YtnmkggoampkekaaGreatDoorGHOpG
import Derived.ChangeMaps5
namespace Go.Proofs.YtnmkggoampkekaaGreatDoor
open Go.RowKit Go.Maps

theorem PrAt.get {w : World} {L : Nat} {I : Nat → Prop} {v : Value} {rs : List (Value × List Nat)} (h : PrAt w L I v rs) {m k : Nat} (hm : rs.length = m) (hk : k < m) : ∃ g cap, v = .slice (some ⟨g, 0, none⟩) m cap ∧ w.cell? ⟨g, k, none⟩ = some (rs[k]'(by omega)).1 ∧ g < w.heap.size := by
  have hr := h.row
  rw [hm] at hr
  obtain ⟨a, c, e⟩ := rowLen hr
  obtain ⟨g, cap, rfl, _⟩ := row_is hr (by
    intro e'
    rw [e'] at e
    simp at e
    omega)
  refine ⟨g, cap, rfl, (hr.cellAt k (by rw [Nat.mul_one]; exact hk)).trans ?_, (hr.lt g rfl).2⟩
  rw [List.getElem?_map, List.getElem?_eq_getElem (by omega)]
  rfl
theorem natsH_get (l : List Nat) (k : Nat) (h : k < l.length) : (natsH l)[k]? = some (.int .i64 (l[k] : Int)) := by
  unfold natsH
  rw [List.getElem?_map, List.getElem?_eq_getElem h]
  rfl
theorem rowI_get {w : World} {L : Nat} {v : Value} {qs : List Nat} (hr : w.ownsRow L 3 1 v qs.length (natsH qs)) {k : Nat} (hk : k < qs.length) : ∃ g cap, v = .slice (some ⟨g, 0, none⟩) qs.length cap ∧ w.cell? ⟨g, k, none⟩ = some (.int .i64 (qs[k] : Int)) ∧ g < w.heap.size := by
  obtain ⟨a, c, e⟩ := rowLen hr
  obtain ⟨g, cap, rfl, _⟩ := row_is hr (by
    intro e'
    rw [e'] at e
    simp at e
    rw [← e.2.1] at hk
    simp at hk)
  exact ⟨g, cap, rfl, (hr.cellAt k (by rw [Nat.mul_one]; exact hk)).trans (natsH_get qs k hk), (hr.lt g rfl).2⟩
set_option maxRecDepth 100000 in
set_option maxHeartbeats 16000000 in
theorem historyTells_walk (P O : List (List UInt8)) (cs : List HV) (a b t : Int) (w : World) (n : Nat) (v0 v1 v2 : Value) (hT : TabL w) (h : HPast w w.heap.size (n + 1) v0 v1 v2 P O cs) (hcs : cs.length ≤ 100000000) :
    Calls Tryz.prog 3 #[.agg #[v0, v1, v2], .int .i64 a, .int .i64 b, .int .i64 t] w fun e w' => e = .returned (.bool true) ∧ Below w.heap.size w w' := by
  obtain ⟨c, m, cO, qs, wd, ⟨hm, hqs⟩, hmc, hB⟩ := tells_both n v0 v1 v2 P O cs hcs t
  obtain ⟨a0, c0, rfl, hl0⟩ := h.pr.len
  obtain ⟨a1, c1, rfl, hl1⟩ := h.ob.len
  obtain ⟨a2, c2, rfl, hl2⟩ := h.cl.len
  obtain ⟨W, hW⟩ : ∃ W, w.alloc (.cells #[.slice a0 P.length c0, .slice a1 O.length c1, .slice a2 cs.length c2] 25) = W := ⟨_, rfl⟩
  have bW : Below w.heap.size w W := by rw [← hW]; exact alloc_v (Below.refl _ _) _
  have e1 : W.heap[w.heap.size]? = some (.cells #[.slice a0 P.length c0, .slice a1 O.length c1, .slice a2 cs.length c2] 25 (0, 0)) := by rw [← hW]; exact World.alloc_heap_new w _
  have zW : W.heap.size = w.heap.size + 1 := by rw [← hW]; simp
  have HB := hide (fun (U : World) (b : Below w.heap.size w U) => hB U (hT.below b) ((h.below b).up b.size))
  have HBL := hide (fun (U : World) (b : Below W.heap.size W U) => (b.block w.heap.size (by omega)).trans e1)
  have HPR := hide (HB.out W bW).pr
  have HBF := hide (fun (U : World) (b' : Below w.heap.size w U) => beforeA_k U (n + 1) _ _ _ P O cs ((h.below b').up b'.size) a b)
  have HRBF := hide (fun (U : World) (b' : Below w.heap.size w U) => refBefore_k U (n + 1) _ _ _ P O cs ((h.below b').up b'.size) a b)
  have HHD := hide (fun (U : World) (b : Below w.heap.size w U) => heads7_k U (hT.below b))
  have HMC := hide hmc
  have HM := hide hm
  have HQS := hide hqs
  have x0 := cells_at e1 0 _ rfl
  have x1 := cells_at e1 1 _ rfl
  have x2 := cells_at e1 2 _ rfl
  clear hT h hB zW e1 hmc
  go_enter Tryz.func3, Tryz.ntmps3
  go_upto_region 2 with (go_at_call 4; refine HPR.out.mono ?_; clear HPR; rintro r w2 ⟨⟨va, rfl, rs1, I1, L1, q1, q2, q3⟩, b2⟩; have B2 := hide b2; have q1r := q1.row; rw [q2] at q1r; obtain ⟨la, lc, rfl⟩ := rowLen q1r; have Q1 := hide (And.intro q1 (And.intro q2 q3)); clear b2 q1 q2 q3 q1r)
  clear x0 x1 x2
  have x0 := cells_at (HBL.out w2 B2.out) 0 _ rfl
  have x1 := cells_at (HBL.out w2 B2.out) 1 _ rfl
  have x2 := cells_at (HBL.out w2 B2.out) 2 _ rfl
  have HRP := hide (HB.out w2 (trans_v bW B2.out)).rpr
  go_upto_region 3 with (go_at_call 5; refine HRP.out.mono ?_; clear HRP; rintro r w3 ⟨⟨vb, rfl, rs2, I2, L2, q1, q2, q3⟩, b3⟩; have B3 := hide b3; have q1r := q1.row; rw [q2] at q1r; obtain ⟨ma, mc, rfl⟩ := rowLen q1r; have Q2 := hide (And.intro q1 (And.intro q2 q3)); clear b3 q1 q2 q3 q1r)
  clear x0 x1 x2
  have BW3 := hide (trans_v B2.out B3.out)
  have up := fun q : Wv w3 => trans_v (trans_v bW BW3.out) q.below
  have x0 := fun q : Wv w3 => q.cell (cells_at (HBL.out w3 BW3.out) 0 _ rfl)
  have x1 := fun q : Wv w3 => q.cell (cells_at (HBL.out w3 BW3.out) 1 _ rfl)
  have x2 := fun q : Wv w3 => q.cell (cells_at (HBL.out w3 BW3.out) 2 _ rfl)
  have HBF3 := hide (fun q : Wv w3 => Wv.calls q (HBF.out q.val (up q)))
  have HRBF3 := hide (fun q : Wv w3 => Wv.calls q (HRBF.out q.val (up q)))
  have HHD3 := hide (fun q : Wv w3 => Wv.calls q (HHD.out q.val (up q)))
  generalize befAt cs a b = bf at *
  have hany := Wv.any w3
  clear up HBF HRBF HHD
  refine wp_region_grown (by kernel_rfl) (by kernel_rfl) ?_
  repeat (go_big_quiet_step (first
    | (go_at_call 6; with_reducible exact (HBF3.out _))
    | (go_at_call 7; with_reducible exact (HRBF3.out _))
    | (go_at_call 8; with_reducible exact (HHD3.out _))))
  refine wpQuiet_nil ?_
  intro w4 hw'
  obtain ⟨q, hq⟩ := hw'
  have B4 := hide (show Below w3.heap.size w3 w4 from by first | (rw [hq]; exact q.below) | (rw [← hq]; exact q.below))
  clear hq q x0 x1 x2 hany HBF3 HRBF3 HHD3
  go_wp2
  go_loopw [13] (fun i wr => ∃ k : Nat, k ≤ m ∧ i = .int .i64 k ∧ Below w4.heap.size w4 wr) (fun i _ => m - (intOf i).toNat)
  case atStart => exact ⟨0, Nat.zero_le _, rfl, Below.refl _ _⟩
  case round =>
    obtain ⟨k, hk, rfl, hbel⟩ := hrel
    by_cases hlt : k < m
    · have h1 := (Q1.out.1.below (trans_v B3.out (trans_v B4.out hbel)))
      have h2 := (Q2.out.1.below (trans_v B4.out hbel))
      have l1 := Q1.out.2.1
      have l2 := Q2.out.2.1
      obtain ⟨g1, d1, e1, p1, n1⟩ := h1.get l1 hlt
      obtain ⟨g2, d2, e2, p2, n2⟩ := h2.get l2 hlt
      cases e1
      cases e2
      have hkc : k < cs.length := by rcases HMC.out with e | e <;> omega
      have hk1 : k < rs1.length := by omega
      have hk2 : k < rs2.length := by omega
      have hww : rs1[k].2 = rs2[k].2 := (Q1.out.2.2 k hk1 hkc).eq (Q2.out.2.2 k hk2 hkc)
      have wa := h1.its _ (List.getElem_mem hk1)
      have wb := h2.its _ (List.getElem_mem hk2)
      rw [← hww] at wb
      have hwl : rs1[k].2.length ≤ 1000000000 := by
        rw [(Q1.out.2.2 k hk1 hkc).len, bsAt_len]
        omega
      have HW := hide (fun q : Wv wr => Wv.calls q (words7_yes q.val I1 I2 _ _ _ (wa.keep (fun b hb => q.below.block b (h1.no b hb).1) (fun _ h => h)) (wb.keep (fun b hb => q.below.block b (h2.no b hb).1) (fun _ h => h)) hwl (fun b hb => Nat.lt_of_lt_of_le (h1.no b hb).1 q.below.size) (fun b hb => Nat.lt_of_lt_of_le (h2.no b hb).1 q.below.size)))
      obtain ⟨r1, s1, t1, _⟩ := wa
      obtain ⟨r2, s2, t2, _⟩ := wb
      rw [t1] at p1 HW
      rw [t2] at p2 HW
      have y1 := fun q : Wv wr => q.cell p1
      have y2 := fun q : Wv wr => q.cell p2
      have k0 : (0 : Int) ≤ (k : Int) := by omega
      have k1 : (k : Int) < (m : Int) := by omega
      have hany := Wv.any wr
      have HBE := hide hbel
      clear h1 h2 l1 l2 p1 p2 n1 n2 hkc hww hwl t1 t2 hbel
      go_wp2
      refine wp_region_grown (by kernel_rfl) (by kernel_rfl) ?_
      repeat (go_big_quiet_step ((go_at_call 9; with_reducible exact (HW.out _))))
      refine wpQuiet_nil ?_
      intro w5 hw'
      obtain ⟨q, hq⟩ := hw'
      have B5 := hide (show Below wr.heap.size wr w5 from by first | (rw [hq]; exact q.below) | (rw [← hq]; exact q.below))
      clear hq q y1 y2 hany HW
      go_wp2
      go_roundw
      case rel => exact ⟨k + 1, by omega, by go_num, trans_v HBE.out B5.out⟩
      case measure => simp [intOf]; omega
    · have he : k = m := by omega
      subst he
      have BE := hide (trans_v (trans_v BW3.out B4.out) hbel)
      clear hbel Q1 Q2 B2 B3 B4 BW3
      have HOP := hide (HB.out wr (trans_v bW BE.out)).op
      have x0 := cells_at (HBL.out wr BE.out) 0 _ rfl
      have x1 := cells_at (HBL.out wr BE.out) 1 _ rfl
      have x2 := cells_at (HBL.out wr BE.out) 2 _ rfl
      go_upto_region 11 with (go_at_call 10; refine HOP.out.mono ?_; clear HOP; rintro r w5 ⟨⟨vo, L5, rfl, hro⟩, b5⟩; have B5 := hide (trans_v BE.out b5); have HR5 := hide hro; obtain ⟨oa, oc, rfl⟩ := rowLen hro; clear b5 hro)
      clear x0 x1 x2
      have HRO := hide (HB.out w5 (trans_v bW B5.out)).rop
      have x0 := cells_at (HBL.out w5 B5.out) 0 _ rfl
      have x1 := cells_at (HBL.out w5 B5.out) 1 _ rfl
      have x2 := cells_at (HBL.out w5 B5.out) 2 _ rfl
      go_upto_region 12 with (go_at_call 11; refine HRO.out.mono ?_; clear HRO; rintro r w6 ⟨⟨vo, L6, rfl, hro⟩, b6⟩; have B56 := hide b6; have B6 := hide (trans_v B5.out b6); have HR6 := hide hro; obtain ⟨pa, pc, rfl⟩ := rowLen hro; clear b6 hro)
      clear x0 x1 x2
      have HWI := hide (HB.out w6 (trans_v bW B6.out)).wi
      have x0 := cells_at (HBL.out w6 B6.out) 0 _ rfl
      have x1 := cells_at (HBL.out w6 B6.out) 1 _ rfl
      have x2 := cells_at (HBL.out w6 B6.out) 2 _ rfl
      go_upto_region 13 with (go_at_call 12; refine HWI.out.mono ?_; clear HWI; rintro r w7 ⟨rfl, b7⟩; have B67 := hide b7; have B7 := hide (trans_v B6.out b7); clear b7)
      clear x0 x1 x2
      have HRW := hide (HB.out w7 (trans_v bW B7.out)).rwi
      have x0 := cells_at (HBL.out w7 B7.out) 0 _ rfl
      have x1 := cells_at (HBL.out w7 B7.out) 1 _ rfl
      have x2 := cells_at (HBL.out w7 B7.out) 2 _ rfl
      go_upto_region 14 with (go_at_call 13; refine HRW.out.mono ?_; clear HRW; rintro r w8 ⟨rfl, b8⟩; have B78 := hide b8; have B8 := hide (trans_v bW (trans_v B7.out b8)); clear b8)
      clear x0 x1 x2
      have B68 := hide (trans_v B67.out B78.out)
      have B58 := hide (trans_v B56.out B68.out)
      have hro1 := HR5.out
      have hro2 := HR6.out
      go_wp2
      go_loopw [22] (fun i wr => ∃ k : Nat, k ≤ qs.length ∧ i = .int .i64 k ∧ ∃ nd, wr = w8.drewN nd) (fun i _ => qs.length - (intOf i).toNat)
      case atStart => exact ⟨0, Nat.zero_le _, rfl, 0, rfl⟩
      case round =>
        obtain ⟨j, hj, rfl, nd, rfl⟩ := hrel
        by_cases hjt : j < qs.length
        · obtain ⟨g1, d1, e1, p1, n1⟩ := rowI_get HR5.out hjt
          obtain ⟨g2, d2, e2, p2, n2⟩ := rowI_get HR6.out hjt
          cases e1
          cases e2
          have y1 := (B58.out.cell (p := ⟨g1, j, none⟩) n1).trans p1
          have y2 := (B68.out.cell (p := ⟨g2, j, none⟩) n2).trans p2
          have j0 : (0 : Int) ≤ (j : Int) := by omega
          have j1 : (j : Int) < (qs.length : Int) := by omega
          generalize qs[j] = x at *
          clear p1 p2 n1 n2 hro1 hro2
          go_wp2
          go_quiet (fail)
          go_wp2
          go_roundw
          case rel => exact ⟨j + 1, by omega, by go_num, _, rfl⟩
          case measure => simp [intOf]; omega
        · have he : j = qs.length := by omega
          subst he
          clear hro1 hro2
          go_wp2
          go_ret
          exact ⟨rfl, trans_v B8.out (drewB _ _)⟩
end Go.Proofs.YtnmkggoampkekaaGreatDoor

/- HistoryTells answers true for all operations made by hand and every three numbers, up to the bulk of its upto statement. -/
namespace Go.Proofs.YtnmkggoampkekaaGreatDoor.historyTells
open Go.ChangeShapes Go.WideShapes Go.ChangeAt Go.RowKit
open Go.ChangeMaps (open_string)

set_option maxRecDepth 100000 in
theorem contract (H : Type) (enc : TypeId × Value → H) (W : World) (base : Nat) (args : Array Value) (ds gs : List (DataW H)) (before : List MemPlace)
    (hval : ∀ (j : Nat) t v, Tryz.f3.params[j]? = some t → args[j]? = some v → Value.okWide Tryz.prog W .any base t v)
    (hW : DataW.Whole enc Tryz.prog Tryz.f3.params.toList Rows.historyTellsSpec.vars false W args.toList ds gs before) (hL : laidMetH Tryz.prog laidLL W) (hk : Rows.uptoBulkAll (ds ++ gs) ≤ 1048576) :
    Calls Tryz.prog 3 args W fun e W' => ∃ v, e = .returned v ∧ Rows.historyTellsSpec.post enc Tryz.prog Tryz.f3 false true false false W args v W' := by
  have hW' := hW
  obtain ⟨p, q, hA0, hV, rfl, hfz, hnd⟩ := hW
  have hA : DataW.TrodAll enc Tryz.prog W 0 (fun _ => true) true Tryz.f3.params.toList args.toList ds p := hA0
  rw [Tryz.params3] at hA hval
  obtain ⟨v0, vs0, d0, ds0, p0, q0, hargs, rfl, rfl, h0, r0⟩ := trodAll_cons hA
  obtain ⟨v1, vs1, d1, ds1, p1, q1, rfl, rfl, rfl, h1, r1⟩ := trodAll_cons r0
  obtain ⟨v2, vs2, d2, ds2, p2, q2, rfl, rfl, rfl, h2, r2⟩ := trodAll_cons r1
  obtain ⟨v3, vs3, d3, ds3, p3, q3, rfl, rfl, rfl, h3, r3⟩ := trodAll_cons r2
  obtain ⟨rfl, rfl, rfl⟩ := trodAll_nil r3
  obtain rfl : args = #[v0, v1, v2, v3] := by cases args; simp_all
  obtain ⟨rfl, rfl⟩ := trodVars_none hV
  simp only [List.append_nil, Rows.uptoBulkAll] at hk
  obtain ⟨cs0, rfl, _⟩ := okWide_struct Tryz.underlying25 (hval 0 25 v0 rfl rfl)
  have k0 := h0
  have lt0 : ∀ x ∈ p0, x.block < W.heap.size := by obtain ⟨m, hm⟩ := k0; exact DataW.trod_lt m _ _ _ hm
  obtain ⟨fuel0, hf0⟩ := h0
  obtain ⟨x0, y0, z0, P0, O0, l0, ecs0, hI0, hs0⟩ := open_past (cs := cs0.toList) hf0 (by omega)
  obtain rfl : cs0 = #[x0, y0, z0] := by cases cs0; simpa using ecs0
  obtain ⟨n1, rfl, rfl, rfl, wf1⟩ := open_int Tryz.underlying3 (hval 1 3 v1 rfl rfl) h1
  have w1 := bounds_i64 wf1
  obtain ⟨n2, rfl, rfl, rfl, wf2⟩ := open_int Tryz.underlying3 (hval 2 3 v2 rfl rfl) h2
  have w2 := bounds_i64 wf2
  obtain ⟨n3, rfl, rfl, rfl, wf3⟩ := open_int Tryz.underlying3 (hval 3 3 v3 rfl rfl) h3
  have w3 := bounds_i64 wf3
  clear hA0
  simp only [List.append_nil] at hW'
  refine (historyTells_walk P0 O0 l0 n1 n2 n3 W _ _ _ _ (tabL_of_laid hL) hI0 (by omega)).mono fun e W' ⟨he, bel⟩ => ?_
  subst he
  exact ⟨_, rfl, _, _, _, [], _, [], hW', trodAll_mk1 (shut_bool Tryz.underlying4 _), trodAll_cons_mk (Below.trod laidOut (by kernel_rfl) (of_decide_eq_true (by kernel_rfl)) k0 bel lt0) (trodAll_cons_mk (shut_int Tryz.underlying3 wf1) (trodAll_cons_mk (shut_int Tryz.underlying3 wf2) (trodAll_cons_mk (shut_int Tryz.underlying3 wf3) trodAll_mk0))), rfl, bel.frame _, fun h => by cases h⟩

theorem laid_met (os : Os) : laidMet Tryz.prog Rows.historyTellsUptoRow.laid ((laidWorld os).forCall (fun _ _ => 0) ⟨#[], #[.agg #[.slice none 0 0, .slice none 0 0, .slice none 0 0], .int .i64 0, .int .i64 0, .int .i64 0], []⟩).memory :=
  laidMet_of_run' 8 (by kernel_rfl) (by kernel_rfl)
theorem reads (os : Os) {H : Type} (enc : TypeId × Value → H) : ∃ places, DataW.whole enc Tryz.prog ((laidWorld os).forCall (fun _ _ => 0) ⟨#[], #[.agg #[.slice none 0 0, .slice none 0 0, .slice none 0 0], .int .i64 0, .int .i64 0, .int .i64 0], []⟩).memory Tryz.f3.params.toList Rows.historyTellsSpec.vars false #[Value.agg #[.slice none 0 0, .slice none 0 0, .slice none 0 0], Value.int .i64 0, Value.int .i64 0, Value.int .i64 0].toList 8 = some ([.agg [.nil, .nil, .nil], .lit (.int .i64 0), .lit (.int .i64 0), .lit (.int .i64 0)], [], places) :=
  ⟨[], by kernel_rfl⟩

set_option maxRecDepth 100000 in
theorem liftedUpto (os : Os) (started : os.Started) (H : Type) (enc : TypeId × Value → H) (F : Stop.Interp) :
    ReturnsInHanded {} Tryz.checked os 3 .any ((Rows.OpenSpec.upto Rows.historyTellsSpec).preRow enc Tryz.prog Tryz.f3 Rows.historyTellsUptoRow.domain false Rows.historyTellsUptoRow.laid) (((Rows.OpenSpec.upto Rows.historyTellsSpec).at F).post enc Tryz.prog Tryz.f3 false true false false) := by
  obtain ⟨places, hx⟩ := reads os enc
  refine returnsInHanded_of_row (C := Tryz.checked) (s := Rows.OpenSpec.upto Rows.historyTellsSpec) own started (by kernel_rfl) Tryz.func3
    (witness_row_at (enc := enc) (C := Tryz.checked) false (laidWorld os) #[.agg #[.slice none 0 0, .slice none 0 0, .slice none 0 0], .int .i64 0, .int .i64 0, .int .i64 0] rfl (by kernel_rfl) (by kernel_rfl) (by kernel_rfl)
      (OpenSpec.preRow_of_cond 8 hx (by kernel_rfl) (fun k hk => by cases hk; kernel_rfl) (by kernel_rfl) (laid_met os))) ?_
  intro W base args ds gs before hval hW _ hcond _ hL _ _
  exact contract H enc W base args ds gs before hval hW hL (of_decide_eq_true (hcond _ rfl))

theorem saidUpto : Rows.HistoryTellsUptoSaid :=
  OpenClaim.holds_of_cond 3 Tryz.f3 rfl rfl rfl rfl rfl rfl rfl ⟨rfl, rfl, rfl, rfl, rfl⟩ rfl rfl rfl rfl rfl (by kernel_rfl) Tryz.func3 (by kernel_rfl)
    (of_decide_eq_true (by kernel_rfl)) (by unfold Func.isWrapper; first | (rw [if_pos (by decide +kernel)]; kernel_rfl) | (rw [if_neg (by decide +kernel)]; exact ⟨rfl, rfl⟩))
    (fun os started H enc _ F => by rw [OpenClaim.pre_eq_preRow]; exact liftedUpto os started H enc F)

theorem plain (f : FuncId) (fn : Func) (hf : Tryz.pinned.checked.prog.funcNamed Rows.historyTellsRow.func = some f) (hfn : Tryz.pinned.checked.prog.funcs[f]? = some fn) :
    false = Tryz.pinned.checked.prog.looks [] ∧ ∀ (j : Nat) t, fn.params[j]? = some t → Tryz.pinned.checked.prog.wantsStandIn t = false := by
  obtain rfl : f = 3 := Option.some.inj ((show Tryz.prog.funcNamed Rows.historyTellsRow.func = some 3 by kernel_rfl).symm.trans hf) |>.symm
  obtain rfl : fn = Tryz.f3 := (Option.some.inj (Tryz.func3.symm.trans hfn)).symm
  refine ⟨by kernel_rfl, fun j t ht => ?_⟩
  rw [Tryz.params3] at ht
  have hm : t = 25 ∨ t = 3 ∨ t = 3 ∨ t = 3 := by simpa using Array.mem_of_getElem? ht
  rcases hm with rfl | rfl | rfl | rfl
  · exact (show Tryz.prog.wantsStandIn 25 = false by kernel_rfl)
  · exact (show Tryz.prog.wantsStandIn 3 = false by kernel_rfl)
  · exact (show Tryz.prog.wantsStandIn 3 = false by kernel_rfl)
  · exact (show Tryz.prog.wantsStandIn 3 = false by kernel_rfl)

theorem cardUpto : Rows.HistoryTellsUptoCardSaid :=
  Claim7.holds_tied_plain_at .later [] _ _ _ _ saidUpto (fun _ h => by cases h) (by kernel_rfl) (fun _ h => by cases h) historyTellsUpto_row_tie rfl ⟨rfl, rfl⟩ (by kernel_rfl) rfl plain (by kernel_rfl)
end Go.Proofs.YtnmkggoampkekaaGreatDoor.historyTells
namespace Go.Proofs.YtnmkggoampkekaaGreatDoor
theorem historyTells_upto : Rows.HistoryTellsUptoCardSaid := historyTells.cardUpto
#print axioms historyTells_upto
end Go.Proofs.YtnmkggoampkekaaGreatDoor
