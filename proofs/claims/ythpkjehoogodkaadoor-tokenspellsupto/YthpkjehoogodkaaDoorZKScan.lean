/- What Scan answers of every text. -/
import Derived.Test.YthpkjehoogodkaaDoorZKScanM
namespace Go.Proofs.YthpkjehoogodkaaDoor
open Go.RowKit

theorem cell_six_at (w : World) (x0 x1 x2 x3 x4 x5 : Value) (t : TypeId) (N : Nat) (hN : N = w.heap.size) : ∀ j v, [x0, x1, x2, x3, x4, x5][j]? = some v → (w.alloc (.cells #[x0, x1, x2, x3, x4, x5] t)).cell? ((⟨N, 0, none⟩ : Addr).add j) = some v := by
  subst hN
  intro j v hj
  match j, hj with
  | 0, hj => simp at hj; subst hj; simp [Addr.add]
  | 1, hj => simp at hj; subst hj; simp [Addr.add]
  | 2, hj => simp at hj; subst hj; simp [Addr.add]
  | 3, hj => simp at hj; subst hj; simp [Addr.add]
  | 4, hj => simp at hj; subst hj; simp [Addr.add]
  | 5, hj => simp at hj; subst hj; simp [Addr.add]
theorem results_tmp_struct {P : Program} {fn : Func} {p u : Tmp} {ty : TypeId} (h : fn.results = #[.tmp u, .cell p ty]) (tmps : Array Value) (w : World) (g : Nat) (t : TypeId) (cs : Array Value) (fr : Nat × Nat) (d : TypeDesc)
    (hp : tmps.getD p undef = .pointer (some ⟨g, 0, none⟩)) (hg : w.heap[g]? = some (.cells cs t fr))
    (hu : P.underlying ty = some d) (hd : (match d with | .struct _ | .array _ _ => true | _ => false) = true) (hi : (P.info? ty).map (·.size) = some cs.size) :
    (results fn tmps).run P w = .ok (.tuple #[tmps.getD u undef, .agg cs]) w := by
  have hp' : tmps[p]?.getD undef = .pointer (some ⟨g, 0, none⟩) := by simpa using hp
  simp [results, h, hp', asAddr, run_loadVar_row w g t ty cs fr d hg hu hd hi]
theorem storedF (w W : World) (c o l k : Int) (g1 : W.heap[w.heap.size]? = some (.cells #[.int .i64 0, .int .i64 0, .int .i64 0, .int .i64 0] 27 (0, 0))) (bW : Below w.heap.size w W) :
    ((((W.setCell ⟨w.heap.size, 0, none⟩ (.int .i64 c)).setCell ⟨w.heap.size, 1, none⟩ (.int .i64 o)).setCell ⟨w.heap.size, 2, none⟩ (.int .i64 l)).setCell ⟨w.heap.size, 3, none⟩ (.int .i64 k)).heap[w.heap.size]? = some (.cells #[.int .i64 c, .int .i64 o, .int .i64 l, .int .i64 k] 27 (0, 0)) ∧
    Below w.heap.size w ((((W.setCell ⟨w.heap.size, 0, none⟩ (.int .i64 c)).setCell ⟨w.heap.size, 1, none⟩ (.int .i64 o)).setCell ⟨w.heap.size, 2, none⟩ (.int .i64 l)).setCell ⟨w.heap.size, 3, none⟩ (.int .i64 k)) := by
  have g2 := heap_setCell_same _ _ 0 _ _ (.int .i64 c) g1
  have g3 := heap_setCell_same _ _ 1 _ _ (.int .i64 o) g2
  have g4 := heap_setCell_same _ _ 2 _ _ (.int .i64 l) g3
  have g5 := heap_setCell_same _ _ 3 _ _ (.int .i64 k) g4
  exact ⟨g5, (((bW.setCell (Nat.le_refl _) _).setCell (Nat.le_refl _) _).setCell (Nat.le_refl _) _).setCell (Nat.le_refl _) _⟩
theorem drop_from (s : ByteArray) (k : Nat) : (s.extract k s.size).data.toList = s.data.toList.drop k := by
  rw [extract_str, bytes_str, List.take_of_length_le]
  rw [List.length_drop, size_toList]
  omega

theorem trans_drew {n : Nat} {w W : World} (h : Below n w W) : Below n w W.drew := h.trans ⟨rfl, rfl, rfl, Nat.le_refl _, fun _ _ => rfl⟩
/-- What Scan answers. -/
def ScanR (L : List UInt8) (w : World) (e : Ending) (w' : World) : Prop :=
  ∃ v, e = .returned (.tuple #[v, .agg (flt L (sc L 0).2)]) ∧ ((sc L 0).2 = Option.none → w'.ownsRow (w.heap.size + 3) 35 6 v (sc L 0).1.length (tkRow L (sc L 0).1)) ∧ ((sc L 0).2 ≠ Option.none → v = .slice none 0 0) ∧ Below w.heap.size w w'

set_option maxRecDepth 100000 in
set_option maxHeartbeats 8000000 in
theorem scan_k (s : ByteArray) (hs : s.size ≤ 4294967296) (w : World) (hT : KT w) :
    Calls Tryd.prog 7 #[.string s] w (ScanR s.data.toList w) := by
  obtain ⟨i6, hi6, h60, h61, h62⟩ := info_parts infoTok
  have hlen := size_toList s
  have HLEN := hide hlen
  clear hlen
  have HT := hide hT
  clear hT
  have hrg := fun w' => run_range_string (P := Tryd.prog) w' 9 s Tryd.underlying9
  unfold ScanR
  go_enter Tryd.func7, Tryd.ntmps7
  go_wp2
  go_loopw [4, 6] (fun v ve wr => ∃ (k e line col : Nat) (pre : List (Tkn × Nat)) (x : Int), ve = .int .i64 (e : Int) ∧ Hid (k ≤ e ∧ e ≤ s.size ∧ Bd (s.data.toList.drop k) (e - k) ∧ pre.length ≤ e ∧ LcAt s.data.toList k line col ∧ sc s.data.toList 0 = (pre ++ (sc s.data.toList e).1, (sc s.data.toList e).2)) ∧ ScW s w wr v k x line col pre)
    (fun _ _ wr => s.size - wr.iterPos (w.heap.size + 2))
  case atStart =>
    refine ⟨0, 0, 1, 1, [], 0, rfl, hide ⟨Nat.le_refl _, Nat.zero_le _, Bd.zero _, Nat.le_refl _, LcAt.start _, by simp⟩, ?_⟩
    exact ScW.start s w
  case round =>
    obtain ⟨k, e, line, col, pre, x, rfl, HM, S⟩ := hrel
    clear hrg
    have hit := S.it
    have hsz := S.lt
    have hpos : wr.iterPos (w.heap.size + 2) = k := by simp only [World.iterPos, hit]
    have HS := hide S
    by_cases hlt : k < s.size
    · have hnx := fun ty => Lib.run_next_any_at (P := Tryd.prog) wr (w.heap.size + 2) s k ty hit hlt
      rw [wd_dec] at hnx
      have h1 := wd_pos (s.data.toList.drop k)
      have h2 := wd_room s k hlt
      have hdr : raw (rv (s.data.toList.drop k)) = ((Utf8.decode s k).1 : Int) := raw_dec s k
      have S1 := S.next (k + wd (s.data.toList.drop k))
      obtain ⟨a0, a1, a2, b0, b1, b2⟩ := S1.at'.cells
      have S2 := S1.off (k : Int)
      obtain ⟨R, hR⟩ : ∃ R, (wr.iterAt (w.heap.size + 2) s (k + wd (s.data.toList.drop k))).setCell ⟨w.heap.size + 1, 0, none⟩ (.int .i64 (k : Int)) = R := ⟨_, rfl⟩
      rw [hR] at S2
      have hlc := HM.out.2.2.2.2.1
      have hln := hlc.line
      have hcn := hlc.col
      have hne := drop_ne s k hlt
      have HNX := hide (hlc.next hne)
      rw [hdr] at HNX
      have HNE := hide hne
      have HW := hide (fun (y : Nat) (h : Bd (s.data.toList.drop k) y) (h0 : y ≠ 0) => h.next hne h0)
      clear hne hlc S hdr S1
      generalize ((Utf8.decode s k).1 : Int) = dr at *
      generalize wd (s.data.toList.drop k) = ww at *
      have l0 : (0 : Int) ≤ (line : Int) := by omega
      have c0 : (0 : Int) ≤ (col : Int) := by omega
      have HBH := hide (fun w => behindT_k (k : Int) (line : Int) (col : Int) dr w l0 (by omega) c0 (by omega))
      have hlt2 := S2.lt
      obtain ⟨x0, x1, x2, y0, y1, y2⟩ := S2.at'.cells
      have HS2 := hide S2
      clear S2
      by_cases hke : k = e
      · obtain ⟨d, hd⟩ : ∃ d, s.extract k s.size = d := ⟨_, rfl⟩
        have hdd : d.data.toList = s.data.toList.drop k := by rw [← hd]; exact drop_from s k
        have hds : d.size ≤ s.size := by
          rw [← size_toList d, hdd, List.length_drop, HLEN.out]
          omega
        have HC := hide (cut_k d (by omega) R (HT.out.below HS2.out.bel))
        rw [hdd] at HC
        have hbd := cut_bd (s.data.toList.drop k) HNE.out
        have hst := sc_step s.data.toList k HNE.out
        have hbad := sc_bad s.data.toList k HNE.out
        clear hdd
        subst hke
        unfold CutR at HC
        generalize cutC (s.data.toList.drop k) = C at *
        obtain ⟨⟨kd, t, i⟩, n, c⟩ := C
        dsimp only at HC hbd hst hbad
        obtain ⟨q, hq⟩ : ∃ q, str t = q := ⟨_, rfl⟩
        rw [hq] at HC
        have HQ := hide hq
        clear hq
        by_cases hc : c = 0
        · subst hc
          have hbd := hbd rfl
          have hst := hst rfl
          have hn4 : n ≤ s.size := by
            have := hbd.1.le
            rw [List.length_drop, HLEN.out] at this
            omega
          have hkn : k + n ≤ s.size := by
            have := hbd.1.le
            rw [List.length_drop, HLEN.out] at this
            omega
          have HB := hide hbd
          have HST := hide hst
          clear hbd hst hbad
          by_cases hkd : kd = 0
          · subst hkd
            have HMN : Hid (k + ww ≤ k + n ∧ k + n ≤ s.size ∧ Bd (s.data.toList.drop (k + ww)) (k + n - (k + ww)) ∧ pre.length ≤ k + n ∧ LcAt s.data.toList (k + ww) (bLine line dr) (bCol col dr) ∧ sc s.data.toList 0 = (pre ++ (sc s.data.toList (k + n)).1, (sc s.data.toList (k + n)).2)) := by
              obtain ⟨m1, m2, m3, m4, m5, m6⟩ := HM.out
              obtain ⟨n1, n2⟩ := HW.out n HB.out.1 (by have := HB.out.2; omega)
              refine hide ⟨by omega, hkn, ?_, by omega, HNX.out, ?_⟩
              · rw [List.drop_drop] at n2
                have e : k + n - (k + ww) = n - ww := by omega
                rw [e]
                exact n2
              · rw [m6, HST.out, if_pos rfl]
            go_wp2_with (first
              | (go_at_call 17; refine HC.out.mono ?_; clear HC; rintro e w2 ⟨rfl, b2'⟩; have S3 := hide (ScW.below HS2.out b2'); obtain ⟨W3, hW3⟩ : ∃ W3, w2.alloc (.cells (tcells 0 0 0 0 q i) 35) = W3 := ⟨_, rfl⟩; have S4 := hide (ScW.below S3.out ((Below.refl _ w2).alloc (Nat.le_refl _) (.cells (tcells 0 0 0 0 q i) 35))); rw [hW3] at S4; have kk : W3.cell? ⟨w2.heap.size, 0, none⟩ = some (.int .i64 0) := (by rw [← hW3]; exact kcells_at (World.alloc_heap_new w2 _) 0 _ rfl); obtain ⟨v0, v1, v2, g0, g1, g2⟩ := AtT.cells (ScW.at' S4.out); clear b2')
              | (go_at_call 18; refine (HBH.out _).mono ?_; clear HBH; rintro e w7 ⟨rfl, b7⟩; have S7 := hide (ScW.below S4.out b7); obtain ⟨d0, d1, d2, f0', f1', f2'⟩ := AtT.cells (ScW.at' S7.out); clear b7))
            go_roundw
            case rel =>
              refine ⟨k + ww, k + n, bLine line dr, bCol col dr, pre, 0, by simp, HMN, ?_⟩
              have := S7.out.put 0 (if dr = 10 then (line : Int) + 1 else (line : Int)) (if dr = 10 then (1 : Int) else (col : Int) + 1)
              have e1 : (if dr = 10 then (line : Int) + 1 else (line : Int)) = ((bLine line dr : Nat) : Int) := by unfold bLine; split <;> simp
              have e2 : (if dr = 10 then (1 : Int) else (col : Int) + 1) = ((bCol col dr : Nat) : Int) := by unfold bCol; split <;> simp
              rw [← e1, ← e2]
              exact this
            case measure =>
              have hp := S7.out.put 0 (if dr = 10 then (line : Int) + 1 else (line : Int)) (if dr = 10 then (1 : Int) else (col : Int) + 1)
              have hp2 := hp.it
              simp only [World.iterPos, hp2, hit]
              omega
          · have hkd2 : (kd != 0) = true := by simpa using hkd
            have HMN : Hid (k + ww ≤ k + n ∧ k + n ≤ s.size ∧ Bd (s.data.toList.drop (k + ww)) (k + n - (k + ww)) ∧ (pre ++ [((⟨kd, t, i⟩ : Tkn), k)]).length ≤ k + n ∧ LcAt s.data.toList (k + ww) (bLine line dr) (bCol col dr) ∧ sc s.data.toList 0 = ((pre ++ [((⟨kd, t, i⟩ : Tkn), k)]) ++ (sc s.data.toList (k + n)).1, (sc s.data.toList (k + n)).2)) := by
              obtain ⟨m1, m2, m3, m4, m5, m6⟩ := HM.out
              have hb0 := HB.out.2
              obtain ⟨n1, n2⟩ := HW.out n HB.out.1 (by omega)
              refine hide ⟨by omega, hkn, ?_, by simp; omega, HNX.out, ?_⟩
              · rw [List.drop_drop] at n2
                have e : k + n - (k + ww) = n - ww := by omega
                rw [e]
                exact n2
              · rw [m6, HST.out, if_neg hkd]
                simp
            have hsp : lc s.data.toList k = (line, col) := HM.out.2.2.2.2.1.spot
            have HSP := hide hsp
            have hpl : pre.length ≤ s.size := by have := HM.out.2.2.2.1; omega
            clear hkd hsp
            obtain ⟨ao, cp, rfl⟩ := row_slice HS.out.row
            go_wp2_with (first
              | (go_at_call 17; refine HC.out.mono ?_; clear HC; rintro e w2 ⟨rfl, b2'⟩; have S3 := hide (ScW.below HS2.out b2'); have z3 := (ScW.lt S3.out); obtain ⟨W3, hW3⟩ : ∃ W3, w2.alloc (.cells (tcells kd 0 0 0 q i) 35) = W3 := ⟨_, rfl⟩; have S4 := hide (ScW.below S3.out ((Below.refl _ w2).alloc (Nat.le_refl _) (.cells (tcells kd 0 0 0 q i) 35))); rw [hW3] at S4; have gk : W3.heap[w2.heap.size]? = some (.cells (tcells kd 0 0 0 q i) 35 (0, 0)) := (by rw [← hW3]; exact World.alloc_heap_new w2 _); have k0 := kcells_at gk 0 _ rfl; have k1 := kcells_at gk 1 _ rfl; have k2 := kcells_at gk 2 _ rfl; have k3 := kcells_at gk 3 _ rfl; have p1 := kfrozen_at gk 1; have p2 := kfrozen_at gk 2; have p3 := kfrozen_at gk 3; obtain ⟨v0, v1, v2, g0, g1, g2⟩ := AtT.cells (ScW.at' S4.out); obtain ⟨W4, hW4⟩ : ∃ W4, ((W3.setCell ⟨w2.heap.size, 1, none⟩ (.int .i64 (k : Int))).setCell ⟨w2.heap.size, 2, none⟩ (.int .i64 (line : Int))).setCell ⟨w2.heap.size, 3, none⟩ (.int .i64 (col : Int)) = W4 := ⟨_, rfl⟩; have eW4 : w2.alloc (.cells (tcells kd k line col q i) 35) = W4 := (by rw [← hW4, ← hW3, World.setCell_alloc_new, World.setCell_alloc_new, World.setCell_alloc_new]; rfl); have S5 := hide (ScW.below S3.out ((Below.refl _ w2).alloc (Nat.le_refl _) (.cells (tcells kd k line col q i) 35))); rw [eW4] at S5; have gm : W4.heap[w2.heap.size]? = some (.cells (tcells kd k line col q i) 35 (0, 0)) := (by rw [← eW4]; exact World.alloc_heap_new w2 _); have m0 := kcells_at gm 0 _ rfl; have m1 := kcells_at gm 1 _ rfl; have m2 := kcells_at gm 2 _ rfl; have m3 := kcells_at gm 3 _ rfl; have m4 := kcells_at gm 4 _ rfl; have m5 := kcells_at gm 5 _ rfl; have hbs := (ScW.bel S5.out).size; clear b2' gk gm eW4)
              | (at_builtin; refine wpList_append_own _ rfl _ _ 22 rfl (w.heap.size + 3) 35 i6 (.agg ztok) 6 56 Tryd.underlying22 hi6 h60 h61 h62 rfl (by decide) _ _ _ rfl ((ScW.row S5.out).alloc _) ⟨W4.heap.size, 0, none⟩ 1 1 [.int .i64 kd, .int .i64 k, .int .i64 line, .int .i64 col, .string q, .int .i64 i] rfl rfl (cell_six_at _ _ _ _ _ _ _ _ _ rfl) (by simp [Value.oneCell']) (by unfold maxLen; omega) (by omega) (by (have := ScW.lt S5.out; simp; omega)) ?_; intro v' w6 hown' hgrow _; obtain ⟨g', cap', rfl⟩ := ownsRow_succ hown'; have S6 : Hid (ScW s w w6 (.slice (some ⟨g', 0, none⟩) (pre.length + 1) cap') (k + ww) k line col (pre ++ [((⟨kd, t, i⟩ : Tkn), k)])) := (ScW.push (ScW.below S5.out ((Below.refl _ W4).alloc (Nat.le_refl _) _)) hgrow _ (by rw [tkRow_snoc, List.length_append, HSP.out, HQ.out]; exact hown')); obtain ⟨t0, t1, t2, t3, t4, t5⟩ := AtT.cells (ScW.at' S6.out); clear hown' hgrow)
              | (go_at_call 18; refine (HBH.out _).mono ?_; clear HBH; rintro e w7 ⟨rfl, b7⟩; have S7 := hide (ScW.below S6.out b7); obtain ⟨d0, d1, d2, f0', f1', f2'⟩ := AtT.cells (ScW.at' S7.out); clear b7))
            go_roundw
            case rel =>
              refine ⟨k + ww, k + n, bLine line dr, bCol col dr, pre ++ [((⟨kd, t, i⟩ : Tkn), k)], 0, by simp, HMN, ?_⟩
              have := S7.out.put 0 (if dr = 10 then (line : Int) + 1 else (line : Int)) (if dr = 10 then (1 : Int) else (col : Int) + 1)
              have e1 : (if dr = 10 then (line : Int) + 1 else (line : Int)) = ((bLine line dr : Nat) : Int) := by unfold bLine; split <;> simp
              have e2 : (if dr = 10 then (1 : Int) else (col : Int) + 1) = ((bCol col dr : Nat) : Int) := by unfold bCol; split <;> simp
              rw [← e1, ← e2]
              exact this
            case measure =>
              have hp := S7.out.put 0 (if dr = 10 then (line : Int) + 1 else (line : Int)) (if dr = 10 then (1 : Int) else (col : Int) + 1)
              have hp2 := hp.it
              simp only [World.iterPos, hp2, hit]
              omega
        · have hc2 : (c != 0) = true := by simpa using hc
          have HBAD := hide (hbad hc)
          clear hbd hst hbad hc
          go_wp2_with (go_at_call 17; refine HC.out.mono ?_; clear HC; rintro e w2 ⟨rfl, b2'⟩; have S3 := hide (ScW.below HS2.out b2'); obtain ⟨W3, hW3⟩ : ∃ W3, w2.alloc (.cells (tcells kd 0 0 0 q i) 35) = W3 := ⟨_, rfl⟩; have S4 := hide (ScW.below S3.out ((Below.refl _ w2).alloc (Nat.le_refl _) (.cells (tcells kd 0 0 0 q i) 35))); rw [hW3] at S4; obtain ⟨v0, v1, v2, g0, g1, g2⟩ := AtT.cells (ScW.at' S4.out); have gf := ScW.flt S4.out; have F0 := kcells_at gf 0 _ rfl; have F1 := kcells_at gf 1 _ rfl; have F2 := kcells_at gf 2 _ rfl; have F3 := kcells_at gf 3 _ rfl; have G0 := kfrozen_at gf 0; have G1 := kfrozen_at gf 1; have G2 := kfrozen_at gf 2; have G3 := kfrozen_at gf 3; clear b2' gf)
          go_region
          all_goals
            go_wp2
            have g := storedF w W3 c k line col (ScW.flt S4.out) (ScW.bel S4.out)
            have g1 := g.1
            have hsc : sc s.data.toList 0 = (pre, some (c, k)) := by
              have := HM.out.2.2.2.2.2
              rw [HBAD.out] at this
              simpa using this
            have hsp : lc s.data.toList k = (line, col) := HM.out.2.2.2.2.1.spot
            refine bodyPost_ret (results_tmp_struct rfl _ _ w.heap.size _ _ _ _ rfl g1 Tryd.underlying27 rfl infoFlt) rfl ?_
            refine ⟨.slice none 0 0, ?_, fun h => ?_, fun _ => rfl, trans_drew g.2⟩
            · rw [hsc, flt]
              dsimp only
              rw [hsp]
              rfl
            · rw [hsc] at h
              cases h
      · have hke2 : ((k : Int) == (e : Int)) = false := by simp; omega
        have HMN : Hid (k + ww ≤ e ∧ e ≤ s.size ∧ Bd (s.data.toList.drop (k + ww)) (e - (k + ww)) ∧ pre.length ≤ e ∧ LcAt s.data.toList (k + ww) (bLine line dr) (bCol col dr) ∧ sc s.data.toList 0 = (pre ++ (sc s.data.toList e).1, (sc s.data.toList e).2)) := by
          obtain ⟨m1, m2, m3, m4, m5, m6⟩ := HM.out
          obtain ⟨n1, n2⟩ := HW.out (e - k) m3 (by omega)
          refine hide ⟨by omega, m2, ?_, m4, HNX.out, m6⟩
          rw [List.drop_drop] at n2
          have e' : e - (k + ww) = e - k - ww := by omega
          rw [e']
          exact n2
        go_wp2_with (first
          | (go_at_call 18; refine (HBH.out _).mono ?_; clear HBH; rintro e w7 ⟨rfl, b7⟩; have S7 := hide (ScW.below HS2.out b7); obtain ⟨d0, d1, d2, f0', f1', f2'⟩ := AtT.cells (ScW.at' S7.out); clear b7))
        go_roundw
        case rel =>
          refine ⟨k + ww, e, bLine line dr, bCol col dr, pre, 0, rfl, HMN, ?_⟩
          have := S7.out.put 0 (if dr = 10 then (line : Int) + 1 else (line : Int)) (if dr = 10 then (1 : Int) else (col : Int) + 1)
          have e1 : (if dr = 10 then (line : Int) + 1 else (line : Int)) = ((bLine line dr : Nat) : Int) := by unfold bLine; split <;> simp
          have e2 : (if dr = 10 then (1 : Int) else (col : Int) + 1) = ((bCol col dr : Nat) : Int) := by unfold bCol; split <;> simp
          rw [← e1, ← e2]
          exact this
        case measure =>
          have hp := S7.out.put 0 (if dr = 10 then (line : Int) + 1 else (line : Int)) (if dr = 10 then (1 : Int) else (col : Int) + 1)
          have hp2 := hp.it
          simp only [World.iterPos, hp2, hit]
          omega
    · have hks : k = s.size := by
        have := HM.out.1
        have := HM.out.2.1
        omega
      have hes : e = s.size := by
        have := HM.out.1
        have := HM.out.2.1
        omega
      have hnx := fun ty => Lib.run_next_end_at (P := Tryd.prog) wr (w.heap.size + 2) s k ty hit hlt
      have hsc : sc s.data.toList 0 = (pre ++ [(Tkn.none, s.size)], Option.none) := by
        have := HM.out.2.2.2.2.2
        rw [this, sc_end _ _ (List.drop_eq_nil_of_le (by rw [HLEN.out]; omega)), HLEN.out]
      have hsp : lc s.data.toList s.size = (line, col) := by rw [← hks]; exact HM.out.2.2.2.2.1.spot
      have hpl : pre.length ≤ s.size := by have := HM.out.2.2.2.1; omega
      have HSC := hide hsc
      have HSP := hide hsp
      clear hsc hsp hes
      subst hks
      obtain ⟨ao, cp, rfl⟩ := row_slice S.row
      obtain ⟨a0, a1, a2, b0, b1, b2⟩ := S.at'.cells
      have S2 := S.off (s.size : Int)
      obtain ⟨R, hR⟩ : ∃ R, wr.setCell ⟨w.heap.size + 1, 0, none⟩ (.int .i64 (s.size : Int)) = R := ⟨_, rfl⟩
      rw [hR] at S2
      obtain ⟨x0, x1, x2, y0, y1, y2⟩ := S2.at'.cells
      have HS2 := hide S2
      have hbs := S2.lt
      clear S2 S
      go_wp2_with (at_builtin; refine wpList_append_own _ rfl _ _ 22 rfl (w.heap.size + 3) 35 i6 (.agg ztok) 6 56 Tryd.underlying22 hi6 h60 h61 h62 rfl (by decide) _ _ _ rfl ((ScW.row HS2.out).alloc _) ⟨R.heap.size, 0, none⟩ 1 1 [.int .i64 0, .int .i64 s.size, .int .i64 line, .int .i64 col, .string ⟨#[]⟩, .int .i64 0] rfl rfl (cell_six_at _ _ _ _ _ _ _ _ _ rfl) (by simp [Value.oneCell']) (by unfold maxLen; omega) (by omega) (by (simp; omega)) ?_; intro v' w6 hown' hgrow _; obtain ⟨g', cap', rfl⟩ := ownsRow_succ hown'; have S6 : Hid (ScW s w w6 (.slice (some ⟨g', 0, none⟩) (pre.length + 1) cap') s.size s.size line col (pre ++ [(Tkn.none, s.size)])) := (ScW.push (ScW.below HS2.out ((Below.refl _ R).alloc (Nat.le_refl _) _)) hgrow _ (by rw [tkRow_snoc, List.length_append, HSP.out]; exact hown')); have gf := ScW.flt S6.out; have F0 := kcells_at gf 0 _ rfl; have F1 := kcells_at gf 1 _ rfl; have F2 := kcells_at gf 2 _ rfl; have F3 := kcells_at gf 3 _ rfl; have G0 := kfrozen_at gf 0; have G1 := kfrozen_at gf 1; have G2 := kfrozen_at gf 2; have G3 := kfrozen_at gf 3; clear hown' hgrow gf)
      have g := storedF w w6 0 0 0 0 (ScW.flt S6.out) (ScW.bel S6.out)
      refine bodyPost_ret (results_tmp_struct rfl _ _ w.heap.size _ _ _ _ rfl g.1 Tryd.underlying27 rfl infoFlt) rfl ?_
      refine ⟨.slice (some ⟨g', 0, none⟩) (pre.length + 1) cap', ?_, fun _ => ?_, fun h => ?_, g.2⟩
      · rw [HSC.out]
        rfl
      · rw [HSC.out]
        have := S6.out.row
        rw [List.length_append] at this
        dsimp only
        rw [List.length_append]
        exact ownsRow_setCell_below (ownsRow_setCell_below (ownsRow_setCell_below (ownsRow_setCell_below this (by simp) _) (by simp) _) (by simp) _) (by simp) _
      · rw [HSC.out] at h
        exact absurd rfl h
end Go.Proofs.YthpkjehoogodkaaDoor
