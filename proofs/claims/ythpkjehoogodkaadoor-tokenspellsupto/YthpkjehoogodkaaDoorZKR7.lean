/- The document's Scan. -/
import Derived.Test.YthpkjehoogodkaaDoorZKR6
import Derived.Test.YthpkjehoogodkaaDoorZKLaw
namespace Go.Proofs.YthpkjehoogodkaaDoor
open Go.RowKit

/-- What the document's Scan holds. -/
structure RsW (s : ByteArray) (a : Option Addr) (cp P : Nat) (w wr : World) (v : Value) (i : Nat) (pre : List (Tkn × Nat)) : Prop where
  flt : wr.heap[w.heap.size]? = some (.cells #[.int .i64 0, .int .i64 0, .int .i64 0, .int .i64 0] 27 (0, 0))
  sn : Sn s a cp P i wr
  row : wr.ownsRow (P + 1) 35 6 v pre.length (tkRow s.data.toList pre)
  bel : Below w.heap.size w wr
  np : w.heap.size < P
theorem RsW.grown {s : ByteArray} {a : Option Addr} {cp P : Nat} {w wr w2 : World} {v : Value} {i i2 : Nat} {pre : List (Tkn × Nat)} (h : RsW s a cp P w wr v i pre) (hg : wr.grownBy w2 (some P)) (hs : Sn s a cp P i2 w2) : RsW s a cp P w w2 v i2 pre := by
  have hlt := h.sn.lt
  have hnp := h.np
  refine ⟨(hg.block _ (by omega) (fun e => by have := Option.some.inj e; omega)).trans h.flt, hs, h.row.kept hg ?_, h.bel.grown hg (by have := h.bel.size; omega) (fun k ek => by have := Option.some.inj ek; omega), hnp⟩
  cases hv : v.ownBlock with
  | none => exact .inl rfl
  | some b =>
    have := (row_block h.row b hv).1
    refine .inr (fun e => ?_)
    have := Option.some.inj e
    omega
theorem RsW.below {s : ByteArray} {a : Option Addr} {cp P : Nat} {w wr w2 : World} {v : Value} {i : Nat} {pre : List (Tkn × Nat)} (h : RsW s a cp P w wr v i pre) (hb : Below wr.heap.size wr w2) : RsW s a cp P w w2 v i pre := h.grown (grown_below' hb) (h.sn.below hb)
theorem RsW.push {s : ByteArray} {a : Option Addr} {cp P : Nat} {w wr w2 : World} {v v' : Value} {i : Nat} {pre : List (Tkn × Nat)} (h : RsW s a cp P w wr v i pre) (hg : wr.grownBy w2 v.ownBlock) (y : Tkn × Nat)
    (hr : w2.ownsRow (P + 1) 35 6 v' (pre ++ [y]).length (tkRow s.data.toList (pre ++ [y]))) : RsW s a cp P w w2 v' i (pre ++ [y]) := by
  have hlt := h.sn.lt
  have hnp := h.np
  have hb : ∀ j, v.ownBlock = some j → P + 1 ≤ j := fun j ej => (row_block h.row j ej).1
  exact ⟨(hg.block _ (by omega) (fun e => by have := hb _ e.symm; omega)).trans h.flt, h.sn.grown hg (fun r e => by have := hb r e; omega), hr, h.bel.grown hg (by have := h.bel.size; omega) (fun j ej => by have := hb j ej; omega), hnp⟩
/-- Where neither a blank nor a comment begins, a token without a fault is no end. -/
theorem cut_kind (L : List UInt8) (k : Nat) (h : L.drop k ≠ []) (hst : Stop (L.drop k)) (hc : (cutC (L.drop k)).code = 0) : (cutC (L.drop k)).tk.kind ≠ 0 := by
  obtain ⟨hbl, hcm⟩ : isBl (raw (rv (L.drop k))) = false ∧ Lib.hasPrefix (L.drop k) [47, 47] = false := by
    rcases hst with e | e
    · exact absurd e h
    · exact e
  unfold cutC at hc ⊢
  rw [if_neg h, if_neg (by rw [hbl]; decide), if_neg (by rw [hcm]; decide)] at hc ⊢
  split
  · rename_i h3
    rw [if_pos h3] at hc
    rw [(nameC_ok _ hc).1]
    dsimp only
    decide
  · rename_i h3
    rw [if_neg h3] at hc
    split
    · rename_i h4
      rw [if_pos h4] at hc
      unfold numC at hc ⊢
      split
      · dsimp only; decide
      · rename_i h5
        rw [if_neg h5] at hc
        exact absurd hc (by decide)
    · rename_i h4
      rw [if_neg h4] at hc
      split
      · rename_i h5
        rw [if_pos h5] at hc
        unfold symC at hc ⊢
        split
        · rename_i h6
          rw [if_pos h6] at hc
          exact absurd hc (by decide)
        · rename_i h6
          rw [if_neg h6] at hc
          split
          · dsimp only; decide
          · rename_i h7
            rw [if_neg h7] at hc
            exact absurd hc (by decide)
      · rename_i h5
        rw [if_neg h5] at hc
        unfold markC at hc ⊢
        split
        · dsimp only; decide
        · rename_i hm
          rw [hm] at hc
          exact absurd hc (by decide)
/-- A token's place is put into its own block. -/
theorem tok_put (s : ByteArray) (a : Option Addr) (cp P : Nat) (w X : World) (v : Value) (i : Nat) (pre : List (Tkn × Nat)) (b : Nat) (ck : Int) (cq : ByteArray) (ci : Int) (o l c : Int) (h : RsW s a cp P w X v i pre) (hb : P < b)
    (hg : X.heap[b]? = some (.cells (tcells ck 0 0 0 cq ci) 35 (0, 0))) (hne : v.ownBlock ≠ some b) (W6 : World) (hW6 : ((X.setCell ⟨b, 1, none⟩ (.int .i64 o)).setCell ⟨b, 2, none⟩ (.int .i64 l)).setCell ⟨b, 3, none⟩ (.int .i64 c) = W6) :
    RsW s a cp P w W6 v i pre ∧ W6.heap[b]? = some (.cells (tcells ck o l c cq ci) 35 (0, 0)) := by
  have hnp := h.np
  have one : ∀ (Y : World) (j : Nat) (u : Value), RsW s a cp P w Y v i pre → RsW s a cp P w (Y.setCell ⟨b, j, none⟩ u) v i pre := fun Y j u hy =>
    ⟨(Below.heap_setCell Y ⟨b, j, none⟩ u _ (by dsimp only; omega)).trans hy.flt, hy.sn.other hb u, ownsRow_setCell_other hy.row hne u, hy.bel.setCell (p := ⟨b, j, none⟩) (by dsimp only; omega) u, hnp⟩
  rw [← hW6]
  refine ⟨one _ _ _ (one _ _ _ (one _ _ _ h)), ?_⟩
  have g2 := heap_setCell_same _ _ 1 _ _ (.int .i64 o) hg
  have g3 := heap_setCell_same _ _ 2 _ _ (.int .i64 l) g2
  exact heap_setCell_same _ _ 3 _ _ (.int .i64 c) g3
def slLen : Value → Nat
  | .slice _ n _ => n
  | _ => 0
/-- What the document's Scan answers. -/
def RScanR (L : List UInt8) (w : World) (e : Ending) (w' : World) : Prop :=
  ∃ v, e = .returned (.tuple #[v, .agg (flt L (sc L 0).2)]) ∧ ((sc L 0).2 = Option.none → ∃ B, w.heap.size ≤ B ∧ w'.ownsRow B 35 6 v (sc L 0).1.length (tkRow L (sc L 0).1)) ∧ ((sc L 0).2 ≠ Option.none → v = .slice none 0 0) ∧ Below w.heap.size w w'

set_option maxRecDepth 100000 in
set_option maxHeartbeats 16000000 in
theorem refScan_k (s : ByteArray) (hs : s.size ≤ 1048576) (w : World) :
    Calls Tryd.prog 8 #[.string s] w (RScanR s.data.toList w) := by
  obtain ⟨i6, hi6, h60, h61, h62⟩ := info_parts infoTok
  have hb := rs_bound s
  have hlen := size_toList s
  have HLEN := hide hlen
  have hsl := sc_len s.data.toList
  rw [hlen] at hsl
  clear hlen
  have HRN := hide (refRunes_k s hs (w.alloc (.cells #[.int .i64 0, .int .i64 0, .int .i64 0, .int .i64 0] 27)))
  unfold RScanR
  go_enter Tryd.func8, Tryd.ntmps8
  go_wp2_with (go_at_call 19; refine HRN.out.mono ?_; clear HRN)
  rintro e w1 ⟨v1, rfl, r1, b1⟩
  obtain ⟨a, cp, rfl⟩ := row_slice r1
  have hz1 : w.heap.size < w1.heap.size := by have := b1.size; simp at this; omega
  have hrs : RsAt (rs s.data.toList) a w1 := fun k hk => by
    obtain ⟨M, hM⟩ : ∃ M, (rs s.data.toList).length = M + 1 := ⟨_, (Nat.sub_add_cancel (by omega : 1 ≤ (rs s.data.toList).length)).symm⟩
    obtain ⟨q1, q2, q3⟩ := rsCells_at _ k hk
    have h1 := r1
    rw [hM] at h1
    obtain ⟨g1, c1, e⟩ := ownsRow_succ h1
    cases e
    exact ⟨g1, rfl, rowCell h1 _ _ q1, rowCell h1 _ _ q2, rowCell h1 _ _ q3⟩
  have hgl : ∀ g, a = some ⟨g, 0, none⟩ → g < w1.heap.size := fun g e => (r1.lt g (by rw [e]; rfl)).2
  obtain ⟨W2, hW2⟩ : ∃ W2, w1.alloc (.cells #[.string s, .slice a (rs s.data.toList).length cp, .int .i64 0] 55) = W2 := ⟨_, rfl⟩
  have hS0 : Hid (RsW s a cp w1.heap.size w W2 (.slice none 0 0) 0 []) := by
    have bA : Below w1.heap.size w1 W2 := by rw [← hW2]; exact kalloc (Below.refl _ _) _
    have hf1 : w1.heap[w.heap.size]? = some (.cells #[.int .i64 0, .int .i64 0, .int .i64 0, .int .i64 0] 27 (0, 0)) := (b1.block _ (by simp)).trans (World.alloc_heap_new w _)
    refine hide ⟨(bA.block _ hz1).trans hf1, ⟨?_, hrs.below bA, hgl⟩, World.ownsRow_nil _ _ _ _, ktrans (ktrans (kalloc (Below.refl _ _) _) b1) bA, hz1⟩
    rw [← hW2]
    exact World.alloc_heap_new w1 _
  obtain ⟨P, hP⟩ : ∃ P, w1.heap.size = P := ⟨_, rfl⟩
  rw [hP] at hS0
  have HP := hide hP
  clear r1 b1 hrs hgl hz1
  go_wp2
  go_loopw [5] (fun v wr => ∃ (i k : Nat) (pre : List (Tkn × Nat)), Hid (At s.data.toList i k ∧ sc s.data.toList 0 = (pre ++ (sc s.data.toList k).1, (sc s.data.toList k).2)) ∧ RsW s a cp P w wr v i pre)
    (fun v _ => (sc s.data.toList 0).1.length + 1 - slLen v)
  case atStart => exact ⟨0, 0, [], hide ⟨At.start _, by simp⟩, hS0.out⟩
  case round =>
    obtain ⟨i, k, pre, HM, hR⟩ := hrel
    obtain ⟨ao, c0, rfl⟩ := row_slice hR.row
    have HR := hide hR
    have HSK := hide (skip_k s hs a cp P i k wr hR.sn HM.out.1)
    clear hR hS0 hP
    go_wp2_with (go_at_call 20; refine HSK.out.mono ?_; clear HSK)
    rintro e w2 ⟨rfl, i2, k2, hm2, sn2, gr2⟩
    have HR2 := hide (HR.out.grown gr2 sn2)
    have HS2 := hide sn2
    obtain ⟨s0, s1, s2, sf⟩ := sn2.cells
    have HSC : Hid (sc s.data.toList 0 = (pre ++ (sc s.data.toList k2).1, (sc s.data.toList k2).2)) := hide (by rw [HM.out.2, hm2.out.2.1])
    have HA2 := hide hm2.out.1
    have HST := hide hm2.out.2.2
    clear sn2 gr2 HM HR hm2
    by_cases hlt : i2 < (rs s.data.toList).length
    · obtain ⟨q1, q2, q3, q4, q5, q6⟩ := HA2.out.rune hlt
      obtain ⟨g, ha, d1, d2, d3⟩ := HS2.out.rr i2 hlt
      rw [q3] at d2
      subst ha
      have hks : k2 ≤ s.size := by rw [HLEN.out] at q1; omega
      have hge : decide (((rs s.data.toList).length : Int) ≤ (i2 : Int)) = false := decide_eq_false (by omega)
      have hge2 : decide ((rs s.data.toList).length ≤ i2) = false := decide_eq_false (by omega)
      have hiI : (i2 : Int) < ((rs s.data.toList).length : Int) := by omega
      have HONE := hide (fun (X : World) (hx : Sn s (some ⟨g, 0, none⟩) cp P i2 X) => oneR_k s hs _ cp P i2 k2 X hx HA2.out hlt HST.out)
      have HSP := hide (fun X => spot_k s hs k2 hks X)
      have hstep := sc_step s.data.toList k2 q5
      have hbad := sc_bad s.data.toList k2 q5
      have hcb := cut_bd (s.data.toList.drop k2) q5
      have hnone := fun hc => cut_kind s.data.toList k2 q5 HST.out hc
      clear q1 q2 q3 q4 q5 q6 d1 d3 hks
      generalize cutC (s.data.toList.drop k2) = C at *
      obtain ⟨⟨ck, ct, ci⟩, cn, cc⟩ := C
      dsimp only at hstep hbad hcb hnone
      unfold OneR at HONE
      dsimp only at HONE
      obtain ⟨cq, hcq⟩ : ∃ cq, str ct = cq := ⟨_, rfl⟩
      rw [hcq] at HONE
      have HCQ := hide hcq
      clear hcq
      clear hlt
      by_cases hc : cc = 0
      · subst hc
        have HSTEP := hide (hstep rfl)
        have hck : ck ≠ 0 := hnone rfl
        have HM3 : Hid (sc s.data.toList 0 = ((pre ++ [((⟨ck, ct, ci⟩ : Tkn), k2)]) ++ (sc s.data.toList (k2 + cn)).1, (sc s.data.toList (k2 + cn)).2)) := hide (by rw [HSC.out, HSTEP.out, if_neg hck]; simp)
        have hpl : pre.length + 1 ≤ (sc s.data.toList 0).1.length := by
          rw [HM3.out]
          simp
        clear hstep hbad hcb hnone hck HSTEP
        go_wp2
        go_quiet (fail)
        go_wp2
        go_quiet (fail)
        go_wp2_with (first
          | (go_at_call 22; refine (HONE.out _ (HS2.out.drewN _)).mono ?_; clear HONE; rintro e w3 ⟨rfl, hok, gr3⟩; obtain ⟨i3, hat3, sn3⟩ := hok (by first | rfl | trivial); have R3 := hide ((HR2.out.below (below_drewN _ _)).grown gr3 sn3); obtain ⟨W4, hW4⟩ : ∃ W4, w3.alloc (.cells (tcells ck 0 0 0 cq ci) 35) = W4 := ⟨_, rfl⟩; have b4 : Below w3.heap.size w3 W4 := (by rw [← hW4]; exact kalloc (Below.refl _ _) _); have R4 := hide (R3.out.below b4); have E4 := hide (show W4.heap[w3.heap.size]? = some (.cells (tcells ck 0 0 0 cq ci) 35 (0, 0)) from (by rw [← hW4]; exact World.alloc_heap_new w3 _)); have z4 : w3.heap.size < W4.heap.size := (Array.getElem?_eq_some_iff.1 E4.out).1; have HP3 := hide R3.out.sn.lt; have HOB := hide (show (Value.slice ao pre.length c0).ownBlock ≠ some w3.heap.size from fun e => (by (have := (R3.out.row.lt _ e).2; omega))); clear hok gr3 sn3 b4)
          | (go_at_call 21; refine (HSP.out _).mono ?_; clear HSP; rintro e w5 ⟨rfl, b5⟩; have R5 := hide (R4.out.below b5); have g5 := (b5.block _ z4).trans E4.out; have k1 := kcells_at g5 1 _ rfl; have k2' := kcells_at g5 2 _ rfl; have k3 := kcells_at g5 3 _ rfl; have p1 := kfrozen_at g5 1; have p2 := kfrozen_at g5 2; have p3 := kfrozen_at g5 3; obtain ⟨W6, hW6⟩ : ∃ W6, ((w5.setCell ⟨w3.heap.size, 1, none⟩ (.int .i64 (k2 : Int))).setCell ⟨w3.heap.size, 2, none⟩ (.int .i64 ((lc s.data.toList k2).1 : Int))).setCell ⟨w3.heap.size, 3, none⟩ (.int .i64 ((lc s.data.toList k2).2 : Int)) = W6 := ⟨_, rfl⟩; have T6 := tok_put s (some ⟨g, 0, none⟩) cp P w w5 _ i3 pre w3.heap.size ck cq ci k2 _ _ R5.out HP3.out g5 HOB.out W6 hW6; have R6 := hide T6.1; have g6 := T6.2; have m0 := kcells_at g6 0 _ rfl; have m1 := kcells_at g6 1 _ rfl; have m2 := kcells_at g6 2 _ rfl; have m3 := kcells_at g6 3 _ rfl; have m4 := kcells_at g6 4 _ rfl; have m5 := kcells_at g6 5 _ rfl; have hbs := R6.out.bel.size; have hsl6 := R6.out.sn.lt; clear b5 g5 g6 T6)
          | (at_builtin; refine wpList_append_own _ rfl _ _ 22 rfl (P + 1) 35 i6 (.agg ztok) 6 56 Tryd.underlying22 hi6 h60 h61 h62 rfl (by decide) _ _ _ rfl ((RsW.row R6.out).alloc _) ⟨W6.heap.size, 0, none⟩ 1 1 [.int .i64 ck, .int .i64 k2, .int .i64 (lc s.data.toList k2).1, .int .i64 (lc s.data.toList k2).2, .string cq, .int .i64 ci] rfl rfl (cell_six_at _ _ _ _ _ _ _ _ _ rfl) (by simp [Value.oneCell']) (by unfold maxLen; omega) (by omega) (by (simp; omega)) ?_; intro v' w7 hown' hgrow _; obtain ⟨g', cap', rfl⟩ := ownsRow_succ hown'; have R7 : Hid (RsW s (some ⟨g, 0, none⟩) cp P w w7 (.slice (some ⟨g', 0, none⟩) (pre.length + 1) cap') i3 (pre ++ [((⟨ck, ct, ci⟩ : Tkn), k2)])) := (RsW.push (RsW.below R6.out ((Below.refl _ W6).alloc (Nat.le_refl _) _)) hgrow _ (by rw [tkRow_snoc, List.length_append, HCQ.out]; exact hown')); clear hown' hgrow))
        go_roundw
        case rel => exact ⟨i3, k2 + cn, _, hide ⟨hat3.out, HM3.out⟩, R7.out⟩
        case measure =>
          simp [slLen]
          omega
      · have HBAD := hide (hbad hc)
        have hc2 : (cc != 0) = true := by simpa using hc
        have HSC2 : Hid (sc s.data.toList 0 = (pre, some (cc, k2))) := hide (by rw [HSC.out, HBAD.out]; simp)
        clear hstep hbad hcb hnone hc HBAD
        go_wp2
        go_quiet (fail)
        go_wp2
        go_quiet (fail)
        go_wp2_with (first
          | (go_at_call 22; refine (HONE.out _ (HS2.out.drewN _)).mono ?_; clear HONE; rintro e w3 ⟨rfl, _, gr3⟩; have bG := hide (show Below P w2 w3 from (((below_drewN w2 _).mono (Nat.le_of_lt HS2.out.lt)).grown gr3 (by (have := HS2.out.lt; simp only [World.drewN]; omega)) (fun k ek => by (have := Option.some.inj ek; omega)))); obtain ⟨W4, hW4⟩ : ∃ W4, w3.alloc (.cells (tcells ck 0 0 0 cq ci) 35) = W4 := ⟨_, rfl⟩; have b4 : Below w3.heap.size w3 W4 := (by rw [← hW4]; exact kalloc (Below.refl _ _) _); have hP3 : P < w3.heap.size := (Nat.lt_of_lt_of_le HS2.out.lt bG.out.size); have gf4 := (b4.block _ (by (have := HR2.out.np; omega))).trans ((bG.out.block _ HR2.out.np).trans HR2.out.flt); have GF4 := hide gf4; have B4 := hide (ktrans (HR2.out.bel.trans (bG.out.mono (Nat.le_of_lt HR2.out.np))) b4); have z4 : w.heap.size < W4.heap.size := (Array.getElem?_eq_some_iff.1 gf4).1; clear gr3 b4 gf4)
          | (go_at_call 21; refine (HSP.out _).mono ?_; clear HSP; rintro e w5 ⟨rfl, b5⟩; have gf := (b5.block _ z4).trans GF4.out; have GF5 := hide gf; have B5 := hide (ktrans B4.out b5); clear b5; have F0 := kcells_at gf 0 _ rfl; have F1 := kcells_at gf 1 _ rfl; have F2 := kcells_at gf 2 _ rfl; have F3 := kcells_at gf 3 _ rfl; have G0 := kfrozen_at gf 0; have G1 := kfrozen_at gf 1; have G2 := kfrozen_at gf 2; have G3 := kfrozen_at gf 3; clear gf))
        have gg := storedF w w5 cc k2 (lc s.data.toList k2).1 (lc s.data.toList k2).2 GF5.out B5.out
        refine bodyPost_ret (results_tmp_struct rfl _ _ w.heap.size _ _ _ _ rfl gg.1 Tryd.underlying27 rfl infoFlt) rfl ?_
        refine ⟨.slice none 0 0, ?_, fun h => ?_, fun _ => rfl, gg.2⟩
        · rw [HSC2.out]
          rfl
        · rw [HSC2.out] at h
          cases h
    · have hend := HA2.out.end hlt
      have hge : decide (((rs s.data.toList).length : Int) ≤ (i2 : Int)) = true := decide_eq_true (by omega)
      have hge2 : decide ((rs s.data.toList).length ≤ i2) = true := decide_eq_true (by omega)
      have HSC2 : Hid (sc s.data.toList 0 = (pre ++ [(Tkn.none, s.size)], Option.none)) := hide (by rw [HSC.out, sc_end _ _ hend, HLEN.out])
      have hpl : pre.length + 1 ≤ (sc s.data.toList 0).1.length := by
        rw [HSC2.out]
        simp
      have HSP := hide (fun X => spot_k s hs s.size (Nat.le_refl _) X)
      clear hend hlt
      go_wp2
      go_quiet (fail)
      go_wp2_with (first
        | (go_at_call 21; refine (HSP.out _).mono ?_; clear HSP; rintro e w5 ⟨rfl, b5⟩; have R5 := hide ((HR2.out.below (below_drewN _ _)).below b5); have hbs := R5.out.bel.size; have hsl6 := R5.out.sn.lt; clear b5)
        | (at_builtin; refine wpList_append_own _ rfl _ _ 22 rfl (P + 1) 35 i6 (.agg ztok) 6 56 Tryd.underlying22 hi6 h60 h61 h62 rfl (by decide) _ _ _ rfl ((RsW.row R5.out).alloc _) ⟨w5.heap.size, 0, none⟩ 1 1 [.int .i64 0, .int .i64 s.size, .int .i64 (lc s.data.toList s.size).1, .int .i64 (lc s.data.toList s.size).2, .string ⟨#[]⟩, .int .i64 0] rfl rfl (cell_six_at _ _ _ _ _ _ _ _ _ rfl) (by simp [Value.oneCell']) (by unfold maxLen; omega) (by omega) (by (simp; omega)) ?_; intro v' w7 hown' hgrow _; obtain ⟨g', cap', rfl⟩ := ownsRow_succ hown'; have R7 : Hid (RsW s a cp P w w7 (.slice (some ⟨g', 0, none⟩) (pre.length + 1) cap') i2 (pre ++ [(Tkn.none, s.size)])) := (RsW.push (RsW.below R5.out ((Below.refl _ w5).alloc (Nat.le_refl _) _)) hgrow _ (by rw [tkRow_snoc, List.length_append]; exact hown')); have gf := R7.out.flt; clear hown' hgrow; have F0 := kcells_at gf 0 _ rfl; have F1 := kcells_at gf 1 _ rfl; have F2 := kcells_at gf 2 _ rfl; have F3 := kcells_at gf 3 _ rfl; have G0 := kfrozen_at gf 0; have G1 := kfrozen_at gf 1; have G2 := kfrozen_at gf 2; have G3 := kfrozen_at gf 3; clear gf))
      have gg := storedF w w7 0 0 0 0 R7.out.flt R7.out.bel
      refine bodyPost_ret (results_tmp_struct rfl _ _ w.heap.size _ _ _ _ rfl gg.1 Tryd.underlying27 rfl infoFlt) rfl ?_
      refine ⟨.slice (some ⟨g', 0, none⟩) (pre.length + 1) cap', ?_, fun _ => ⟨P + 1, by have := R7.out.np; omega, ?_⟩, fun h => ?_, gg.2⟩
      · rw [HSC2.out]
        rfl
      · rw [HSC2.out]
        have := R7.out.row
        have hnp := R7.out.np
        rw [List.length_append] at this
        dsimp only
        rw [List.length_append]
        exact ownsRow_setCell_below (ownsRow_setCell_below (ownsRow_setCell_below (ownsRow_setCell_below this (by dsimp only; omega) _) (by dsimp only; omega) _) (by dsimp only; omega) _) (by dsimp only; omega) _
      · rw [HSC2.out] at h
        exact absurd rfl h
end Go.Proofs.YthpkjehoogodkaaDoor
