/- The document's scanner: the token at a place. -/
import Derived.Test.YthpkjehoogodkaaDoorZKR5
import Derived.Test.YthpkjehoogodkaaDoorGRefW
namespace Go.Proofs.YthpkjehoogodkaaDoor
open Go.RowKit

theorem grown_new {W X : World} {r : Option Nat} (h : W.grownBy X r) {N i : Nat} (hN : W.heap.size ≤ N) (v : Value) : W.grownBy (X.setCell ⟨N, i, none⟩ v) r := by
  have hb := (Below.refl N X).setCell (p := ⟨N, i, none⟩) (Nat.le_refl _) v
  exact ⟨hb.os.trans h.os, hb.tape.trans h.tape, hb.output.trans h.output, Nat.le_trans h.size hb.size, fun k hk hn => (Below.heap_setCell X ⟨N, i, none⟩ v k (by dsimp only; omega)).trans (h.block k hk hn)⟩
theorem Sn.other {s : ByteArray} {a : Option Addr} {cp P i : Nat} {X : World} (h : Sn s a cp P i X) {N j : Nat} (hN : P < N) (v : Value) : Sn s a cp P i (X.setCell ⟨N, j, none⟩ v) := by
  refine ⟨(Below.heap_setCell X ⟨N, j, none⟩ v P (by dsimp only; omega)).trans h.blk, fun k hk => ?_, h.ne⟩
  obtain ⟨g, e, h1, h2, h3⟩ := h.rr k hk
  have hn := h.ne g e
  have keep : ∀ o u, X.cell? ⟨g, o, none⟩ = some u → (X.setCell ⟨N, j, none⟩ v).cell? ⟨g, o, none⟩ = some u := fun o u hu => by
    have hh := Below.heap_setCell X ⟨N, j, none⟩ v g (by dsimp only; omega)
    simp only [World.cell?] at hu ⊢
    rw [hh]
    exact hu
  exact ⟨g, e, keep _ _ h1, keep _ _ h2, keep _ _ h3⟩
/-- A token that is stored into a block of its own, whatever else has changed. -/
theorem storedS (W X : World) (k : Int) (t : ByteArray) (n : Int) (cs : Array Value) (b : Nat) (r : Option Nat) (hb : W.heap.size ≤ b) (hc : cs.size = 6) (g1 : X.heap[b]? = some (.cells cs 35 (0, 0))) (hg : W.grownBy X r) :
    ((((((X.setCell ⟨b, 0, none⟩ (.int .i64 k)).setCell ⟨b, 1, none⟩ (.int .i64 0)).setCell ⟨b, 2, none⟩ (.int .i64 0)).setCell ⟨b, 3, none⟩ (.int .i64 0)).setCell ⟨b, 4, none⟩ (.string t)).setCell ⟨b, 5, none⟩ (.int .i64 n)).heap[b]? = some (.cells (tcells k 0 0 0 t n) 35 (0, 0)) ∧
    W.grownBy ((((((X.setCell ⟨b, 0, none⟩ (.int .i64 k)).setCell ⟨b, 1, none⟩ (.int .i64 0)).setCell ⟨b, 2, none⟩ (.int .i64 0)).setCell ⟨b, 3, none⟩ (.int .i64 0)).setCell ⟨b, 4, none⟩ (.string t)).setCell ⟨b, 5, none⟩ (.int .i64 n)) r ∧
    ∀ (s : ByteArray) (a : Option Addr) (cp P i : Nat), P < b → Sn s a cp P i X → Sn s a cp P i ((((((X.setCell ⟨b, 0, none⟩ (.int .i64 k)).setCell ⟨b, 1, none⟩ (.int .i64 0)).setCell ⟨b, 2, none⟩ (.int .i64 0)).setCell ⟨b, 3, none⟩ (.int .i64 0)).setCell ⟨b, 4, none⟩ (.string t)).setCell ⟨b, 5, none⟩ (.int .i64 n)) := by
  obtain ⟨xs⟩ := cs
  obtain ⟨x0, x1, x2, x3, x4, x5, rfl⟩ : ∃ x0 x1 x2 x3 x4 x5, xs = [x0, x1, x2, x3, x4, x5] := by
    match xs, hc with
    | [x0, x1, x2, x3, x4, x5], _ => exact ⟨_, _, _, _, _, _, rfl⟩
  have g2 := heap_setCell_same _ _ 0 _ _ (.int .i64 k) g1
  have g3 := heap_setCell_same _ _ 1 _ _ (.int .i64 0) g2
  have g4 := heap_setCell_same _ _ 2 _ _ (.int .i64 0) g3
  have g5 := heap_setCell_same _ _ 3 _ _ (.int .i64 0) g4
  have g6 := heap_setCell_same _ _ 4 _ _ (.string t) g5
  have g7 := heap_setCell_same _ _ 5 _ _ (.int .i64 n) g6
  exact ⟨g7, grown_new (grown_new (grown_new (grown_new (grown_new (grown_new hg hb _) hb _) hb _) hb _) hb _) hb _, fun s a cp P i hP h => (((((h.other hP _).other hP _).other hP _).other hP _).other hP _).other hP _⟩
/-- What one answers. -/
def OneR (C : Ct) (s : ByteArray) (a : Option Addr) (cp P k : Nat) (W : World) (e : Ending) (W' : World) : Prop :=
  e = .returned (.tuple #[.agg (tcells C.tk.kind 0 0 0 (str C.tk.text) C.tk.int), .int .i64 C.code]) ∧ (C.code = 0 → ∃ i, Hid (At s.data.toList i (k + C.size)) ∧ Sn s a cp P i W') ∧ W.grownBy W' (some P)
theorem nmd_name (l : List UInt8) : nmdC 1 (l.take (rowL isNm l)) = ((nameC l).tk, (nameC l).code) ∧ ((nameC l).code = 0 → (nameC l).size = rowL isNm l) := by
  unfold nmdC nameC
  by_cases h : nameE (l.take (rowL isNm l)) = 0
  · rw [if_pos ⟨h, fun h => absurd h.1 (by decide)⟩, if_pos h]
    exact ⟨rfl, fun _ => rfl⟩
  · rw [if_neg (fun q => h q.1), if_neg h]
    exact ⟨rfl, fun q => absurd q (by decide)⟩
theorem nmd_sym (l : List UInt8) (hl : rowL isLetter (l.drop 1) ≠ 0) : nmdC 3 ((l.drop 1).take (rowL isNm (l.drop 1))) = ((symC l).tk, (symC l).code) ∧ ((symC l).code = 0 → (symC l).size = 1 + rowL isNm (l.drop 1)) := by
  unfold symC
  rw [if_neg hl]
  unfold nmdC nameC
  by_cases h : nameE ((l.drop 1).take (rowL isNm (l.drop 1))) = 0
  · rw [if_pos h]
    dsimp only
    cases ht : isTruth ((l.drop 1).take (rowL isNm (l.drop 1))) with
    | true =>
      rw [if_neg (fun q => q.2 ⟨rfl, rfl⟩), if_neg (fun q => absurd q.2 (by decide))]
      exact ⟨rfl, fun q => absurd q (by decide)⟩
    | false =>
      rw [if_pos ⟨h, fun q => absurd q.2 (by decide)⟩, if_pos ⟨rfl, rfl⟩]
      exact ⟨rfl, fun _ => rfl⟩
  · rw [if_neg (fun q => h q.1), if_neg h]
    rw [if_neg (fun q => absurd q.1 (by decide))]
    exact ⟨rfl, fun q => absurd q (by decide)⟩
theorem mk_mark (l : List UInt8) : (mkL l = [] → markC l = ⟨Tkn.none, 0, 90⟩) ∧ (mkL l ≠ [] → markC l = ⟨⟨4, mkL l, 0⟩, (mkL l).length, 0⟩ ∧ mkL l ∈ marksL ∧ Lib.hasPrefix l (mkL l) = true) := by
  unfold mkL markC
  cases hf : marksL.find? fun m => Lib.hasPrefix l m with
  | none => exact ⟨fun _ => rfl, fun h => absurd rfl h⟩
  | some m =>
    have hm := List.mem_of_find?_eq_some hf
    have hp := List.find?_some hf
    refine ⟨fun h => ?_, fun _ => ⟨rfl, hm, hp⟩⟩
    exact absurd h (marks_low m hm).1
theorem mk_neg (l : List UInt8) (h : rv l < 0) : mkL l = [] := by
  by_cases hm : mkL l = []
  · exact hm
  · obtain ⟨_, h2, h3⟩ := (mk_mark l).2 hm
    obtain ⟨t, e⟩ := prefix_app h3
    obtain ⟨m1, m2⟩ := marks_low _ h2
    cases hq : mkL l with
    | nil => exact absurd hq m1
    | cons b r =>
      rw [hq] at e m2
      rw [e, List.cons_append, (rv_ascii b (r ++ t) (m2 b (by simp))).1] at h
      omega
/-- Bytes below 128 are runes of their own. -/
theorem At.low {L : List UInt8} : ∀ {m : List UInt8} {i k : Nat} {t : List UInt8}, At L i k → L.drop k = m ++ t → (∀ b ∈ m, b.toNat < 128) → At L (i + m.length) (k + m.length)
  | [], i, k, t, h, _, _ => h
  | b :: m, i, k, t, h, e, hb => by
    have hi : i < (rs L).length := by
      by_cases hi : i < (rs L).length
      · exact hi
      · have := h.end hi
        rw [e] at this
        cases this
    obtain ⟨_, _, _, _, _, h6⟩ := h.rune hi
    have hw : wd (L.drop k) = 1 := by rw [e]; exact (rv_ascii b (m ++ t) (hb b (by simp))).2
    rw [hw] at h6
    have e2 : L.drop (k + 1) = m ++ t := by rw [← List.drop_drop, e]; rfl
    have := At.low h6 e2 (fun c hc => hb c (by simp [hc]))
    rw [List.length_cons, show i + (m.length + 1) = i + 1 + m.length by omega, show k + (m.length + 1) = k + 1 + m.length by omega]
    exact this
theorem isDg_rv (l : List UInt8) : isDg (raw (rv l)) = isDg (rv l) := by
  unfold raw
  split
  · have := rv_lo l
    have e : rv l = -1 := by omega
    rw [e]
    decide
  · rfl
theorem pre35 (l : List UInt8) (hl : l ≠ []) : Lib.hasPrefix l [35] = (rv l == 35) := by
  obtain ⟨b, t, rfl⟩ : ∃ c t, l = c :: t := by cases l with | nil => exact absurd rfl hl | cons c t => exact ⟨c, t, rfl⟩
  rw [Bool.eq_iff_iff]
  have := rv_low_iff b t 35 (by decide)
  simp [Lib.hasPrefix, List.isPrefixOf]
  have e : (35 : UInt8) = b ↔ b.toNat = 35 := ⟨fun e => by rw [← e]; rfl, fun e => UInt8.toNat_inj.1 (by rw [e]; rfl)⟩
  rw [e]
  exact this.symm

set_option maxRecDepth 100000 in
set_option maxHeartbeats 16000000 in
theorem oneR_k (s : ByteArray) (hs : s.size ≤ 1048576) (a : Option Addr) (cp P i k : Nat) (W : World) (h : Sn s a cp P i W) (hat : At s.data.toList i k) (hi : i < (rs s.data.toList).length) (hst : Stop (s.data.toList.drop k)) :
    Calls Tryd.prog 22 #[.pointer (some ⟨P, 0, none⟩)] W (OneR (cutC (s.data.toList.drop k)) s a cp P k W) := by
  have hb := rs_bound s
  obtain ⟨q1, q2, q3, q4, q5, q6⟩ := hat.rune hi
  obtain ⟨hbl, hcm⟩ : isBl (raw (rv (s.data.toList.drop k))) = false ∧ Lib.hasPrefix (s.data.toList.drop k) [47, 47] = false := by
    rcases hst with e | e
    · exact absurd e q5
    · exact e
  obtain ⟨W0, hW0⟩ : ∃ W0, W.alloc (.cells ztok 35) = W0 := ⟨_, rfl⟩
  have bW : Below W.heap.size W W0 := by rw [← hW0]; exact kalloc (Below.refl _ _) _
  have e1 : W0.heap[W.heap.size]? = some (.cells ztok 35 (0, 0)) := by rw [← hW0]; exact World.alloc_heap_new W _
  have hz : W.heap.size < W0.heap.size := (Array.getElem?_eq_some_iff.1 e1).1
  have hPW := h.lt
  have h0 := h.below bW
  obtain ⟨c0, c1, c2, f2⟩ := h0.cells
  obtain ⟨g, ha, d1, d2, d3⟩ := h0.rr i hi
  rw [q2] at d1
  subst ha
  have hiI : (i : Int) < ((rs s.data.toList).length : Int) := by omega
  have HS := hide h0
  have HAT := hide hat
  have HI := hide hi
  have HE := hide e1
  have HBW := hide bW
  have HQ5 := hide q5
  have hks : k ≤ s.size := by rw [size_toList] at q1; omega
  have hlo := rv_lo (s.data.toList.drop k)
  have hisl := isLetter_raw (rv (s.data.toList.drop k))
  have hidg := isDg_rv (s.data.toList.drop k)
  have h35 := pre35 _ q5
  -- the way that cut goes
  have hcut : cutC (s.data.toList.drop k) = if isLetter (rv (s.data.toList.drop k)) = true then nameC (s.data.toList.drop k) else if isDg (rv (s.data.toList.drop k)) = true then numC (s.data.toList.drop k) else if (rv (s.data.toList.drop k) == 35) = true then symC (s.data.toList.drop k) else markC (s.data.toList.drop k) := by
    unfold cutC
    rw [if_neg q5, if_neg (by rw [hbl]; decide), if_neg (by rw [hcm]; decide), hisl, hidg, h35]
  have HCUT := hide hcut
  have HLT := hide (fun w => refLetter_k (rv (s.data.toList.drop k)) w)
  rw [isLet_eq] at HLT
  have HROW := hide (fun (X : World) (hx : Sn s (some ⟨g, 0, none⟩) cp P i X) => rowS_k s hs _ cp P i i k X hx HAT.out (Nat.le_of_lt HI.out))
  have hnn := nmd_name (s.data.toList.drop k)
  have hns := nmd_sym (s.data.toList.drop k)
  have HMN := hide (mk_neg (s.data.toList.drop k))
  have HMM := hide (mk_mark (s.data.toList.drop k))
  have htk : ∀ n, (str ((s.data.toList.drop k).take n)).size ≤ 1048576 := fun n => by rw [str_size, List.length_take, List.length_drop, size_toList]; omega
  have HTK := hide htk
  have HNN := hide hnn
  have HNS := hide hns
  have HQ6 := hide q6
  clear h hat hi hst q1 q2 q3 q4 q5 q6 hbl hcm h0 d2 d3 e1 bW hisl hidg h35 hcut hnn hns htk hks c0
  obtain ⟨r, hr⟩ : ∃ r, rv (s.data.toList.drop k) = r := ⟨_, rfl⟩
  rw [hr] at HCUT HLT d1 hlo HMN
  have HR := hide hr
  clear hr
  generalize hN : (rs s.data.toList).length = n at *
  have HNL := hide hN
  clear hN
  unfold OneR
  by_cases hl : isLetter r = true
  · have hC : cutC (s.data.toList.drop k) = nameC (s.data.toList.drop k) := by rw [HCUT.out, if_pos hl]
    rw [hC]
    rw [hl] at HLT
    have HNMD := hide (fun w => named_k 1 (.inl rfl) (str ((s.data.toList.drop k).take (rowL isNm (s.data.toList.drop k)))) (HTK.out _) w)
    rw [bytes_str, HNN.out.1] at HNMD
    unfold TokR at HNMD
    have HSZ := hide HNN.out.2
    clear hC hl HCUT HNN HNS HMN HMM HTK
    generalize str ((s.data.toList.drop k).take (rowL isNm (s.data.toList.drop k))) = tx at *
    generalize nameC (s.data.toList.drop k) = C at *
    obtain ⟨⟨ck, ct, ci⟩, cn, cc⟩ := C
    dsimp only at *
    generalize str ct = cq at *
    go_enter Tryd.func22, Tryd.ntmps22
    go_wp2
    go_quiet (fail)
    go_wp2_with (first
      | (go_at_call 42; refine (HLT.out _).mono ?_; clear HLT; rintro e wq ⟨rfl, rfl⟩)
      | (go_at_call 44; refine (HROW.out _ (HS.out.drewN _)).mono ?_; clear HROW; rintro e w2 ⟨rfl, i2, hat2, s2, gr2⟩; have S2 := hide s2; have z2 : W.heap.size < w2.heap.size := (by (have := gr2.size; have h9 := hz; simp only [World.drewN] at this; omega)); have E2 := hide ((gr2.block _ hz (fun e => by (have := Option.some.inj e; omega))).trans HE.out); have GR2 := hide (grown_trans (grown_trans (grown_below' (r := some P) HBW.out) (grown_below' (r := some P) (below_drewN W0 _))) gr2); clear s2 gr2)
      | (go_at_call 43; refine (HNMD.out _).mono ?_; clear HNMD; rintro e w3 ⟨rfl, b3⟩; have g3 := (b3.block _ (by (have := z2; omega))).trans E2.out; have x0 := kcells_at g3 0 _ rfl; have x1 := kcells_at g3 1 _ rfl; have x2 := kcells_at g3 2 _ rfl; have x3 := kcells_at g3 3 _ rfl; have x4 := kcells_at g3 4 _ rfl; have x5 := kcells_at g3 5 _ rfl; have q0 := kfrozen_at g3 0; have q1 := kfrozen_at g3 1; have q2 := kfrozen_at g3 2; have q3 := kfrozen_at g3 3; have q4 := kfrozen_at g3 4; have q5 := kfrozen_at g3 5; have G3 := hide g3; have S3 := hide (S2.out.below b3); have GR3 := hide (grown_trans GR2.out (grown_below' b3)); clear b3 g3))
    obtain ⟨y1, y2, y3⟩ := storedS W w3 ck cq ci ztok W.heap.size (some P) (Nat.le_refl _) rfl G3.out GR3.out
    refine bodyPost_ret (results_struct_one rfl _ _ W.heap.size _ _ _ _ rfl y1 Tryd.underlying35 rfl infoTok6) rfl ?_
    exact ⟨rfl, fun hc => ⟨i2, by rw [HSZ.out hc]; exact hat2, y3 _ _ _ _ _ hPW S3.out⟩, y2⟩
  have hl2 : isLetter r = false := by simpa using hl
  rw [hl2] at HLT
  clear HNN
  by_cases hd : isDg r = true
  · have hC : cutC (s.data.toList.drop k) = numC (s.data.toList.drop k) := by rw [HCUT.out, if_neg hl, if_pos hd]
    rw [hC]
    have hd48 : 48 ≤ r ∧ r ≤ 57 := by unfold isDg at hd; simpa using hd
    obtain ⟨hd1, hd2⟩ := hd48
    have HNUM := hide (fun w => refNumber_k (str ((s.data.toList.drop k).take (rowL isNm (s.data.toList.drop k)))) (by have := HTK.out (rowL isNm (s.data.toList.drop k)); omega) w)
    rw [bytes_str] at HNUM
    unfold numC
    clear hC hl hl2 hd HCUT HNS HMN HMM HTK
    generalize hTX : str ((s.data.toList.drop k).take (rowL isNm (s.data.toList.drop k))) = tx at *
    clear hTX
    generalize numV ((s.data.toList.drop k).take (rowL isNm (s.data.toList.drop k))) = nv at *
    generalize numE ((s.data.toList.drop k).take (rowL isNm (s.data.toList.drop k))) = ne at *
    by_cases hne : ne = 0
    · subst hne
      rw [if_pos rfl]
      go_enter Tryd.func22, Tryd.ntmps22
      go_wp2
      go_quiet (fail)
      go_wp2_with (first
        | (go_at_call 42; refine (HLT.out _).mono ?_; clear HLT; rintro e wq ⟨rfl, rfl⟩)
        | (go_at_call 44; refine (HROW.out _ (HS.out.drewN _)).mono ?_; clear HROW; rintro e w2 ⟨rfl, i2, hat2, s2, gr2⟩; have S2 := hide s2; have z2 : W.heap.size < w2.heap.size := (by (have := gr2.size; have h9 := hz; simp only [World.drewN] at this; omega)); have E2 := hide ((gr2.block _ hz (fun e => by (have := Option.some.inj e; omega))).trans HE.out); have GR2 := hide (grown_trans (grown_trans (grown_below' (r := some P) HBW.out) (grown_below' (r := some P) (below_drewN W0 _))) gr2); clear s2 gr2)
        | (go_at_call 45; refine (HNUM.out _).mono ?_; clear HNUM; rintro e w3 ⟨rfl, b3⟩; have g3 := (b3.block _ (by (have := z2; omega))).trans E2.out; have x0 := kcells_at g3 0 _ rfl; have x1 := kcells_at g3 1 _ rfl; have x2 := kcells_at g3 2 _ rfl; have x3 := kcells_at g3 3 _ rfl; have x4 := kcells_at g3 4 _ rfl; have x5 := kcells_at g3 5 _ rfl; have q0 := kfrozen_at g3 0; have q1 := kfrozen_at g3 1; have q2 := kfrozen_at g3 2; have q3 := kfrozen_at g3 3; have q4 := kfrozen_at g3 4; have q5 := kfrozen_at g3 5; have G3 := hide g3; have S3 := hide (S2.out.below b3); have GR3 := hide (grown_trans GR2.out (grown_below' b3)); clear b3 g3))
      obtain ⟨y1, y2, y3⟩ := storedS W w3 2 ⟨#[]⟩ nv ztok W.heap.size (some P) (Nat.le_refl _) rfl G3.out GR3.out
      refine bodyPost_ret (results_struct_one rfl _ _ W.heap.size _ _ _ _ rfl y1 Tryd.underlying35 rfl infoTok6) rfl ?_
      exact ⟨rfl, fun _ => ⟨i2, hat2, y3 _ _ _ _ _ hPW S3.out⟩, y2⟩
    · rw [if_neg hne]
      have hne2 : (ne != 0) = true := by simpa using hne
      clear hne
      go_enter Tryd.func22, Tryd.ntmps22
      go_wp2
      go_quiet (fail)
      go_wp2_with (first
        | (go_at_call 42; refine (HLT.out _).mono ?_; clear HLT; rintro e wq ⟨rfl, rfl⟩)
        | (go_at_call 44; refine (HROW.out _ (HS.out.drewN _)).mono ?_; clear HROW; rintro e w2 ⟨rfl, i2, hat2, s2, gr2⟩; have S2 := hide s2; have z2 : W.heap.size < w2.heap.size := (by (have := gr2.size; have h9 := hz; simp only [World.drewN] at this; omega)); have E2 := hide ((gr2.block _ hz (fun e => by (have := Option.some.inj e; omega))).trans HE.out); have GR2 := hide (grown_trans (grown_trans (grown_below' (r := some P) HBW.out) (grown_below' (r := some P) (below_drewN W0 _))) gr2); clear s2 gr2)
        | (go_at_call 45; refine (HNUM.out _).mono ?_; clear HNUM; rintro e w3 ⟨rfl, b3⟩; have g3 := (b3.block _ (by (have := z2; omega))).trans E2.out; have x0 := kcells_at g3 0 _ rfl; have x1 := kcells_at g3 1 _ rfl; have x2 := kcells_at g3 2 _ rfl; have x3 := kcells_at g3 3 _ rfl; have x4 := kcells_at g3 4 _ rfl; have x5 := kcells_at g3 5 _ rfl; have q0 := kfrozen_at g3 0; have q1 := kfrozen_at g3 1; have q2 := kfrozen_at g3 2; have q3 := kfrozen_at g3 3; have q4 := kfrozen_at g3 4; have q5 := kfrozen_at g3 5; have G3 := hide g3; have S3 := hide (S2.out.below b3); have GR3 := hide (grown_trans GR2.out (grown_below' b3)); clear b3 g3))
      obtain ⟨y1, y2, y3⟩ := storedS W w3 0 ⟨#[]⟩ 0 ztok W.heap.size (some P) (Nat.le_refl _) rfl G3.out GR3.out
      refine bodyPost_ret (results_struct_one rfl _ _ W.heap.size _ _ _ _ rfl y1 Tryd.underlying35 rfl infoTok6) rfl ?_
      first | exact ⟨rfl, fun hc => absurd hc (by decide), y2⟩ | exact ⟨rfl, y2⟩
  have hndg : r < 48 ∨ 57 < r := by unfold isDg at hd; simp at hd; omega
  clear HROW
  by_cases h35' : r = 35
  · subst h35'
    have hC : cutC (s.data.toList.drop k) = symC (s.data.toList.drop k) := by rw [HCUT.out, if_neg hl, if_neg hd, if_pos (show ((35 : Int) == 35) = true from rfl)]
    rw [hC]
    have hwd : wd (s.data.toList.drop k) = 1 := by
      obtain ⟨b, t, e, hb7, _⟩ := low_head _ HQ5.out (by rw [HR.out]; decide)
      rw [e]
      exact (rv_ascii b t hb7).2
    have hat1 := HQ6.out
    rw [hwd] at hat1
    have hdd : s.data.toList.drop (k + 1) = (s.data.toList.drop k).drop 1 := by rw [List.drop_drop]
    have HLS := hide (fun (X : World) (hx : Sn s (some ⟨g, 0, none⟩) cp P i X) => letterS_k s hs _ cp P i k X hx HAT.out (by rw [HNL.out]; exact HI.out) hwd)
    cases hb' : letB (s.data.toList.drop (k + 1)) with
    | false =>
      rw [hb'] at HLS
      have hz' : rowL isLetter ((s.data.toList.drop k).drop 1) = 0 := by
        rw [← hdd]
        unfold letB at hb'
        simpa using hb'
      have hS : symC (s.data.toList.drop k) = ⟨Tkn.none, 0, 90⟩ := by
        unfold symC
        rw [if_pos hz']
      rw [hS]
      clear hC hS hz' hb' hl hl2 hd hndg HCUT HNS HMN HMM HTK hat1 hdd hwd
      go_enter Tryd.func22, Tryd.ntmps22
      go_wp2
      go_quiet (fail)
      go_wp2_with (first
        | (go_at_call 42; refine (HLT.out _).mono ?_; clear HLT; rintro e wq ⟨rfl, rfl⟩)
        | (go_at_call 46; refine (HLS.out _ (HS.out.drewN _)).mono ?_; clear HLS; rintro e w2 ⟨rfl, b2⟩; have g3 := (b2.block _ hz).trans HE.out; have x0 := kcells_at g3 0 _ rfl; have x1 := kcells_at g3 1 _ rfl; have x2 := kcells_at g3 2 _ rfl; have x3 := kcells_at g3 3 _ rfl; have x4 := kcells_at g3 4 _ rfl; have x5 := kcells_at g3 5 _ rfl; have q0 := kfrozen_at g3 0; have q1 := kfrozen_at g3 1; have q2 := kfrozen_at g3 2; have q3 := kfrozen_at g3 3; have q4 := kfrozen_at g3 4; have q5 := kfrozen_at g3 5; have G3 := hide g3; have GR3 := hide (grown_trans (grown_below' (r := some P) (ktrans HBW.out (below_drewN W0 _))) (grown_below' b2)); clear b2 g3))
      obtain ⟨y1, y2, y3⟩ := storedS W w2 0 ⟨#[]⟩ 0 ztok W.heap.size (some P) (Nat.le_refl _) rfl G3.out GR3.out
      refine bodyPost_ret (results_struct_one rfl _ _ W.heap.size _ _ _ _ rfl y1 Tryd.underlying35 rfl infoTok6) rfl ?_
      first | exact ⟨rfl, fun hc => absurd hc (by decide), y2⟩ | exact ⟨rfl, y2⟩
    | true =>
      rw [hb'] at HLS
      have hz' : rowL isLetter ((s.data.toList.drop k).drop 1) ≠ 0 := by
        rw [← hdd]
        unfold letB at hb'
        simpa using hb'
      have HROW := hide (fun (X : World) (hx : Sn s (some ⟨g, 0, none⟩) cp P i X) => show Calls Tryd.prog 44 #[.pointer (some ⟨P, 0, none⟩), .int .i64 ((i : Int) + 1)] X _ from rowS_k s hs _ cp P i (i + 1) (k + 1) X hx hat1 (by have := HI.out; have := HNL.out; omega))
      rw [hdd] at HROW
      have hN3 := HNS.out hz'
      have HNMD := hide (fun w => named_k 3 (.inr rfl) (str (((s.data.toList.drop k).drop 1).take (rowL isNm ((s.data.toList.drop k).drop 1)))) (by rw [← hdd, str_size, List.length_take, List.length_drop, size_toList]; omega) w)
      rw [bytes_str, hN3.1] at HNMD
      unfold TokR at HNMD
      have HSZ := hide hN3.2
      clear hC hz' hb' hl hl2 hd hndg HCUT HNS HMN HMM HTK hat1 hdd hwd hN3
      generalize str (((s.data.toList.drop k).drop 1).take (rowL isNm ((s.data.toList.drop k).drop 1))) = tx at *
      generalize symC (s.data.toList.drop k) = C at *
      obtain ⟨⟨ck, ct, ci⟩, cn, cc⟩ := C
      dsimp only at *
      generalize str ct = cq at *
      go_enter Tryd.func22, Tryd.ntmps22
      go_wp2
      go_quiet (fail)
      go_wp2_with (first
        | (go_at_call 42; refine (HLT.out _).mono ?_; clear HLT; rintro e wq ⟨rfl, rfl⟩)
        | (go_at_call 46; refine (HLS.out _ (HS.out.drewN _)).mono ?_; clear HLS; rintro e w1 ⟨rfl, b1⟩; have s1 := (HS.out.drewN _).below b1; obtain ⟨c0', c1', c2', f2'⟩ := s1.cells; have S1 := hide s1; have E1 := hide ((b1.block _ hz).trans HE.out); have z1 : W.heap.size < w1.heap.size := (by (have := b1.size; have h9 := hz; simp only [World.drewN] at this; omega)); have GR1 := hide (grown_trans (grown_below' (r := some P) (ktrans HBW.out (below_drewN W0 _))) (grown_below' b1)); clear b1 s1)
        | (go_at_call 44; refine (HROW.out _ S1.out).mono ?_; clear HROW; rintro e w2 ⟨rfl, i2, hat2, s2, gr2⟩; have S2 := hide s2; have z2 : W.heap.size < w2.heap.size := (by (have := gr2.size; omega)); have E2 := hide ((gr2.block _ z1 (fun e => by (have := Option.some.inj e; omega))).trans E1.out); have GR2 := hide (grown_trans GR1.out gr2); clear s2 gr2)
        | (go_at_call 43; refine (HNMD.out _).mono ?_; clear HNMD; rintro e w3 ⟨rfl, b3⟩; have g3 := (b3.block _ (by (have := z2; omega))).trans E2.out; have x0 := kcells_at g3 0 _ rfl; have x1 := kcells_at g3 1 _ rfl; have x2 := kcells_at g3 2 _ rfl; have x3 := kcells_at g3 3 _ rfl; have x4 := kcells_at g3 4 _ rfl; have x5 := kcells_at g3 5 _ rfl; have q0 := kfrozen_at g3 0; have q1 := kfrozen_at g3 1; have q2 := kfrozen_at g3 2; have q3 := kfrozen_at g3 3; have q4 := kfrozen_at g3 4; have q5 := kfrozen_at g3 5; have G3 := hide g3; have S3 := hide (S2.out.below b3); have GR3 := hide (grown_trans GR2.out (grown_below' b3)); clear b3 g3))
      obtain ⟨y1, y2, y3⟩ := storedS W w3 ck cq ci ztok W.heap.size (some P) (Nat.le_refl _) rfl G3.out GR3.out
      refine bodyPost_ret (results_struct_one rfl _ _ W.heap.size _ _ _ _ rfl y1 Tryd.underlying35 rfl infoTok6) rfl ?_
      exact ⟨rfl, fun hc => ⟨i2, by have := hat2; rw [HSZ.out hc]; rw [Nat.add_assoc] at this; exact this, y3 _ _ _ _ _ hPW S3.out⟩, y2⟩
  have h35f : (r == 35) = false := by simpa using h35'
  have hC : cutC (s.data.toList.drop k) = markC (s.data.toList.drop k) := by rw [HCUT.out, if_neg hl, if_neg hd, if_neg (by rw [h35f]; decide)]
  rw [hC]
  clear HCUT HNS hC h35'
  by_cases hneg : r < 0
  · have hM := HMM.out.1 (HMN.out hneg)
    rw [hM]
    clear hM hl hl2 hd hndg HMN HMM HTK
    go_enter Tryd.func22, Tryd.ntmps22
    go_wp2
    go_quiet (fail)
    go_wp2_with (first
      | (go_at_call 42; refine (HLT.out _).mono ?_; clear HLT; rintro e wq ⟨rfl, rfl⟩; have g3 := HE.out; have x0 := kcells_at g3 0 _ rfl; have x1 := kcells_at g3 1 _ rfl; have x2 := kcells_at g3 2 _ rfl; have x3 := kcells_at g3 3 _ rfl; have x4 := kcells_at g3 4 _ rfl; have x5 := kcells_at g3 5 _ rfl; have q0 := kfrozen_at g3 0; have q1 := kfrozen_at g3 1; have q2 := kfrozen_at g3 2; have q3 := kfrozen_at g3 3; have q4 := kfrozen_at g3 4; have q5 := kfrozen_at g3 5; clear g3))
    obtain ⟨y1, y2, y3⟩ := storedS W (W0.drewN _) 0 ⟨#[]⟩ 0 ztok W.heap.size (some P) (Nat.le_refl _) rfl HE.out (grown_below' (r := some P) (ktrans HBW.out (below_drewN W0 _)))
    refine bodyPost_ret (results_struct_one rfl _ _ W.heap.size _ _ _ _ rfl y1 Tryd.underlying35 rfl infoTok6) rfl ?_
    first | exact ⟨rfl, fun hc => absurd hc (by decide), y2⟩ | exact ⟨rfl, y2⟩
  · have HMR := hide (fun (X : World) (hx : Sn s (some ⟨g, 0, none⟩) cp P i X) => markR_k s hs _ cp P i k X hx HAT.out (by rw [HNL.out]; exact HI.out))
    have hnn : 0 ≤ r := by omega
    by_cases hm : mkL (s.data.toList.drop k) = []
    · rw [HMM.out.1 hm]
      rw [hm] at HMR
      obtain ⟨mq, hmq⟩ : ∃ mq, str [] = mq := ⟨_, rfl⟩
      rw [hmq] at HMR
      have n1 : (mq.toList == ([] : List UInt8)) = true := is_lit _ (by rw [← hmq, bytes_str])
      have n1' : (mq.toList == (⟨#[]⟩ : ByteArray).toList) = true := by rw [Lib.toList_data ⟨#[]⟩]; exact n1
      clear hm hmq hl hl2 hd HMN HMM HTK hneg
      go_enter Tryd.func22, Tryd.ntmps22
      go_wp2
      go_quiet (fail)
      go_wp2_with (first
        | (go_at_call 42; refine (HLT.out _).mono ?_; clear HLT; rintro e wq ⟨rfl, rfl⟩)
        | (go_at_call 47; refine (HMR.out _ (HS.out.drewN _)).mono ?_; clear HMR; rintro e w2 ⟨rfl, b2⟩; have g3 := (b2.block _ hz).trans HE.out; have x0 := kcells_at g3 0 _ rfl; have x1 := kcells_at g3 1 _ rfl; have x2 := kcells_at g3 2 _ rfl; have x3 := kcells_at g3 3 _ rfl; have x4 := kcells_at g3 4 _ rfl; have x5 := kcells_at g3 5 _ rfl; have q0 := kfrozen_at g3 0; have q1 := kfrozen_at g3 1; have q2 := kfrozen_at g3 2; have q3 := kfrozen_at g3 3; have q4 := kfrozen_at g3 4; have q5 := kfrozen_at g3 5; have G3 := hide g3; have GR3 := hide (grown_trans (grown_below' (r := some P) (ktrans HBW.out (below_drewN W0 _))) (grown_below' b2)); clear b2 g3))
      all_goals
        obtain ⟨y1, y2, y3⟩ := storedS W w2 0 ⟨#[]⟩ 0 ztok W.heap.size (some P) (Nat.le_refl _) rfl G3.out GR3.out
        refine bodyPost_ret (results_struct_one rfl _ _ W.heap.size _ _ _ _ rfl y1 Tryd.underlying35 rfl infoTok6) rfl ?_
        first | exact ⟨rfl, fun hc => absurd hc (by decide), y2⟩ | exact ⟨rfl, y2⟩
    · obtain ⟨h1, h2, h3⟩ := HMM.out.2 hm
      rw [h1]
      obtain ⟨t, ht⟩ := prefix_app h3
      have hlow := (marks_low _ h2).2
      have HA2 := hide (HAT.out.low ht hlow)
      have hml : (mkL (s.data.toList.drop k)).length ≤ 1048576 := by
        have := congrArg List.length ht
        rw [List.length_drop, List.length_append, size_toList] at this
        omega
      have hmne : (str (mkL (s.data.toList.drop k))).data.toList ≠ [] := by rw [bytes_str]; exact hm
      have hms : (str (mkL (s.data.toList.drop k))).size = (mkL (s.data.toList.drop k)).length := str_size _
      clear h1 h2 h3 ht hlow hm hl hl2 hd HMN HMM HTK hneg
      generalize mkL (s.data.toList.drop k) = m at *
      dsimp only
      generalize str m = mq at *
      generalize m.length = ml at *
      have n1 : (mq.toList == ([] : List UInt8)) = false := not_lit _ hmne
      have n1' : (mq.toList == (⟨#[]⟩ : ByteArray).toList) = false := by rw [Lib.toList_data ⟨#[]⟩]; exact n1
      clear hmne
      go_enter Tryd.func22, Tryd.ntmps22
      go_wp2
      go_quiet (fail)
      go_wp2_with (first
        | (go_at_call 42; refine (HLT.out _).mono ?_; clear HLT; rintro e wq ⟨rfl, rfl⟩)
        | (go_at_call 47; refine (HMR.out _ (HS.out.drewN _)).mono ?_; clear HMR; rintro e w2 ⟨rfl, b2⟩; have s2 := (HS.out.drewN _).below b2; obtain ⟨c0', c1', c2', f2'⟩ := s2.cells; obtain ⟨p1, p2⟩ := s2.put 0 (i + ml) ((i : Int) + (ml : Int)) (by simp); obtain ⟨X2, hX2⟩ : ∃ X2, w2.setCell ⟨P, 2, none⟩ (.int .i64 ((i : Int) + (ml : Int))) = X2 := ⟨_, rfl⟩; have S3 : Hid (Sn s (some ⟨g, 0, none⟩) cp P (i + ml) X2) := (by rw [← hX2]; exact p1); have GR0 : Hid (w2.grownBy X2 (some P)) := (by rw [← hX2]; exact p2); have GR3 := hide (grown_trans (grown_trans (grown_below' (r := some P) (ktrans HBW.out (below_drewN W0 _))) (grown_below' b2)) GR0.out); have g3 := (GR0.out.block _ (by (have := b2.size; have h9 := hz; simp only [World.drewN] at this; omega)) (fun e => by (have := Option.some.inj e; omega))).trans ((b2.block _ hz).trans HE.out); have x0 := kcells_at g3 0 _ rfl; have x1 := kcells_at g3 1 _ rfl; have x2 := kcells_at g3 2 _ rfl; have x3 := kcells_at g3 3 _ rfl; have x4 := kcells_at g3 4 _ rfl; have x5 := kcells_at g3 5 _ rfl; have q0 := kfrozen_at g3 0; have q1 := kfrozen_at g3 1; have q2 := kfrozen_at g3 2; have q3 := kfrozen_at g3 3; have q4 := kfrozen_at g3 4; have q5 := kfrozen_at g3 5; have G3 := hide g3; clear b2 g3 s2 p1 p2))
      all_goals
        obtain ⟨y1, y2, y3⟩ := storedS W X2 4 mq 0 ztok W.heap.size (some P) (Nat.le_refl _) rfl G3.out GR3.out
        refine bodyPost_ret (results_struct_one rfl _ _ W.heap.size _ _ _ _ rfl y1 Tryd.underlying35 rfl infoTok6) rfl ?_
        exact ⟨rfl, fun _ => ⟨i + ml, HA2, y3 _ _ _ _ _ hPW S3.out⟩, y2⟩
end Go.Proofs.YthpkjehoogodkaaDoor
