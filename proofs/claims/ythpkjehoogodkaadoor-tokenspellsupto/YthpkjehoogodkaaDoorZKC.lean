/- What cut answers of every text. -/
import Derived.Test.YthpkjehoogodkaaDoorZKMark
namespace Go.Proofs.YthpkjehoogodkaaDoor
open Go.RowKit

theorem dec_raw (s : ByteArray) (h : s.size ≠ 0) : ((Lib.decodeGo s).1 : Int) = raw (rv s.data.toList) := by
  have := raw_dec s 0
  rw [List.drop_zero] at this
  rw [this]
  unfold Lib.decodeGo
  rw [if_neg h]
theorem hasPrefix_w (s p : ByteArray) (w : World) : Calls Tryd.prog 30 #[.string s, .string p] w fun e w' => e = .returned (.bool (Lib.hasPrefix s.data.toList p.data.toList)) ∧ w = w' :=
  (Tryd.strings_HasPrefix s p w).mono fun _ _ h => ⟨h.1, h.2.symm⟩

set_option maxRecDepth 100000 in
set_option maxHeartbeats 4000000 in
theorem cut_k (s : ByteArray) (hs : s.size ≤ 4294967296) (w : World) (hT : KT w) :
    Calls Tryd.prog 17 #[.string s] w (CutR (cutC s.data.toList) w) := by
  obtain ⟨W, hW⟩ : ∃ W, w.alloc (.cells ztok 35) = W := ⟨_, rfl⟩
  have bW : Below w.heap.size w W := by rw [← hW]; exact kalloc (Below.refl _ _) _
  have e1 : W.heap[w.heap.size]? = some (.cells ztok 35 (0, 0)) := by rw [← hW]; exact World.alloc_heap_new w _
  have hz : w.heap.size < W.heap.size := (Array.getElem?_eq_some_iff.1 e1).1
  have HE := hide e1
  have HBW := hide bW
  have HT := hide (hT.below bW)
  clear e1 bW hT
  by_cases h0 : s.data.toList = []
  · have hs0 : s = ⟨#[]⟩ := by rw [← str_bytes s, h0]; rfl
    subst hs0
    have hC : cutC (⟨#[]⟩ : ByteArray).data.toList = ⟨Tkn.none, 0, 0⟩ := rfl
    rw [hC]
    unfold CutR
    have g3 := HE.out
    have x0 := kcells_at g3 0 _ rfl
    have x1 := kcells_at g3 1 _ rfl
    have x2 := kcells_at g3 2 _ rfl
    have x3 := kcells_at g3 3 _ rfl
    have x4 := kcells_at g3 4 _ rfl
    have x5 := kcells_at g3 5 _ rfl
    have q0 := kfrozen_at g3 0
    have q1 := kfrozen_at g3 1
    have q2 := kfrozen_at g3 2
    have q3 := kfrozen_at g3 3
    have q4 := kfrozen_at g3 4
    have q5 := kfrozen_at g3 5
    clear g3 h0 hC
    go_enter Tryd.func17, Tryd.ntmps17
    go_wp2
    have g := storedT w W 0 0 0 0 ⟨#[]⟩ 0 ztok w.heap.size (Nat.le_refl _) HBW.out rfl HE.out
    refine bodyPost_ret (results_struct_tmps rfl _ _ w.heap.size _ _ _ _ rfl g.1 Tryd.underlying35 rfl infoTok6) rfl ?_
    exact ⟨rfl, g.2⟩
  have hne : (s.toList == (⟨#[]⟩ : ByteArray).toList) = false := by
    rw [Lib.toList_data, Lib.toList_data]
    simpa using h0
  have hne2 : (s.toList == ([] : List UInt8)) = false := by
    rw [Lib.toList_data]
    simpa using h0
  have hsz : s.size ≠ 0 := fun h => h0 (List.eq_nil_of_length_eq_zero (by rw [size_toList]; exact h))
  have HD := hide (Tryd.utf8_DecodeRuneInString s W HT.out.utf)
  rw [dec_raw s hsz] at HD
  have HS := hide hs
  have hpos : 0 < s.size := by omega
  have HZ := hide hpos
  clear hsz hpos hs
  unfold cutC
  rw [if_neg h0]
  clear h0
  have HBL := hide (fun w => blankT_k (raw (rv s.data.toList)) w)
  have HDG := hide (fun w => digitT_k (raw (rv s.data.toList)) w)
  have HLT := hide (fun w (h : Tabs w) => letter_k (raw (rv s.data.toList)) w h)
  have HP1 := hide (fun w => hasPrefix_w s ⟨#[47, 47]⟩ w)
  have HP2 := hide (fun w => hasPrefix_w s ⟨#[35]⟩ w)
  have HL := hide (fun w (h : Tabs w) => rowLine_k s HS.out w h)
  have HN := hide (fun w (h : Tabs w) => nameT_k s HS.out w h)
  have HNU := hide (fun w (h : Tabs w) => numberT_k s HS.out w h)
  have HSY := hide (fun w (h : Tabs w) => symbolT_k s HS.out HZ.out w h)
  have HMK := hide (fun w (h : KT w) => markT_k s w h)
  have ep1 : (⟨#[47, 47]⟩ : ByteArray).data.toList = [47, 47] := rfl
  have ep2 : (⟨#[35]⟩ : ByteArray).data.toList = [35] := rfl
  rw [ep1] at HP1
  rw [ep2] at HP2
  clear ep1 ep2
  unfold CutR at HN HNU HSY HMK ⊢
  generalize rowL isLn s.data.toList = nl at *
  generalize nameC s.data.toList = C1 at *
  generalize numC s.data.toList = C2 at *
  generalize symC s.data.toList = C3 at *
  generalize markC s.data.toList = C4 at *
  generalize raw (rv s.data.toList) = r at *
  generalize isBl r = b1 at *
  generalize Lib.hasPrefix s.data.toList [47, 47] = b2 at *
  generalize isLetter r = b3 at *
  generalize isDg r = b4 at *
  generalize Lib.hasPrefix s.data.toList [35] = b5 at *
  cases b1 with
  | true =>
    rw [if_pos rfl]
    clear HP1 HP2 HL HN HNU HSY HMK HLT HDG
    go_enter Tryd.func17, Tryd.ntmps17
    go_wp2_with (first
      | (go_at_call 28; refine HD.out.mono ?_; clear HD; rintro e w2 ⟨rfl, b2⟩; have B2a := hide b2; have B2 := hide (ktrans HBW.out b2); have E2 := hide ((b2.block _ hz).trans HE.out); have z2 : w.heap.size < w2.heap.size := (by (have := b2.size; omega)); clear b2)
      | (go_at_call 29; refine (HBL.out _).mono ?_; clear HBL; rintro e wq ⟨rfl, rfl⟩; have g3 := E2.out; have x0 := kcells_at g3 0 _ rfl; have x1 := kcells_at g3 1 _ rfl; have x2 := kcells_at g3 2 _ rfl; have x3 := kcells_at g3 3 _ rfl; have x4 := kcells_at g3 4 _ rfl; have x5 := kcells_at g3 5 _ rfl; have q0 := kfrozen_at g3 0; have q1 := kfrozen_at g3 1; have q2 := kfrozen_at g3 2; have q3 := kfrozen_at g3 3; have q4 := kfrozen_at g3 4; have q5 := kfrozen_at g3 5; clear g3))
    have g := storedT w w2 0 0 0 0 ⟨#[]⟩ 0 ztok w.heap.size (Nat.le_refl _) B2.out rfl E2.out
    refine bodyPost_ret (results_struct_tmps rfl _ _ w.heap.size _ _ _ _ rfl g.1 Tryd.underlying35 rfl infoTok6) rfl ?_
    exact ⟨rfl, g.2⟩
  | false =>
  rw [if_neg (by decide)]
  have ARMB := trivial
  clear ARMB
  cases b2 with
  | true =>
    rw [if_pos rfl]
    clear HP2 HN HNU HSY HMK HLT HDG
    go_enter Tryd.func17, Tryd.ntmps17
    go_wp2_with (first
      | (go_at_call 28; refine HD.out.mono ?_; clear HD; rintro e w2 ⟨rfl, b2⟩; have B2a := hide b2; have B2 := hide (ktrans HBW.out b2); have E2 := hide ((b2.block _ hz).trans HE.out); have z2 : w.heap.size < w2.heap.size := (by (have := b2.size; omega)); clear b2)
      | (go_at_call 29; refine (HBL.out _).mono ?_; clear HBL; rintro e wq ⟨rfl, rfl⟩)
      | (go_at_call 30; refine (HP1.out _).mono ?_; clear HP1; rintro e wq ⟨rfl, rfl⟩)
      | (go_at_call 31; refine (HL.out _ ((KT.below HT.out B2a.out).tabs)).mono ?_; clear HL; rintro e w3 ⟨rfl, b3'⟩; have B3 := hide (ktrans B2.out b3'); have G3 := hide ((b3'.block _ z2).trans E2.out); have g3 := G3.out; have x0 := kcells_at g3 0 _ rfl; have x1 := kcells_at g3 1 _ rfl; have x2 := kcells_at g3 2 _ rfl; have x3 := kcells_at g3 3 _ rfl; have x4 := kcells_at g3 4 _ rfl; have x5 := kcells_at g3 5 _ rfl; have q0 := kfrozen_at g3 0; have q1 := kfrozen_at g3 1; have q2 := kfrozen_at g3 2; have q3 := kfrozen_at g3 3; have q4 := kfrozen_at g3 4; have q5 := kfrozen_at g3 5; clear b3' g3))
    have g := storedT w w3 0 0 0 0 ⟨#[]⟩ 0 ztok w.heap.size (Nat.le_refl _) B3.out rfl G3.out
    refine bodyPost_ret (results_struct_tmps rfl _ _ w.heap.size _ _ _ _ rfl g.1 Tryd.underlying35 rfl infoTok6) rfl ?_
    exact ⟨rfl, g.2⟩
  | false =>
  rw [if_neg (by decide)]
  clear HL
  cases b3 with
  | true =>
    rw [if_pos rfl]
    clear HP2 HNU HSY HMK HDG
    obtain ⟨⟨k, t, i⟩, n, c⟩ := C1
    dsimp only at HN ⊢
    obtain ⟨q, hq⟩ : ∃ q, str t = q := ⟨_, rfl⟩
    rw [hq] at HN ⊢
    clear hq
    go_enter Tryd.func17, Tryd.ntmps17
    go_wp2_with (first
      | (go_at_call 28; refine HD.out.mono ?_; clear HD; rintro e w2 ⟨rfl, b2⟩; have B2a := hide b2; have B2 := hide (ktrans HBW.out b2); have E2 := hide ((b2.block _ hz).trans HE.out); have z2 : w.heap.size < w2.heap.size := (by (have := b2.size; omega)); clear b2)
      | (go_at_call 29; refine (HBL.out _).mono ?_; clear HBL; rintro e wq ⟨rfl, rfl⟩)
      | (go_at_call 30; refine (HP1.out _).mono ?_; clear HP1; rintro e wq ⟨rfl, rfl⟩)
      | (go_at_call 33; refine (HLT.out _ ((KT.below HT.out B2a.out).tabs)).mono ?_; clear HLT; rintro e w3 ⟨rfl, b3'⟩; have B3 := hide (ktrans B2.out b3'); have E3 := hide ((b3'.block _ z2).trans E2.out); have z3 : w.heap.size < w3.heap.size := (by (have := b3'.size; omega)); have HT3 := hide ((KT.below HT.out B2a.out).below b3'); clear b3')
      | (go_at_call 34; refine (HN.out _ HT3.out.tabs).mono ?_; clear HN; rintro e w4 ⟨rfl, b4'⟩; have B4 := hide (ktrans B3.out b4'); have G4 := hide ((b4'.block _ z3).trans E3.out); have g3 := G4.out; have x0 := kcells_at g3 0 _ rfl; have x1 := kcells_at g3 1 _ rfl; have x2 := kcells_at g3 2 _ rfl; have x3 := kcells_at g3 3 _ rfl; have x4 := kcells_at g3 4 _ rfl; have x5 := kcells_at g3 5 _ rfl; have q0 := kfrozen_at g3 0; have q1 := kfrozen_at g3 1; have q2 := kfrozen_at g3 2; have q3 := kfrozen_at g3 3; have q4 := kfrozen_at g3 4; have q5 := kfrozen_at g3 5; clear b4' g3))
    have g := storedT w w4 k 0 0 0 q i ztok w.heap.size (Nat.le_refl _) B4.out rfl G4.out
    refine bodyPost_ret (results_struct_tmps rfl _ _ w.heap.size _ _ _ _ rfl g.1 Tryd.underlying35 rfl infoTok6) rfl ?_
    exact ⟨rfl, g.2⟩
  | false =>
  rw [if_neg (by decide)]
  clear HN
  cases b4 with
  | true =>
    rw [if_pos rfl]
    clear HP2 HSY HMK
    obtain ⟨⟨k, t, i⟩, n, c⟩ := C2
    dsimp only at HNU ⊢
    obtain ⟨q, hq⟩ : ∃ q, str t = q := ⟨_, rfl⟩
    rw [hq] at HNU ⊢
    clear hq
    go_enter Tryd.func17, Tryd.ntmps17
    go_wp2_with (first
      | (go_at_call 28; refine HD.out.mono ?_; clear HD; rintro e w2 ⟨rfl, b2⟩; have B2a := hide b2; have B2 := hide (ktrans HBW.out b2); have E2 := hide ((b2.block _ hz).trans HE.out); have z2 : w.heap.size < w2.heap.size := (by (have := b2.size; omega)); clear b2)
      | (go_at_call 29; refine (HBL.out _).mono ?_; clear HBL; rintro e wq ⟨rfl, rfl⟩)
      | (go_at_call 30; refine (HP1.out _).mono ?_; clear HP1; rintro e wq ⟨rfl, rfl⟩)
      | (go_at_call 33; refine (HLT.out _ ((KT.below HT.out B2a.out).tabs)).mono ?_; clear HLT; rintro e w3 ⟨rfl, b3'⟩; have B3 := hide (ktrans B2.out b3'); have E3 := hide ((b3'.block _ z2).trans E2.out); have z3 : w.heap.size < w3.heap.size := (by (have := b3'.size; omega)); have HT3 := hide ((KT.below HT.out B2a.out).below b3'); clear b3')
      | (go_at_call 35; refine (HDG.out _).mono ?_; clear HDG; rintro e wq ⟨rfl, rfl⟩)
      | (go_at_call 36; refine (HNU.out _ HT3.out.tabs).mono ?_; clear HNU; rintro e w4 ⟨rfl, b4'⟩; have B4 := hide (ktrans B3.out b4'); have G4 := hide ((b4'.block _ z3).trans E3.out); have g3 := G4.out; have x0 := kcells_at g3 0 _ rfl; have x1 := kcells_at g3 1 _ rfl; have x2 := kcells_at g3 2 _ rfl; have x3 := kcells_at g3 3 _ rfl; have x4 := kcells_at g3 4 _ rfl; have x5 := kcells_at g3 5 _ rfl; have q0 := kfrozen_at g3 0; have q1 := kfrozen_at g3 1; have q2 := kfrozen_at g3 2; have q3 := kfrozen_at g3 3; have q4 := kfrozen_at g3 4; have q5 := kfrozen_at g3 5; clear b4' g3))
    have g := storedT w w4 k 0 0 0 q i ztok w.heap.size (Nat.le_refl _) B4.out rfl G4.out
    refine bodyPost_ret (results_struct_tmps rfl _ _ w.heap.size _ _ _ _ rfl g.1 Tryd.underlying35 rfl infoTok6) rfl ?_
    exact ⟨rfl, g.2⟩
  | false =>
  rw [if_neg (by decide)]
  clear HNU
  cases b5 with
  | true =>
    rw [if_pos rfl]
    clear HMK
    obtain ⟨⟨k, t, i⟩, n, c⟩ := C3
    dsimp only at HSY ⊢
    obtain ⟨q, hq⟩ : ∃ q, str t = q := ⟨_, rfl⟩
    rw [hq] at HSY ⊢
    clear hq
    go_enter Tryd.func17, Tryd.ntmps17
    go_wp2_with (first
      | (go_at_call 28; refine HD.out.mono ?_; clear HD; rintro e w2 ⟨rfl, b2⟩; have B2a := hide b2; have B2 := hide (ktrans HBW.out b2); have E2 := hide ((b2.block _ hz).trans HE.out); have z2 : w.heap.size < w2.heap.size := (by (have := b2.size; omega)); clear b2)
      | (go_at_call 29; refine (HBL.out _).mono ?_; clear HBL; rintro e wq ⟨rfl, rfl⟩)
      | (go_at_call 30; refine (HP1.out _).mono ?_; clear HP1; rintro e wq ⟨rfl, rfl⟩)
      | (go_at_call 33; refine (HLT.out _ ((KT.below HT.out B2a.out).tabs)).mono ?_; clear HLT; rintro e w3 ⟨rfl, b3'⟩; have B3 := hide (ktrans B2.out b3'); have E3 := hide ((b3'.block _ z2).trans E2.out); have z3 : w.heap.size < w3.heap.size := (by (have := b3'.size; omega)); have HT3 := hide ((KT.below HT.out B2a.out).below b3'); clear b3')
      | (go_at_call 35; refine (HDG.out _).mono ?_; clear HDG; rintro e wq ⟨rfl, rfl⟩)
      | (go_at_call 30; refine (HP2.out _).mono ?_; clear HP2; rintro e wq ⟨rfl, rfl⟩)
      | (go_at_call 37; refine (HSY.out _ HT3.out.tabs).mono ?_; clear HSY; rintro e w4 ⟨rfl, b4'⟩; have B4 := hide (ktrans B3.out b4'); have G4 := hide ((b4'.block _ z3).trans E3.out); have g3 := G4.out; have x0 := kcells_at g3 0 _ rfl; have x1 := kcells_at g3 1 _ rfl; have x2 := kcells_at g3 2 _ rfl; have x3 := kcells_at g3 3 _ rfl; have x4 := kcells_at g3 4 _ rfl; have x5 := kcells_at g3 5 _ rfl; have q0 := kfrozen_at g3 0; have q1 := kfrozen_at g3 1; have q2 := kfrozen_at g3 2; have q3 := kfrozen_at g3 3; have q4 := kfrozen_at g3 4; have q5 := kfrozen_at g3 5; clear b4' g3))
    have g := storedT w w4 k 0 0 0 q i ztok w.heap.size (Nat.le_refl _) B4.out rfl G4.out
    refine bodyPost_ret (results_struct_tmps rfl _ _ w.heap.size _ _ _ _ rfl g.1 Tryd.underlying35 rfl infoTok6) rfl ?_
    exact ⟨rfl, g.2⟩
  | false =>
    rw [if_neg (by decide)]
    clear HSY
    obtain ⟨⟨k, t, i⟩, n, c⟩ := C4
    dsimp only at HMK ⊢
    obtain ⟨q, hq⟩ : ∃ q, str t = q := ⟨_, rfl⟩
    rw [hq] at HMK ⊢
    clear hq
    go_enter Tryd.func17, Tryd.ntmps17
    go_wp2_with (first
      | (go_at_call 28; refine HD.out.mono ?_; clear HD; rintro e w2 ⟨rfl, b2⟩; have B2a := hide b2; have B2 := hide (ktrans HBW.out b2); have E2 := hide ((b2.block _ hz).trans HE.out); have z2 : w.heap.size < w2.heap.size := (by (have := b2.size; omega)); clear b2)
      | (go_at_call 29; refine (HBL.out _).mono ?_; clear HBL; rintro e wq ⟨rfl, rfl⟩)
      | (go_at_call 30; refine (HP1.out _).mono ?_; clear HP1; rintro e wq ⟨rfl, rfl⟩)
      | (go_at_call 33; refine (HLT.out _ ((KT.below HT.out B2a.out).tabs)).mono ?_; clear HLT; rintro e w3 ⟨rfl, b3'⟩; have B3 := hide (ktrans B2.out b3'); have E3 := hide ((b3'.block _ z2).trans E2.out); have z3 : w.heap.size < w3.heap.size := (by (have := b3'.size; omega)); have HT3 := hide ((KT.below HT.out B2a.out).below b3'); clear b3')
      | (go_at_call 35; refine (HDG.out _).mono ?_; clear HDG; rintro e wq ⟨rfl, rfl⟩)
      | (go_at_call 30; refine (HP2.out _).mono ?_; clear HP2; rintro e wq ⟨rfl, rfl⟩)
      | (go_at_call 38; refine (HMK.out _ HT3.out).mono ?_; clear HMK; rintro e w4 ⟨rfl, b4'⟩; have B4 := hide (ktrans B3.out b4'); have G4 := hide ((b4'.block _ z3).trans E3.out); have g3 := G4.out; have x0 := kcells_at g3 0 _ rfl; have x1 := kcells_at g3 1 _ rfl; have x2 := kcells_at g3 2 _ rfl; have x3 := kcells_at g3 3 _ rfl; have x4 := kcells_at g3 4 _ rfl; have x5 := kcells_at g3 5 _ rfl; have q0 := kfrozen_at g3 0; have q1 := kfrozen_at g3 1; have q2 := kfrozen_at g3 2; have q3 := kfrozen_at g3 3; have q4 := kfrozen_at g3 4; have q5 := kfrozen_at g3 5; clear b4' g3))
    have g := storedT w w4 k 0 0 0 q i ztok w.heap.size (Nat.le_refl _) B4.out rfl G4.out
    refine bodyPost_ret (results_struct_tmps rfl _ _ w.heap.size _ _ _ _ rfl g.1 Tryd.underlying35 rfl infoTok6) rfl ?_
    exact ⟨rfl, g.2⟩
end Go.Proofs.YthpkjehoogodkaaDoor
