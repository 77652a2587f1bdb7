/- The parser's value in general. -/
import Derived.Test.YthmhcpghfbifiaaGreatDoorGParB
import Derived.Test.YthmhcpghfbifiaaGreatDoorZVParse
namespace Go.Proofs.YthmhcpghfbifiaaGreatDoor
open Go.RowKit

theorem begins_no_k (k : Int) (h : begins k = false) (w : World) : Calls Tryz.prog 116 #[.int .i32 k] w fun e w' => e = .returned (.bool false) ∧ w = w' := by
  simp only [begins, Bool.or_eq_false_iff] at h
  obtain ⟨⟨⟨⟨⟨h1, h2⟩, h3⟩, h4⟩, h5⟩, h6⟩ := h
  go_enter Tryz.func116, Tryz.ntmps116
  go_wp2
  go_ret
  exact ⟨rfl, rfl⟩
set_option maxRecDepth 100000 in
set_option maxHeartbeats 4000000 in
theorem val_none (w : World) (pb : Nat) (s : List UInt8) (t : Tk) (q : Nat) (deep : Int) (hP : ParAt w pb s t q) (hs : s.length ≤ 1048576) (_hat : AtTok s t) (_hT : Tabs w) (_hq : q ≤ 4096) (hk : begins t.kind = false) :
    Calls Tryz.prog 91 #[.pointer (some ⟨pb, 0, none⟩), .int .i64 deep] w fun e w' => e = gaveIn s 41 t.off ∧ w.grownBy w' (some pb) := by
  have hpb := hP.lt
  obtain ⟨W, hW⟩ : ∃ W, w.alloc (.cells zcells 46) = W := ⟨_, rfl⟩
  obtain ⟨bW, zW, e1, e2, _⟩ := val_start w pb s t q hP W hW
  have x1 := cells_at e2 1 _ rfl
  have x2 := cells_at e2 2 _ rfl
  have x3 := cells_at e2 3 _ rfl
  have HB := hide (fun W => begins_no_k t.kind hk W)
  have HG := hide (giveUp_k (W.alloc (.cells (tcells t) 148)) pb s t t q 41 ((Below.heap_alloc _ _ _ (by omega)).trans e2) hs)
  clear hP e1 e2 hk
  go_enter Tryz.func91, Tryz.ntmps91
  go_wp2_with (first
    | (go_at_call 116; refine (HB.out _).mono ?_; clear HB; rintro e w1 ⟨rfl, rfl⟩)
    | (go_at_call 117; refine HG.out.mono ?_; clear HG; rintro e w5 ⟨rfl, b5⟩; have B5 := hide b5; clear b5))
  exact ⟨rfl, rfl, grown_more (grown_of_below (trans_v bW (alloc_v (Below.refl _ _) _))) (grown_of_below B5.out)⟩
set_option maxRecDepth 100000 in
set_option maxHeartbeats 4000000 in
theorem val_many (w : World) (pb : Nat) (s : List UInt8) (t : Tk) (q : Nat) (deep : Int) (hP : ParAt w pb s t q) (hs : s.length ≤ 1048576) (_hat : AtTok s t) (_hT : Tabs w) (hq0 : q ≤ 4096) (hq : 4096 < q + 1) (hk : begins t.kind = true) :
    Calls Tryz.prog 91 #[.pointer (some ⟨pb, 0, none⟩), .int .i64 deep] w fun e w' => e = gaveIn s 42 t.off ∧ w.grownBy w' (some pb) := by
  have hpb := hP.lt
  obtain ⟨W, hW⟩ : ∃ W, w.alloc (.cells zcells 46) = W := ⟨_, rfl⟩
  obtain ⟨bW, zW, e1, e2, e3, e4, e5, e6, e7⟩ := val_start w pb s t q hP W hW
  have x1 := cells_at e2 1 _ rfl
  have x2 := cells_at e2 2 _ rfl
  have x3 := cells_at e2 3 _ rfl
  have x4 := cells_at e2 4 _ rfl
  have z4 := frozen_at e2 4
  have hadd : IntKind.i64.wrap ((q : Int) + 1) = (q : Int) + 1 := by rw [IntKind.wrap_i64]; omega
  have hq1 : (4096 : Int) < (q : Int) + 1 := by omega
  have HB := hide (fun W => begins_yes t.kind hk W)
  have HG := hide (giveUp_k _ pb s t t (q + 1) 42 (e3 0) hs)
  have HE := hide e6
  clear hP e1 e2 e3 e4 e5 e6 e7 hk
  go_enter Tryz.func91, Tryz.ntmps91
  go_wp2_with (first
    | (go_at_call 116; refine (HB.out _).mono ?_; clear HB; rintro e w1 ⟨rfl, rfl⟩)
    | (go_at_call 117; refine HG.out.mono ?_; clear HG; rintro e w5 ⟨rfl, b5⟩; have B5 := hide b5; clear b5))
  exact ⟨rfl, rfl, grown_more HE.out (grown_of_below B5.out)⟩
set_option maxRecDepth 100000 in
set_option maxHeartbeats 4000000 in
theorem val_deep (w : World) (pb : Nat) (s : List UInt8) (t : Tk) (q : Nat) (deep : Int) (hP : ParAt w pb s t q) (hs : s.length ≤ 1048576) (_hat : AtTok s t) (_hT : Tabs w) (hq : q + 1 ≤ 4096) (hd : 16 < deep) (hk : begins t.kind = true) :
    Calls Tryz.prog 91 #[.pointer (some ⟨pb, 0, none⟩), .int .i64 deep] w fun e w' => e = gaveIn s 42 t.off ∧ w.grownBy w' (some pb) := by
  have hpb := hP.lt
  obtain ⟨W, hW⟩ : ∃ W, w.alloc (.cells zcells 46) = W := ⟨_, rfl⟩
  obtain ⟨bW, zW, e1, e2, e3, e4, e5, e6, e7⟩ := val_start w pb s t q hP W hW
  have x1 := cells_at e2 1 _ rfl
  have x2 := cells_at e2 2 _ rfl
  have x3 := cells_at e2 3 _ rfl
  have x4 := cells_at e2 4 _ rfl
  have z4 := frozen_at e2 4
  have hadd : IntKind.i64.wrap ((q : Int) + 1) = (q : Int) + 1 := by rw [IntKind.wrap_i64]; omega
  have hq1 : ¬ (4096 : Int) < (q : Int) + 1 := by omega
  have HB := hide (fun W => begins_yes t.kind hk W)
  have HG := hide (giveUp_k _ pb s t t (q + 1) 42 (e3 0) hs)
  have HE := hide e6
  clear hP e1 e2 e3 e4 e5 e6 e7 hk
  go_enter Tryz.func91, Tryz.ntmps91
  go_wp2_with (first
    | (go_at_call 116; refine (HB.out _).mono ?_; clear HB; rintro e w1 ⟨rfl, rfl⟩)
    | (go_at_call 117; refine HG.out.mono ?_; clear HG; rintro e w5 ⟨rfl, b5⟩; have B5 := hide b5; clear b5))
  exact ⟨rfl, rfl, grown_more HE.out (grown_of_below B5.out)⟩
set_option maxRecDepth 100000 in
set_option maxHeartbeats 4000000 in
theorem val_num_no (w : World) (pb : Nat) (s : List UInt8) (t : Tk) (q : Nat) (deep : Int) (hP : ParAt w pb s t q) (hs : s.length ≤ 1048576) (hat : AtTok s t) (hT : Tabs w) (hq : q + 1 ≤ 4096) (hd : deep ≤ 16) (ho : pb ≠ 2 ∧ pb ≠ 0) (hk : t.kind = 48) (hn : ¬ numE t.text.data.toList = 0) :
    Calls Tryz.prog 91 #[.pointer (some ⟨pb, 0, none⟩), .int .i64 deep] w fun e w' => e = gaveIn s 22 t.off ∧ w.grownBy w' (some pb) := by
  have ht := hat.room
  have hpb := hP.lt
  obtain ⟨W, hW⟩ : ∃ W, w.alloc (.cells zcells 46) = W := ⟨_, rfl⟩
  obtain ⟨bW, zW, e1, e2, e3, e4, e5, e6, e7⟩ := val_start w pb s t q hP W hW
  have HS := hide (step_k _ pb s t (q + 1) (e3 0) hs ht (hT.grown e6 (by have := hT.room; omega) (by have := hT.room; omega)))
  have x1 := cells_at e2 1 _ rfl
  have x2 := cells_at e2 2 _ rfl
  have x3 := cells_at e2 3 _ rfl
  have x4 := cells_at e2 4 _ rfl
  have z4 := frozen_at e2 4
  have HE := hide (And.intro e4 (And.intro e5 (And.intro e6 e7)))
  have HTT := hide (fun (U : World) (g : w.grownBy U (some pb)) => hT.grown g ho.1.symm ho.2.symm)
  have hadd : IntKind.i64.wrap ((q : Int) + 1) = (q : Int) + 1 := by rw [IntKind.wrap_i64]; omega
  have hq1 : ¬ (4096 : Int) < (q : Int) + 1 := by omega
  have HB := hide (fun W => begins_yes t.kind (by rw [hk]; rfl) W)
  have hd' : ¬ (16 : Int) < deep := by omega
  have hts : t.text.size ≤ 1048576 := by omega
  have HAT := hide hat.step
  have HN := hide hn
  generalize stepM s t = t2 at *
  obtain ⟨tk, to, tt⟩ := t
  simp only at hk
  subst hk
  clear hP hT e1 e2 e3 e4 e5 e6 e7 hat hn ho
  go_enter Tryz.func91, Tryz.ntmps91
  go_wp2_with (first
    | (go_at_call 116; refine (HB.out _).mono ?_; clear HB; rintro e w1 ⟨rfl, rfl⟩)
    | (go_at_call 118; refine HS.out.mono ?_; clear HS; rintro e w2 ⟨rfl, p2, g2⟩; have hz2 := g2.size; rw [HE.out.2.2.2] at hz2; have f1 := (g2.block w.heap.size (by rw [HE.out.2.2.2]; omega) (by simp; omega)).trans HE.out.1; have f2 := (g2.block (w.heap.size + 1) (by rw [HE.out.2.2.2]; omega) (by simp; omega)).trans HE.out.2.1; have gg2 := grown_more HE.out.2.2.1 g2; have y0 := cells_at f2 0 _ rfl; have y1 := cells_at f2 1 _ rfl; have y2 := cells_at f2 2 _ rfl; have HNU := hide (num_no w2 pb s t2 ⟨48, to, tt⟩ (q + 1) tt hts p2 hs (HTT.out _ gg2) HN.out); have G2 := hide gg2; have P2 := hide p2; have F1 := hide f1; clear p2 g2 gg2 f1 f2)
    | (go_at_call 125; refine HNU.out.mono ?_; clear HNU; rintro e w3 ⟨rfl, b3⟩; have B3 := hide b3; clear b3))
  exact ⟨rfl, rfl, grown_more G2.out (grown_of_below B3.out)⟩
set_option maxRecDepth 100000 in
set_option maxHeartbeats 4000000 in
theorem val_name_no (w : World) (pb : Nat) (s : List UInt8) (t : Tk) (q : Nat) (deep : Int) (hP : ParAt w pb s t q) (hs : s.length ≤ 1048576) (hat : AtTok s t) (hT : Tabs w) (hq : q + 1 ≤ 4096) (hd : deep ≤ 16) (ho : pb ≠ 2 ∧ pb ≠ 0) (hk : t.kind = 97) (zc : Int) (zo : Nat) (hm : nameM t = .error (zc, zo)) :
    Calls Tryz.prog 91 #[.pointer (some ⟨pb, 0, none⟩), .int .i64 deep] w fun e w' => e = gaveIn s zc zo ∧ w.grownBy w' (some pb) := by
  have ht := hat.room
  have hpb := hP.lt
  obtain ⟨W, hW⟩ : ∃ W, w.alloc (.cells zcells 46) = W := ⟨_, rfl⟩
  obtain ⟨bW, zW, e1, e2, e3, e4, e5, e6, e7⟩ := val_start w pb s t q hP W hW
  have HS := hide (step_k _ pb s t (q + 1) (e3 0) hs ht (hT.grown e6 (by have := hT.room; omega) (by have := hT.room; omega)))
  have x1 := cells_at e2 1 _ rfl
  have x2 := cells_at e2 2 _ rfl
  have x3 := cells_at e2 3 _ rfl
  have x4 := cells_at e2 4 _ rfl
  have z4 := frozen_at e2 4
  have HE := hide (And.intro e4 (And.intro e5 (And.intro e6 e7)))
  have HTT := hide (fun (U : World) (g : w.grownBy U (some pb)) => hT.grown g ho.1.symm ho.2.symm)
  have hadd : IntKind.i64.wrap ((q : Int) + 1) = (q : Int) + 1 := by rw [IntKind.wrap_i64]; omega
  have hq1 : ¬ (4096 : Int) < (q : Int) + 1 := by omega
  have HB := hide (fun W => begins_yes t.kind (by rw [hk]; rfl) W)
  have hd' : ¬ (16 : Int) < deep := by omega
  have hts : t.text.size ≤ 1048576 := by omega
  have HAT := hide hat.step
  have HM := hide hm
  generalize stepM s t = t2 at *
  obtain ⟨tk, to, tt⟩ := t
  simp only at hk
  subst hk
  clear hP hT e1 e2 e3 e4 e5 e6 e7 hat hm ho
  go_enter Tryz.func91, Tryz.ntmps91
  go_wp2_with (first
    | (go_at_call 116; refine (HB.out _).mono ?_; clear HB; rintro e w1 ⟨rfl, rfl⟩)
    | (go_at_call 118; refine HS.out.mono ?_; clear HS; rintro e w2 ⟨rfl, p2, g2⟩; have hz2 := g2.size; rw [HE.out.2.2.2] at hz2; have f1 := (g2.block w.heap.size (by rw [HE.out.2.2.2]; omega) (by simp; omega)).trans HE.out.1; have f2 := (g2.block (w.heap.size + 1) (by rw [HE.out.2.2.2]; omega) (by simp; omega)).trans HE.out.2.1; have gg2 := grown_more HE.out.2.2.1 g2; have y0 := cells_at f2 0 _ rfl; have y1 := cells_at f2 1 _ rfl; have y2 := cells_at f2 2 _ rfl; have hnm := parName_k w2 pb s t2 ⟨97, to, tt⟩ (q + 1) hts p2 hs (HTT.out _ gg2); rw [HM.out] at hnm; have HNM : Hid (Calls Tryz.prog 122 #[.pointer (some ⟨pb, 0, none⟩), .agg (tcells ⟨97, to, tt⟩)] w2 fun e w' => e = gaveIn s zc zo ∧ Below w2.heap.size w2 w') := hide hnm; clear hnm; have G2 := hide gg2; have P2 := hide p2; have F1 := hide f1; clear p2 g2 gg2 f1 f2)
    | (go_at_call 122; refine HNM.out.mono ?_; clear HNM; rintro e w3 ⟨rfl, b3⟩; have B3 := hide b3; clear b3))
  exact ⟨rfl, rfl, grown_more G2.out (grown_of_below B3.out)⟩
set_option maxRecDepth 100000 in
set_option maxHeartbeats 4000000 in
theorem val_name_ok (w : World) (pb : Nat) (s : List UInt8) (t : Tk) (q : Nat) (deep : Int) (hP : ParAt w pb s t q) (hs : s.length ≤ 1048576) (hat : AtTok s t) (hT : Tabs w) (hq : q + 1 ≤ 4096) (hd : deep ≤ 16) (ho : pb ≠ 2 ∧ pb ≠ 0) (hk : t.kind = 97) (v : Vl) (hv : v.items = []) (hm : nameM t = .ok v) :
    Calls Tryz.prog 91 #[.pointer (some ⟨pb, 0, none⟩), .int .i64 deep] w fun e w' => e = .returned (.agg (vcells v (.slice none 0 0))) ∧ ParAt w' pb s (stepM s t) (q + 1) ∧ w.grownBy w' (some pb) := by
  have ht := hat.room
  have hpb := hP.lt
  obtain ⟨W, hW⟩ : ∃ W, w.alloc (.cells zcells 46) = W := ⟨_, rfl⟩
  obtain ⟨bW, zW, e1, e2, e3, e4, e5, e6, e7⟩ := val_start w pb s t q hP W hW
  have HS := hide (step_k _ pb s t (q + 1) (e3 0) hs ht (hT.grown e6 (by have := hT.room; omega) (by have := hT.room; omega)))
  have x1 := cells_at e2 1 _ rfl
  have x2 := cells_at e2 2 _ rfl
  have x3 := cells_at e2 3 _ rfl
  have x4 := cells_at e2 4 _ rfl
  have z4 := frozen_at e2 4
  have HE := hide (And.intro e4 (And.intro e5 (And.intro e6 e7)))
  have HTT := hide (fun (U : World) (g : w.grownBy U (some pb)) => hT.grown g ho.1.symm ho.2.symm)
  have hadd : IntKind.i64.wrap ((q : Int) + 1) = (q : Int) + 1 := by rw [IntKind.wrap_i64]; omega
  have hq1 : ¬ (4096 : Int) < (q : Int) + 1 := by omega
  have HB := hide (fun W => begins_yes t.kind (by rw [hk]; rfl) W)
  have hd' : ¬ (16 : Int) < deep := by omega
  have hts : t.text.size ≤ 1048576 := by omega
  have HAT := hide hat.step
  have HM := hide hm
  generalize stepM s t = t2 at *
  obtain ⟨tk, to, tt⟩ := t
  simp only at hk
  subst hk
  obtain ⟨vk, vi, vm, vt, vl⟩ := v
  clear hP hT e1 e2 e3 e4 e5 e6 e7 hat hm ho
  go_enter Tryz.func91, Tryz.ntmps91
  go_wp2_with (first
    | (go_at_call 116; refine (HB.out _).mono ?_; clear HB; rintro e w1 ⟨rfl, rfl⟩)
    | (go_at_call 118; refine HS.out.mono ?_; clear HS; rintro e w2 ⟨rfl, p2, g2⟩; have hz2 := g2.size; rw [HE.out.2.2.2] at hz2; have f1 := (g2.block w.heap.size (by rw [HE.out.2.2.2]; omega) (by simp; omega)).trans HE.out.1; have f2 := (g2.block (w.heap.size + 1) (by rw [HE.out.2.2.2]; omega) (by simp; omega)).trans HE.out.2.1; have gg2 := grown_more HE.out.2.2.1 g2; have y0 := cells_at f2 0 _ rfl; have y1 := cells_at f2 1 _ rfl; have y2 := cells_at f2 2 _ rfl; have hnm := parName_k w2 pb s t2 ⟨97, to, tt⟩ (q + 1) hts p2 hs (HTT.out _ gg2); rw [HM.out] at hnm; have HNM : Hid (Calls Tryz.prog 122 #[.pointer (some ⟨pb, 0, none⟩), .agg (tcells ⟨97, to, tt⟩)] w2 fun e w' => e = .returned (.agg #[.int .i64 vk, .int .i64 vi, .int .i64 vm, .string vt, .slice none 0 0]) ∧ Below w2.heap.size w2 w') := hide hnm; clear hnm; have G2 := hide gg2; have P2 := hide p2; have F1 := hide f1; clear p2 g2 gg2 f1 f2)
    | (go_at_call 122; refine HNM.out.mono ?_; clear HNM; rintro e w8 ⟨rfl, b8⟩; have f8 := (b8.block _ (by omega)).trans F1.out; have P8 := hide (show ParAt w8 pb s t2 (q + 1) from (b8.block _ (by omega)).trans P2.out); have r0 := cells_at f8 0 _ rfl; have rz0 := frozen_at f8 0; have r1 := cells_at f8 1 _ rfl; have rz1 := frozen_at f8 1; have r2 := cells_at f8 2 _ rfl; have rz2 := frozen_at f8 2; have r3 := cells_at f8 3 _ rfl; have rz3 := frozen_at f8 3; have r4 := cells_at f8 4 _ rfl; have rz4 := frozen_at f8 4; have F8 := hide f8; have B8 := hide b8; clear b8 f8))
  have D := val_done vk vi vm vt (.slice none 0 0) F8.out P8.out (grown_more G2.out (grown_of_below B8.out)) hpb
  refine bodyPost_ret (results_cell_row rfl _ _ w.heap.size _ _ _ _ rfl D.1 Tryz.underlying46 rfl infoVal5) rfl ?_
  exact ⟨rfl, D.2.1, D.2.2.1⟩
set_option maxRecDepth 100000 in
set_option maxHeartbeats 4000000 in
theorem val_gauss_no (w : World) (pb : Nat) (s : List UInt8) (t : Tk) (q : Nat) (deep : Int) (hP : ParAt w pb s t q) (hs : s.length ≤ 1048576) (hat : AtTok s t) (hT : Tabs w) (hq : q + 1 ≤ 4096) (hd : deep ≤ 16) (ho : pb ≠ 2 ∧ pb ≠ 0) (hk : t.kind = 105) (zc : Int) (zo : Nat) (hm : gaussM t = .error (zc, zo)) :
    Calls Tryz.prog 91 #[.pointer (some ⟨pb, 0, none⟩), .int .i64 deep] w fun e w' => e = gaveIn s zc zo ∧ w.grownBy w' (some pb) := by
  have ht := hat.room
  have hpb := hP.lt
  obtain ⟨W, hW⟩ : ∃ W, w.alloc (.cells zcells 46) = W := ⟨_, rfl⟩
  obtain ⟨bW, zW, e1, e2, e3, e4, e5, e6, e7⟩ := val_start w pb s t q hP W hW
  have HS := hide (step_k _ pb s t (q + 1) (e3 0) hs ht (hT.grown e6 (by have := hT.room; omega) (by have := hT.room; omega)))
  have x1 := cells_at e2 1 _ rfl
  have x2 := cells_at e2 2 _ rfl
  have x3 := cells_at e2 3 _ rfl
  have x4 := cells_at e2 4 _ rfl
  have z4 := frozen_at e2 4
  have HE := hide (And.intro e4 (And.intro e5 (And.intro e6 e7)))
  have HTT := hide (fun (U : World) (g : w.grownBy U (some pb)) => hT.grown g ho.1.symm ho.2.symm)
  have hadd : IntKind.i64.wrap ((q : Int) + 1) = (q : Int) + 1 := by rw [IntKind.wrap_i64]; omega
  have hq1 : ¬ (4096 : Int) < (q : Int) + 1 := by omega
  have HB := hide (fun W => begins_yes t.kind (by rw [hk]; rfl) W)
  have hd' : ¬ (16 : Int) < deep := by omega
  have hts : t.text.size ≤ 1048576 := by omega
  have HAT := hide hat.step
  have HR := hide (gauss_room hat hk)
  have HM := hide hm
  generalize stepM s t = t2 at *
  obtain ⟨tk, to, tt⟩ := t
  simp only at hk
  subst hk
  clear hP hT e1 e2 e3 e4 e5 e6 e7 hat hm ho
  go_enter Tryz.func91, Tryz.ntmps91
  go_wp2_with (first
    | (go_at_call 116; refine (HB.out _).mono ?_; clear HB; rintro e w1 ⟨rfl, rfl⟩)
    | (go_at_call 118; refine HS.out.mono ?_; clear HS; rintro e w2 ⟨rfl, p2, g2⟩; have hz2 := g2.size; rw [HE.out.2.2.2] at hz2; have f1 := (g2.block w.heap.size (by rw [HE.out.2.2.2]; omega) (by simp; omega)).trans HE.out.1; have f2 := (g2.block (w.heap.size + 1) (by rw [HE.out.2.2.2]; omega) (by simp; omega)).trans HE.out.2.1; have gg2 := grown_more HE.out.2.2.1 g2; have y0 := cells_at f2 0 _ rfl; have y1 := cells_at f2 1 _ rfl; have y2 := cells_at f2 2 _ rfl; have hnm := gauss_k2 w2 pb s t2 ⟨105, to, tt⟩ (q + 1) p2 hs (HTT.out _ gg2) hts HR.out; rw [HM.out] at hnm; have HNM : Hid (Calls Tryz.prog 123 #[.pointer (some ⟨pb, 0, none⟩), .agg (tcells ⟨105, to, tt⟩)] w2 fun e w' => e = gaveIn s zc zo ∧ Below w2.heap.size w2 w') := hide hnm; clear hnm; have G2 := hide gg2; have P2 := hide p2; have F1 := hide f1; clear p2 g2 gg2 f1 f2)
    | (go_at_call 123; refine HNM.out.mono ?_; clear HNM; rintro e w3 ⟨rfl, b3⟩; have B3 := hide b3; clear b3))
  exact ⟨rfl, rfl, grown_more G2.out (grown_of_below B3.out)⟩
set_option maxRecDepth 100000 in
set_option maxHeartbeats 4000000 in
theorem val_gauss_ok (w : World) (pb : Nat) (s : List UInt8) (t : Tk) (q : Nat) (deep : Int) (hP : ParAt w pb s t q) (hs : s.length ≤ 1048576) (hat : AtTok s t) (hT : Tabs w) (hq : q + 1 ≤ 4096) (hd : deep ≤ 16) (ho : pb ≠ 2 ∧ pb ≠ 0) (hk : t.kind = 105) (v : Vl) (hv : v.items = []) (hm : gaussM t = .ok v) :
    Calls Tryz.prog 91 #[.pointer (some ⟨pb, 0, none⟩), .int .i64 deep] w fun e w' => e = .returned (.agg (vcells v (.slice none 0 0))) ∧ ParAt w' pb s (stepM s t) (q + 1) ∧ w.grownBy w' (some pb) := by
  have ht := hat.room
  have hpb := hP.lt
  obtain ⟨W, hW⟩ : ∃ W, w.alloc (.cells zcells 46) = W := ⟨_, rfl⟩
  obtain ⟨bW, zW, e1, e2, e3, e4, e5, e6, e7⟩ := val_start w pb s t q hP W hW
  have HS := hide (step_k _ pb s t (q + 1) (e3 0) hs ht (hT.grown e6 (by have := hT.room; omega) (by have := hT.room; omega)))
  have x1 := cells_at e2 1 _ rfl
  have x2 := cells_at e2 2 _ rfl
  have x3 := cells_at e2 3 _ rfl
  have x4 := cells_at e2 4 _ rfl
  have z4 := frozen_at e2 4
  have HE := hide (And.intro e4 (And.intro e5 (And.intro e6 e7)))
  have HTT := hide (fun (U : World) (g : w.grownBy U (some pb)) => hT.grown g ho.1.symm ho.2.symm)
  have hadd : IntKind.i64.wrap ((q : Int) + 1) = (q : Int) + 1 := by rw [IntKind.wrap_i64]; omega
  have hq1 : ¬ (4096 : Int) < (q : Int) + 1 := by omega
  have HB := hide (fun W => begins_yes t.kind (by rw [hk]; rfl) W)
  have hd' : ¬ (16 : Int) < deep := by omega
  have hts : t.text.size ≤ 1048576 := by omega
  have HAT := hide hat.step
  have HR := hide (gauss_room hat hk)
  have HM := hide hm
  generalize stepM s t = t2 at *
  obtain ⟨tk, to, tt⟩ := t
  simp only at hk
  subst hk
  obtain ⟨vk, vi, vm, vt, vl⟩ := v
  clear hP hT e1 e2 e3 e4 e5 e6 e7 hat hm ho
  go_enter Tryz.func91, Tryz.ntmps91
  go_wp2_with (first
    | (go_at_call 116; refine (HB.out _).mono ?_; clear HB; rintro e w1 ⟨rfl, rfl⟩)
    | (go_at_call 118; refine HS.out.mono ?_; clear HS; rintro e w2 ⟨rfl, p2, g2⟩; have hz2 := g2.size; rw [HE.out.2.2.2] at hz2; have f1 := (g2.block w.heap.size (by rw [HE.out.2.2.2]; omega) (by simp; omega)).trans HE.out.1; have f2 := (g2.block (w.heap.size + 1) (by rw [HE.out.2.2.2]; omega) (by simp; omega)).trans HE.out.2.1; have gg2 := grown_more HE.out.2.2.1 g2; have y0 := cells_at f2 0 _ rfl; have y1 := cells_at f2 1 _ rfl; have y2 := cells_at f2 2 _ rfl; have hnm := gauss_k2 w2 pb s t2 ⟨105, to, tt⟩ (q + 1) p2 hs (HTT.out _ gg2) hts HR.out; rw [HM.out] at hnm; have HNM : Hid (Calls Tryz.prog 123 #[.pointer (some ⟨pb, 0, none⟩), .agg (tcells ⟨105, to, tt⟩)] w2 fun e w' => e = .returned (.agg #[.int .i64 vk, .int .i64 vi, .int .i64 vm, .string vt, .slice none 0 0]) ∧ Below w2.heap.size w2 w') := hide hnm; clear hnm; have G2 := hide gg2; have P2 := hide p2; have F1 := hide f1; clear p2 g2 gg2 f1 f2)
    | (go_at_call 123; refine HNM.out.mono ?_; clear HNM; rintro e w8 ⟨rfl, b8⟩; have f8 := (b8.block _ (by omega)).trans F1.out; have P8 := hide (show ParAt w8 pb s t2 (q + 1) from (b8.block _ (by omega)).trans P2.out); have r0 := cells_at f8 0 _ rfl; have rz0 := frozen_at f8 0; have r1 := cells_at f8 1 _ rfl; have rz1 := frozen_at f8 1; have r2 := cells_at f8 2 _ rfl; have rz2 := frozen_at f8 2; have r3 := cells_at f8 3 _ rfl; have rz3 := frozen_at f8 3; have r4 := cells_at f8 4 _ rfl; have rz4 := frozen_at f8 4; have F8 := hide f8; have B8 := hide b8; clear b8 f8))
  have D := val_done vk vi vm vt (.slice none 0 0) F8.out P8.out (grown_more G2.out (grown_of_below B8.out)) hpb
  refine bodyPost_ret (results_cell_row rfl _ _ w.heap.size _ _ _ _ rfl D.1 Tryz.underlying46 rfl infoVal5) rfl ?_
  exact ⟨rfl, D.2.1, D.2.2.1⟩
set_option maxRecDepth 100000 in
set_option maxHeartbeats 4000000 in
theorem val_tuple_bad (w : World) (pb : Nat) (s : List UInt8) (t : Tk) (q : Nat) (deep : Int) (hP : ParAt w pb s t q) (hs : s.length ≤ 1048576) (hat : AtTok s t) (hT : Tabs w) (n : Nat) (hC : TupC s n) (hq : q + 1 ≤ 4096) (hdn : deep + (n : Int) = 16) (hd1 : 1 ≤ deep) (ho : pb ≠ 2 ∧ pb ≠ 0) (hk : t.kind = 40) (zc : Int) (zo : Nat) (hm : tupleM s (valM s n) (stepM s t) (q + 1) = .error (zc, zo)) :
    Calls Tryz.prog 91 #[.pointer (some ⟨pb, 0, none⟩), .int .i64 deep] w fun e w' => e = gaveIn s zc zo ∧ w.grownBy w' (some pb) := by
  have ht := hat.room
  have hpb := hP.lt
  obtain ⟨W, hW⟩ : ∃ W, w.alloc (.cells zcells 46) = W := ⟨_, rfl⟩
  obtain ⟨bW, zW, e1, e2, e3, e4, e5, e6, e7⟩ := val_start w pb s t q hP W hW
  have HS := hide (step_k _ pb s t (q + 1) (e3 0) hs ht (hT.grown e6 (by have := hT.room; omega) (by have := hT.room; omega)))
  have x1 := cells_at e2 1 _ rfl
  have x2 := cells_at e2 2 _ rfl
  have x3 := cells_at e2 3 _ rfl
  have x4 := cells_at e2 4 _ rfl
  have z4 := frozen_at e2 4
  have HE := hide (And.intro e4 (And.intro e5 (And.intro e6 e7)))
  have HTT := hide (fun (U : World) (g : w.grownBy U (some pb)) => hT.grown g ho.1.symm ho.2.symm)
  have hadd : IntKind.i64.wrap ((q : Int) + 1) = (q : Int) + 1 := by rw [IntKind.wrap_i64]; omega
  have hq1 : ¬ (4096 : Int) < (q : Int) + 1 := by omega
  have HB := hide (fun W => begins_yes t.kind (by rw [hk]; rfl) W)
  have hd' : ¬ (16 : Int) < deep := by omega
  have hts : t.text.size ≤ 1048576 := by omega
  have HAT := hide hat.step
  have HM := hide hm
  have HC := hide hC
  have HO := hide ho
  generalize stepM s t = t2 at *
  obtain ⟨tk, to, tt⟩ := t
  simp only at hk
  subst hk
  clear hP hT e1 e2 e3 e4 e5 e6 e7 hat hm ho hC
  go_enter Tryz.func91, Tryz.ntmps91
  go_wp2_with (first
    | (go_at_call 116; refine (HB.out _).mono ?_; clear HB; rintro e w1 ⟨rfl, rfl⟩)
    | (go_at_call 118; refine HS.out.mono ?_; clear HS; rintro e w2 ⟨rfl, p2, g2⟩; have hz2 := g2.size; rw [HE.out.2.2.2] at hz2; have f1 := (g2.block w.heap.size (by rw [HE.out.2.2.2]; omega) (by simp; omega)).trans HE.out.1; have f2 := (g2.block (w.heap.size + 1) (by rw [HE.out.2.2.2]; omega) (by simp; omega)).trans HE.out.2.1; have gg2 := grown_more HE.out.2.2.1 g2; have y0 := cells_at f2 0 _ rfl; have y1 := cells_at f2 1 _ rfl; have y2 := cells_at f2 2 _ rfl; have hnm := HC.out w2 pb t2 (q + 1) deep p2 HAT.out (HTT.out _ gg2) hq hdn hd1 HO.out; rw [HM.out] at hnm; have HNM : Hid (Calls Tryz.prog 119 #[.pointer (some ⟨pb, 0, none⟩), .int .i64 deep] w2 fun e w' => e = gaveIn s zc zo ∧ w2.grownBy w' (some pb)) := hide hnm; clear hnm; have G2 := hide gg2; have P2 := hide p2; have F1 := hide f1; clear p2 g2 gg2 f1 f2)
    | (go_at_call 119; refine HNM.out.mono ?_; clear HNM; rintro e w3 ⟨rfl, g3⟩; have G3 := hide g3; clear g3))
  exact ⟨rfl, rfl, grown_more G2.out G3.out⟩
set_option maxRecDepth 100000 in
set_option maxHeartbeats 4000000 in
theorem val_tuple_go (w : World) (pb : Nat) (s : List UInt8) (t : Tk) (q : Nat) (deep : Int) (hP : ParAt w pb s t q) (hs : s.length ≤ 1048576) (hat : AtTok s t) (hT : Tabs w) (n : Nat) (hC : TupC s n) (hq : q + 1 ≤ 4096) (hdn : deep + (n : Int) = 16) (hd1 : 1 ≤ deep) (ho : pb ≠ 2 ∧ pb ≠ 0) (hk : t.kind = 40) (l : List Vl) (t1 : Tk) (q1 : Nat) (hll : l.length ≤ 4096) (hm : tupleM s (valM s n) (stepM s t) (q + 1) = .ok (l, t1, q1)) :
    Calls Tryz.prog 91 #[.pointer (some ⟨pb, 0, none⟩), .int .i64 deep] w fun e w' => ∃ s', e = .returned (.agg (vcells ⟨5, 0, 0, ⟨#[]⟩, l⟩ s')) ∧ ItemsIn w' (fun b => w.heap.size ≤ b ∧ b < w'.heap.size) (n + 1) s' l ∧ ParAt w' pb s t1 q1 ∧ w.grownBy w' (some pb) := by
  have ht := hat.room
  have hpb := hP.lt
  obtain ⟨W, hW⟩ : ∃ W, w.alloc (.cells zcells 46) = W := ⟨_, rfl⟩
  obtain ⟨bW, zW, e1, e2, e3, e4, e5, e6, e7⟩ := val_start w pb s t q hP W hW
  have HS := hide (step_k _ pb s t (q + 1) (e3 0) hs ht (hT.grown e6 (by have := hT.room; omega) (by have := hT.room; omega)))
  have x1 := cells_at e2 1 _ rfl
  have x2 := cells_at e2 2 _ rfl
  have x3 := cells_at e2 3 _ rfl
  have x4 := cells_at e2 4 _ rfl
  have z4 := frozen_at e2 4
  have HE := hide (And.intro e4 (And.intro e5 (And.intro e6 e7)))
  have HTT := hide (fun (U : World) (g : w.grownBy U (some pb)) => hT.grown g ho.1.symm ho.2.symm)
  have hadd : IntKind.i64.wrap ((q : Int) + 1) = (q : Int) + 1 := by rw [IntKind.wrap_i64]; omega
  have hq1 : ¬ (4096 : Int) < (q : Int) + 1 := by omega
  have HB := hide (fun W => begins_yes t.kind (by rw [hk]; rfl) W)
  have hd' : ¬ (16 : Int) < deep := by omega
  have hts : t.text.size ≤ 1048576 := by omega
  have HAT := hide hat.step
  have HM := hide hm
  have HC := hide hC
  have HO := hide ho
  generalize stepM s t = t2 at *
  obtain ⟨tk, to, tt⟩ := t
  simp only at hk
  subst hk
  clear hP hT e1 e2 e3 e4 e5 e6 e7 hat hm ho hC
  go_enter Tryz.func91, Tryz.ntmps91
  go_wp2_with (first
    | (go_at_call 116; refine (HB.out _).mono ?_; clear HB; rintro e w1 ⟨rfl, rfl⟩)
    | (go_at_call 118; refine HS.out.mono ?_; clear HS; rintro e w2 ⟨rfl, p2, g2⟩; have hz2 := g2.size; rw [HE.out.2.2.2] at hz2; have f1 := (g2.block w.heap.size (by rw [HE.out.2.2.2]; omega) (by simp; omega)).trans HE.out.1; have f2 := (g2.block (w.heap.size + 1) (by rw [HE.out.2.2.2]; omega) (by simp; omega)).trans HE.out.2.1; have gg2 := grown_more HE.out.2.2.1 g2; have y0 := cells_at f2 0 _ rfl; have y1 := cells_at f2 1 _ rfl; have y2 := cells_at f2 2 _ rfl; have hnm := HC.out w2 pb t2 (q + 1) deep p2 HAT.out (HTT.out _ gg2) hq hdn hd1 HO.out; rw [HM.out] at hnm; have HNM : Hid (Calls Tryz.prog 119 #[.pointer (some ⟨pb, 0, none⟩), .int .i64 deep] w2 fun e w' => ∃ o, e = .returned o ∧ OwnAt w' w2.heap.size n o l ∧ ParAt w' pb s t1 q1 ∧ w2.grownBy w' (some pb)) := hide hnm; clear hnm; have G2 := hide gg2; have P2 := hide p2; have F1 := hide f1; clear p2 g2 gg2 f1 f2)
    | (go_at_call 119; refine HNM.out.mono ?_; clear HNM; rintro e w8 ⟨o8, rfl, o8', p8, g8⟩; obtain ⟨va, vc, rfl⟩ := o8'.len; have f8 := (g8.block w.heap.size (by omega) (by simp; omega)).trans F1.out; have P8 := hide p8; have r0 := cells_at f8 0 _ rfl; have rz0 := frozen_at f8 0; have r1 := cells_at f8 1 _ rfl; have rz1 := frozen_at f8 1; have r2 := cells_at f8 2 _ rfl; have rz2 := frozen_at f8 2; have r3 := cells_at f8 3 _ rfl; have rz3 := frozen_at f8 3; have r4 := cells_at f8 4 _ rfl; have rz4 := frozen_at f8 4; have F8 := hide f8; have O8 := hide (o8'.items (by unfold maxLen; omega)); have G8 := hide g8; clear o8' p8 g8 f8))
  have D := val_done 5 0 0 ⟨#[]⟩ (.slice va l.length vc) F8.out P8.out (grown_more G2.out G8.out) hpb
  refine bodyPost_ret (results_cell_row rfl _ _ w.heap.size _ _ _ _ rfl D.1 Tryz.underlying46 rfl infoVal5) rfl ?_
  exact ⟨_, rfl, O8.out.kept (fun b o hb => D.2.2.2 b o (by have := hb.1; omega)) (fun b hb => ⟨by have := hb.1; omega, by simpa [World.setCell] using hb.2⟩), D.2.1, D.2.2.1⟩
set_option maxRecDepth 100000 in
set_option maxHeartbeats 4000000 in
theorem val_list_bad (w : World) (pb : Nat) (s : List UInt8) (t : Tk) (q : Nat) (deep : Int) (hP : ParAt w pb s t q) (hs : s.length ≤ 1048576) (hat : AtTok s t) (hT : Tabs w) (n : Nat) (hC : ItemsC s n) (hq : q + 1 ≤ 4096) (hdn : deep + (n : Int) = 16) (hd1 : 1 ≤ deep) (ho : pb ≠ 2 ∧ pb ≠ 0) (hk : t.kind = 91) (zc : Int) (zo : Nat) (hm : itemsM s (valM s n) 93 (stepM s t) (q + 1) = .error (zc, zo)) :
    Calls Tryz.prog 91 #[.pointer (some ⟨pb, 0, none⟩), .int .i64 deep] w fun e w' => e = gaveIn s zc zo ∧ w.grownBy w' (some pb) := by
  have ht := hat.room
  have hpb := hP.lt
  obtain ⟨W, hW⟩ : ∃ W, w.alloc (.cells zcells 46) = W := ⟨_, rfl⟩
  obtain ⟨bW, zW, e1, e2, e3, e4, e5, e6, e7⟩ := val_start w pb s t q hP W hW
  have HS := hide (step_k _ pb s t (q + 1) (e3 0) hs ht (hT.grown e6 (by have := hT.room; omega) (by have := hT.room; omega)))
  have x1 := cells_at e2 1 _ rfl
  have x2 := cells_at e2 2 _ rfl
  have x3 := cells_at e2 3 _ rfl
  have x4 := cells_at e2 4 _ rfl
  have z4 := frozen_at e2 4
  have HE := hide (And.intro e4 (And.intro e5 (And.intro e6 e7)))
  have HTT := hide (fun (U : World) (g : w.grownBy U (some pb)) => hT.grown g ho.1.symm ho.2.symm)
  have hadd : IntKind.i64.wrap ((q : Int) + 1) = (q : Int) + 1 := by rw [IntKind.wrap_i64]; omega
  have hq1 : ¬ (4096 : Int) < (q : Int) + 1 := by omega
  have HB := hide (fun W => begins_yes t.kind (by rw [hk]; rfl) W)
  have hd' : ¬ (16 : Int) < deep := by omega
  have hts : t.text.size ≤ 1048576 := by omega
  have HAT := hide hat.step
  have HM := hide hm
  have HC := hide hC
  have HO := hide ho
  generalize stepM s t = t2 at *
  obtain ⟨tk, to, tt⟩ := t
  simp only at hk
  subst hk
  clear hP hT e1 e2 e3 e4 e5 e6 e7 hat hm ho hC
  go_enter Tryz.func91, Tryz.ntmps91
  go_wp2_with (first
    | (go_at_call 116; refine (HB.out _).mono ?_; clear HB; rintro e w1 ⟨rfl, rfl⟩)
    | (go_at_call 118; refine HS.out.mono ?_; clear HS; rintro e w2 ⟨rfl, p2, g2⟩; have hz2 := g2.size; rw [HE.out.2.2.2] at hz2; have f1 := (g2.block w.heap.size (by rw [HE.out.2.2.2]; omega) (by simp; omega)).trans HE.out.1; have f2 := (g2.block (w.heap.size + 1) (by rw [HE.out.2.2.2]; omega) (by simp; omega)).trans HE.out.2.1; have gg2 := grown_more HE.out.2.2.1 g2; have y0 := cells_at f2 0 _ rfl; have y1 := cells_at f2 1 _ rfl; have y2 := cells_at f2 2 _ rfl; have hnm := HC.out w2 pb t2 (q + 1) deep 93 p2 HAT.out (HTT.out _ gg2) hq hdn hd1 HO.out; rw [HM.out] at hnm; have HNM : Hid (Calls Tryz.prog 120 #[.pointer (some ⟨pb, 0, none⟩), .int .i32 93, .int .i64 deep] w2 fun e w' => e = gaveIn s zc zo ∧ w2.grownBy w' (some pb)) := hide hnm; clear hnm; have G2 := hide gg2; have P2 := hide p2; have F1 := hide f1; clear p2 g2 gg2 f1 f2)
    | (go_at_call 120; refine HNM.out.mono ?_; clear HNM; rintro e w3 ⟨rfl, g3⟩; have G3 := hide g3; clear g3))
  exact ⟨rfl, rfl, grown_more G2.out G3.out⟩
set_option maxRecDepth 100000 in
set_option maxHeartbeats 4000000 in
theorem val_list_go (w : World) (pb : Nat) (s : List UInt8) (t : Tk) (q : Nat) (deep : Int) (hP : ParAt w pb s t q) (hs : s.length ≤ 1048576) (hat : AtTok s t) (hT : Tabs w) (n : Nat) (hC : ItemsC s n) (hq : q + 1 ≤ 4096) (hdn : deep + (n : Int) = 16) (hd1 : 1 ≤ deep) (ho : pb ≠ 2 ∧ pb ≠ 0) (hk : t.kind = 91) (l : List Vl) (t1 : Tk) (q1 : Nat) (hll : l.length ≤ 4096) (hm : itemsM s (valM s n) 93 (stepM s t) (q + 1) = .ok (l, t1, q1)) :
    Calls Tryz.prog 91 #[.pointer (some ⟨pb, 0, none⟩), .int .i64 deep] w fun e w' => ∃ s', e = .returned (.agg (vcells ⟨6, 0, 0, ⟨#[]⟩, l⟩ s')) ∧ ItemsIn w' (fun b => w.heap.size ≤ b ∧ b < w'.heap.size) (n + 1) s' l ∧ ParAt w' pb s t1 q1 ∧ w.grownBy w' (some pb) := by
  have ht := hat.room
  have hpb := hP.lt
  obtain ⟨W, hW⟩ : ∃ W, w.alloc (.cells zcells 46) = W := ⟨_, rfl⟩
  obtain ⟨bW, zW, e1, e2, e3, e4, e5, e6, e7⟩ := val_start w pb s t q hP W hW
  have HS := hide (step_k _ pb s t (q + 1) (e3 0) hs ht (hT.grown e6 (by have := hT.room; omega) (by have := hT.room; omega)))
  have x1 := cells_at e2 1 _ rfl
  have x2 := cells_at e2 2 _ rfl
  have x3 := cells_at e2 3 _ rfl
  have x4 := cells_at e2 4 _ rfl
  have z4 := frozen_at e2 4
  have HE := hide (And.intro e4 (And.intro e5 (And.intro e6 e7)))
  have HTT := hide (fun (U : World) (g : w.grownBy U (some pb)) => hT.grown g ho.1.symm ho.2.symm)
  have hadd : IntKind.i64.wrap ((q : Int) + 1) = (q : Int) + 1 := by rw [IntKind.wrap_i64]; omega
  have hq1 : ¬ (4096 : Int) < (q : Int) + 1 := by omega
  have HB := hide (fun W => begins_yes t.kind (by rw [hk]; rfl) W)
  have hd' : ¬ (16 : Int) < deep := by omega
  have hts : t.text.size ≤ 1048576 := by omega
  have HAT := hide hat.step
  have HM := hide hm
  have HC := hide hC
  have HO := hide ho
  generalize stepM s t = t2 at *
  obtain ⟨tk, to, tt⟩ := t
  simp only at hk
  subst hk
  clear hP hT e1 e2 e3 e4 e5 e6 e7 hat hm ho hC
  go_enter Tryz.func91, Tryz.ntmps91
  go_wp2_with (first
    | (go_at_call 116; refine (HB.out _).mono ?_; clear HB; rintro e w1 ⟨rfl, rfl⟩)
    | (go_at_call 118; refine HS.out.mono ?_; clear HS; rintro e w2 ⟨rfl, p2, g2⟩; have hz2 := g2.size; rw [HE.out.2.2.2] at hz2; have f1 := (g2.block w.heap.size (by rw [HE.out.2.2.2]; omega) (by simp; omega)).trans HE.out.1; have f2 := (g2.block (w.heap.size + 1) (by rw [HE.out.2.2.2]; omega) (by simp; omega)).trans HE.out.2.1; have gg2 := grown_more HE.out.2.2.1 g2; have y0 := cells_at f2 0 _ rfl; have y1 := cells_at f2 1 _ rfl; have y2 := cells_at f2 2 _ rfl; have hnm := HC.out w2 pb t2 (q + 1) deep 93 p2 HAT.out (HTT.out _ gg2) hq hdn hd1 HO.out; rw [HM.out] at hnm; have HNM : Hid (Calls Tryz.prog 120 #[.pointer (some ⟨pb, 0, none⟩), .int .i32 93, .int .i64 deep] w2 fun e w' => ∃ o, e = .returned o ∧ OwnAt w' w2.heap.size n o l ∧ ParAt w' pb s t1 q1 ∧ w2.grownBy w' (some pb)) := hide hnm; clear hnm; have G2 := hide gg2; have P2 := hide p2; have F1 := hide f1; clear p2 g2 gg2 f1 f2)
    | (go_at_call 120; refine HNM.out.mono ?_; clear HNM; rintro e w8 ⟨o8, rfl, o8', p8, g8⟩; obtain ⟨va, vc, rfl⟩ := o8'.len; have f8 := (g8.block w.heap.size (by omega) (by simp; omega)).trans F1.out; have P8 := hide p8; have r0 := cells_at f8 0 _ rfl; have rz0 := frozen_at f8 0; have r1 := cells_at f8 1 _ rfl; have rz1 := frozen_at f8 1; have r2 := cells_at f8 2 _ rfl; have rz2 := frozen_at f8 2; have r3 := cells_at f8 3 _ rfl; have rz3 := frozen_at f8 3; have r4 := cells_at f8 4 _ rfl; have rz4 := frozen_at f8 4; have F8 := hide f8; have O8 := hide (o8'.items (by unfold maxLen; omega)); have G8 := hide g8; clear o8' p8 g8 f8))
  have D := val_done 6 0 0 ⟨#[]⟩ (.slice va l.length vc) F8.out P8.out (grown_more G2.out G8.out) hpb
  refine bodyPost_ret (results_cell_row rfl _ _ w.heap.size _ _ _ _ rfl D.1 Tryz.underlying46 rfl infoVal5) rfl ?_
  exact ⟨_, rfl, O8.out.kept (fun b o hb => D.2.2.2 b o (by have := hb.1; omega)) (fun b hb => ⟨by have := hb.1; omega, by simpa [World.setCell] using hb.2⟩), D.2.1, D.2.2.1⟩
set_option maxRecDepth 100000 in
set_option maxHeartbeats 4000000 in
theorem val_set_bad (w : World) (pb : Nat) (s : List UInt8) (t : Tk) (q : Nat) (deep : Int) (hP : ParAt w pb s t q) (hs : s.length ≤ 1048576) (hat : AtTok s t) (hT : Tabs w) (n : Nat) (hC : ItemsC s n) (hq : q + 1 ≤ 4096) (hdn : deep + (n : Int) = 16) (hd1 : 1 ≤ deep) (ho : pb ≠ 2 ∧ pb ≠ 0) (hk : t.kind = 123) (zc : Int) (zo : Nat) (hm : itemsM s (valM s n) 125 (stepM s t) (q + 1) = .error (zc, zo)) :
    Calls Tryz.prog 91 #[.pointer (some ⟨pb, 0, none⟩), .int .i64 deep] w fun e w' => e = gaveIn s zc zo ∧ w.grownBy w' (some pb) := by
  have ht := hat.room
  have hpb := hP.lt
  obtain ⟨W, hW⟩ : ∃ W, w.alloc (.cells zcells 46) = W := ⟨_, rfl⟩
  obtain ⟨bW, zW, e1, e2, e3, e4, e5, e6, e7⟩ := val_start w pb s t q hP W hW
  have HS := hide (step_k _ pb s t (q + 1) (e3 0) hs ht (hT.grown e6 (by have := hT.room; omega) (by have := hT.room; omega)))
  have x1 := cells_at e2 1 _ rfl
  have x2 := cells_at e2 2 _ rfl
  have x3 := cells_at e2 3 _ rfl
  have x4 := cells_at e2 4 _ rfl
  have z4 := frozen_at e2 4
  have HE := hide (And.intro e4 (And.intro e5 (And.intro e6 e7)))
  have HTT := hide (fun (U : World) (g : w.grownBy U (some pb)) => hT.grown g ho.1.symm ho.2.symm)
  have hadd : IntKind.i64.wrap ((q : Int) + 1) = (q : Int) + 1 := by rw [IntKind.wrap_i64]; omega
  have hq1 : ¬ (4096 : Int) < (q : Int) + 1 := by omega
  have HB := hide (fun W => begins_yes t.kind (by rw [hk]; rfl) W)
  have hd' : ¬ (16 : Int) < deep := by omega
  have hts : t.text.size ≤ 1048576 := by omega
  have HAT := hide hat.step
  have HM := hide hm
  have HC := hide hC
  have HO := hide ho
  generalize stepM s t = t2 at *
  obtain ⟨tk, to, tt⟩ := t
  simp only at hk
  subst hk
  clear hP hT e1 e2 e3 e4 e5 e6 e7 hat hm ho hC
  go_enter Tryz.func91, Tryz.ntmps91
  go_wp2_with (first
    | (go_at_call 116; refine (HB.out _).mono ?_; clear HB; rintro e w1 ⟨rfl, rfl⟩)
    | (go_at_call 118; refine HS.out.mono ?_; clear HS; rintro e w2 ⟨rfl, p2, g2⟩; have hz2 := g2.size; rw [HE.out.2.2.2] at hz2; have f1 := (g2.block w.heap.size (by rw [HE.out.2.2.2]; omega) (by simp; omega)).trans HE.out.1; have f2 := (g2.block (w.heap.size + 1) (by rw [HE.out.2.2.2]; omega) (by simp; omega)).trans HE.out.2.1; have gg2 := grown_more HE.out.2.2.1 g2; have y0 := cells_at f2 0 _ rfl; have y1 := cells_at f2 1 _ rfl; have y2 := cells_at f2 2 _ rfl; have hnm := HC.out w2 pb t2 (q + 1) deep 125 p2 HAT.out (HTT.out _ gg2) hq hdn hd1 HO.out; rw [HM.out] at hnm; have HNM : Hid (Calls Tryz.prog 120 #[.pointer (some ⟨pb, 0, none⟩), .int .i32 125, .int .i64 deep] w2 fun e w' => e = gaveIn s zc zo ∧ w2.grownBy w' (some pb)) := hide hnm; clear hnm; have G2 := hide gg2; have P2 := hide p2; have F1 := hide f1; clear p2 g2 gg2 f1 f2)
    | (go_at_call 120; refine HNM.out.mono ?_; clear HNM; rintro e w3 ⟨rfl, g3⟩; have G3 := hide g3; clear g3))
  exact ⟨rfl, rfl, grown_more G2.out G3.out⟩
set_option maxRecDepth 100000 in
set_option maxHeartbeats 4000000 in
theorem val_set_go (w : World) (pb : Nat) (s : List UInt8) (t : Tk) (q : Nat) (deep : Int) (hP : ParAt w pb s t q) (hs : s.length ≤ 1048576) (hat : AtTok s t) (hT : Tabs w) (n : Nat) (hC : ItemsC s n) (hq : q + 1 ≤ 4096) (hdn : deep + (n : Int) = 16) (hd1 : 1 ≤ deep) (ho : pb ≠ 2 ∧ pb ≠ 0) (hk : t.kind = 123) (l : List Vl) (t1 : Tk) (q1 : Nat) (hll : l.length ≤ 4096) (h0 : l ≠ [] → 0 < n) (hm : itemsM s (valM s n) 125 (stepM s t) (q + 1) = .ok (l, t1, q1)) :
    Calls Tryz.prog 91 #[.pointer (some ⟨pb, 0, none⟩), .int .i64 deep] w fun e w' => ∃ s', e = .returned (.agg (vcells ⟨7, 0, 0, ⟨#[]⟩, setV l⟩ s')) ∧ ItemsIn w' (fun b => w.heap.size ≤ b ∧ b < w'.heap.size) (n + 1) s' (setV l) ∧ ParAt w' pb s t1 q1 ∧ w.grownBy w' (some pb) := by
  have ht := hat.room
  have hpb := hP.lt
  obtain ⟨W, hW⟩ : ∃ W, w.alloc (.cells zcells 46) = W := ⟨_, rfl⟩
  obtain ⟨bW, zW, e1, e2, e3, e4, e5, e6, e7⟩ := val_start w pb s t q hP W hW
  have HS := hide (step_k _ pb s t (q + 1) (e3 0) hs ht (hT.grown e6 (by have := hT.room; omega) (by have := hT.room; omega)))
  have x1 := cells_at e2 1 _ rfl
  have x2 := cells_at e2 2 _ rfl
  have x3 := cells_at e2 3 _ rfl
  have x4 := cells_at e2 4 _ rfl
  have z4 := frozen_at e2 4
  have HE := hide (And.intro e4 (And.intro e5 (And.intro e6 e7)))
  have HTT := hide (fun (U : World) (g : w.grownBy U (some pb)) => hT.grown g ho.1.symm ho.2.symm)
  have hadd : IntKind.i64.wrap ((q : Int) + 1) = (q : Int) + 1 := by rw [IntKind.wrap_i64]; omega
  have hq1 : ¬ (4096 : Int) < (q : Int) + 1 := by omega
  have HB := hide (fun W => begins_yes t.kind (by rw [hk]; rfl) W)
  have hd' : ¬ (16 : Int) < deep := by omega
  have hts : t.text.size ≤ 1048576 := by omega
  have HAT := hide hat.step
  have HM := hide hm
  have HC := hide hC
  have HO := hide ho
  have H0 := hide h0
  generalize stepM s t = t2 at *
  obtain ⟨tk, to, tt⟩ := t
  simp only at hk
  subst hk
  clear hP hT e1 e2 e3 e4 e5 e6 e7 hat hm ho hC h0
  go_enter Tryz.func91, Tryz.ntmps91
  go_wp2_with (first
    | (go_at_call 116; refine (HB.out _).mono ?_; clear HB; rintro e w1 ⟨rfl, rfl⟩)
    | (go_at_call 118; refine HS.out.mono ?_; clear HS; rintro e w2 ⟨rfl, p2, g2⟩; have hz2 := g2.size; rw [HE.out.2.2.2] at hz2; have f1 := (g2.block w.heap.size (by rw [HE.out.2.2.2]; omega) (by simp; omega)).trans HE.out.1; have f2 := (g2.block (w.heap.size + 1) (by rw [HE.out.2.2.2]; omega) (by simp; omega)).trans HE.out.2.1; have gg2 := grown_more HE.out.2.2.1 g2; have y0 := cells_at f2 0 _ rfl; have y1 := cells_at f2 1 _ rfl; have y2 := cells_at f2 2 _ rfl; have hnm := HC.out w2 pb t2 (q + 1) deep 125 p2 HAT.out (HTT.out _ gg2) hq hdn hd1 HO.out; rw [HM.out] at hnm; have HNM : Hid (Calls Tryz.prog 120 #[.pointer (some ⟨pb, 0, none⟩), .int .i32 125, .int .i64 deep] w2 fun e w' => ∃ o, e = .returned o ∧ OwnAt w' w2.heap.size n o l ∧ ParAt w' pb s t1 q1 ∧ w2.grownBy w' (some pb)) := hide hnm; clear hnm; have G2 := hide gg2; have P2 := hide p2; have F1 := hide f1; clear p2 g2 gg2 f1 f2)
    | (go_at_call 120; refine HNM.out.mono ?_; clear HNM; rintro e w7 ⟨o7, rfl, o7', p7, g7⟩; have i7 := o7'.items (by unfold maxLen; omega); have HD := hide (distinct_in w7 w7.heap.size n (fun b => w2.heap.size ≤ b ∧ b < w7.heap.size) o7 l (fun b hb => hb.2) i7 H0.out (by omega) (Nat.le_refl _)); obtain ⟨va, vc, rfl⟩ := o7'.len; have hz7 := g7.size; have f7 := (g7.block w.heap.size (by omega) (by simp; omega)).trans F1.out; have F7 := hide f7; have G7 := hide g7; have P7 := hide p7; clear o7' p7 g7 f7 i7)
    | (go_at_call 121; refine HD.out.mono ?_; clear HD; rintro e w8 ⟨s8, rfl, i8, b8⟩; obtain ⟨sa8, sc8, rfl, _⟩ := i8.len; have f8 := (b8.block _ (by omega)).trans F7.out; have P8 := hide (show ParAt w8 pb s t1 q1 from (b8.block _ (by omega)).trans P7.out); have r0 := cells_at f8 0 _ rfl; have rz0 := frozen_at f8 0; have r1 := cells_at f8 1 _ rfl; have rz1 := frozen_at f8 1; have r2 := cells_at f8 2 _ rfl; have rz2 := frozen_at f8 2; have r3 := cells_at f8 3 _ rfl; have rz3 := frozen_at f8 3; have r4 := cells_at f8 4 _ rfl; have rz4 := frozen_at f8 4; have F8 := hide f8; have I8 := hide i8; have B8 := hide b8; clear i8 b8 f8))
  have D := val_done 7 0 0 ⟨#[]⟩ (.slice sa8 (setV l).length sc8) F8.out P8.out (grown_more G2.out (grown_more G7.out (grown_of_below B8.out))) hpb
  refine bodyPost_ret (results_cell_row rfl _ _ w.heap.size _ _ _ _ rfl D.1 Tryz.underlying46 rfl infoVal5) rfl ?_
  have hz8 := B8.out.size
  exact ⟨_, rfl, I8.out.kept (fun b o hb => D.2.2.2 b o (by omega)) (fun b hb => ⟨by omega, by simp only [World.setCell]; simpa using (show b < w8.heap.size by omega)⟩), D.2.1, D.2.2.1⟩
theorem nil_in (w : World) (S : Nat → Prop) (n : Nat) : ItemsIn w S (n + 1) (.slice none 0 0) [] := ⟨none, 0, rfl, by unfold maxLen; simp, fun j h => by simp at h⟩
theorem val_step {s : List UInt8} (hs : s.length ≤ 1048576) {n : Nat} (hC : ValC s n) : ValC s (n + 1) := by
  intro w pb t q deep hP hat hT hq hd hd1 ho
  have hM := more_step hs hC
  have hI := items_step hs hM
  have hU := tup_step hs hC hM
  have hfit := valM_fit s hs n
  have hlen : ∀ (l : List Vl) (k : Nat), (l.map Vl.size).sum + q + 1 ≤ k → k ≤ 4096 → l.length ≤ 4096 := fun l k h1 h2 => by
    have h : ∀ l : List Vl, l.length ≤ (l.map Vl.size).sum := fun l => by
      induction l with
      | nil => simp
      | cons x l ih => have := x.size_pos; simp; omega
    have := h l
    omega
  simp only [valM]
  cases hb : begins t.kind with
  | false =>
    rw [if_neg (by decide)]
    exact val_none w pb s t q deep hP hs hat hT hq hb
  | true =>
  rw [if_pos rfl]
  by_cases hq1 : 4096 < q + 1
  · rw [if_pos hq1]
    exact val_many w pb s t q deep hP hs hat hT hq hq1 hb
  rw [if_neg hq1]
  have hq2 : q + 1 ≤ 4096 := by omega
  have hdn : deep + (n : Int) = 16 := by omega
  by_cases k1 : t.kind = 40
  · rw [if_pos k1]
    cases e : tupleM s (valM s n) (stepM s t) (q + 1) with
    | error z =>
      obtain ⟨zc, zo⟩ := z
      exact val_tuple_bad w pb s t q deep hP hs hat hT n hU hq2 hdn hd1 ho k1 zc zo e
    | ok z =>
      obtain ⟨l, t1, q1⟩ := z
      obtain ⟨f1, f2, f3, f4, f5⟩ := tuple_fit hfit _ _ _ _ _ hat.step hq2 e
      exact val_tuple_go w pb s t q deep hP hs hat hT n hU hq2 hdn hd1 ho k1 l t1 q1 (hlen l q1 (by omega) f3) e
  rw [if_neg k1]
  by_cases k2 : t.kind = 91
  · rw [if_pos k2]
    cases e : itemsM s (valM s n) 93 (stepM s t) (q + 1) with
    | error z =>
      obtain ⟨zc, zo⟩ := z
      exact val_list_bad w pb s t q deep hP hs hat hT n hI hq2 hdn hd1 ho k2 zc zo e
    | ok z =>
      obtain ⟨l, t1, q1⟩ := z
      obtain ⟨f1, f2, f3, f4, f5⟩ := items_fit hfit _ _ _ _ _ _ hat.step hq2 e
      exact val_list_go w pb s t q deep hP hs hat hT n hI hq2 hdn hd1 ho k2 l t1 q1 (hlen l q1 (by omega) f3) e
  rw [if_neg k2]
  by_cases k3 : t.kind = 123
  · rw [if_pos k3]
    cases e : itemsM s (valM s n) 125 (stepM s t) (q + 1) with
    | error z =>
      obtain ⟨zc, zo⟩ := z
      exact val_set_bad w pb s t q deep hP hs hat hT n hI hq2 hdn hd1 ho k3 zc zo e
    | ok z =>
      obtain ⟨l, t1, q1⟩ := z
      obtain ⟨f1, f2, f3, f4, f5⟩ := items_fit hfit _ _ _ _ _ _ hat.step hq2 e
      refine val_set_go w pb s t q deep hP hs hat hT n hI hq2 hdn hd1 ho k3 l t1 q1 (hlen l q1 (by omega) f3) (fun hne => ?_) e
      cases n with
      | zero =>
        cases l with
        | nil => exact absurd rfl hne
        | cons x l => exact ((f4 x (by simp)).2.2).elim
      | succ n => omega
  rw [if_neg k3]
  by_cases k4 : t.kind = 97
  · rw [if_pos k4]
    cases e : nameM t with
    | error z =>
      obtain ⟨zc, zo⟩ := z
      exact val_name_no w pb s t q deep hP hs hat hT hq2 (by omega) ho k4 zc zo e
    | ok v =>
      have hv := (name_fit (by have := hat.room; omega) e).2.2
      refine (val_name_ok w pb s t q deep hP hs hat hT hq2 (by omega) ho k4 v hv e).mono ?_
      rintro e w' ⟨rfl, p, g⟩
      exact ⟨_, rfl, by rw [hv]; exact nil_in _ _ _, p, g⟩
  rw [if_neg k4]
  by_cases k5 : t.kind = 105
  · rw [if_pos k5]
    cases e : gaussM t with
    | error z =>
      obtain ⟨zc, zo⟩ := z
      exact val_gauss_no w pb s t q deep hP hs hat hT hq2 (by omega) ho k5 zc zo e
    | ok v =>
      have hv := (gauss_fit e).2.2
      refine (val_gauss_ok w pb s t q deep hP hs hat hT hq2 (by omega) ho k5 v hv e).mono ?_
      rintro e w' ⟨rfl, p, g⟩
      exact ⟨_, rfl, by rw [hv]; exact nil_in _ _ _, p, g⟩
  rw [if_neg k5]
  have k6 : t.kind = 48 := by
    simp only [begins, Bool.or_eq_true, beq_iff_eq] at hb
    omega
  by_cases hn : numE t.text.data.toList = 0
  · rw [if_neg (by simpa using hn)]
    refine (val_num w pb s t q deep hP hs hat.room hT hq2 (by omega) ho k6 hn).mono ?_
    rintro e w' ⟨rfl, p, g⟩
    exact ⟨.slice none 0 0, rfl, nil_in _ _ _, p, g⟩
  · rw [if_pos (by simpa using hn)]
    exact val_num_no w pb s t q deep hP hs hat hT hq2 (by omega) ho k6 hn
theorem val_zero {s : List UInt8} (hs : s.length ≤ 1048576) : ValC s 0 := by
  intro w pb t q deep hP hat hT hq hd hd1 ho
  simp only [valM]
  cases hb : begins t.kind with
  | false =>
    rw [if_neg (by decide)]
    exact val_none w pb s t q deep hP hs hat hT hq hb
  | true =>
    rw [if_pos rfl]
    by_cases hq1 : 4096 < q + 1
    · exact val_many w pb s t q deep hP hs hat hT hq hq1 hb
    · exact val_deep w pb s t q deep hP hs hat hT (by omega) (by omega) hb
theorem val_all {s : List UInt8} (hs : s.length ≤ 1048576) : ∀ n, ValC s n
  | 0 => val_zero hs
  | n + 1 => val_step hs (val_all hs n)
end Go.Proofs.YthmhcpghfbifiaaGreatDoor

/- Parse in general. -/
namespace Go.Proofs.YthmhcpghfbifiaaGreatDoor
open Go.RowKit

set_option maxRecDepth 100000 in
set_option maxHeartbeats 4000000 in
theorem parse_ok (w : World) (s : List UInt8) (v : Vl) (u : Tk) (q1 : Nat) (hs : s.length ≤ 1048576) (hT : Tabs w) (hv : valM s 16 (cutM s 0) 0 = .ok (v, u, q1)) (hu : u.kind = -1) :
    Calls Tryz.prog 68 #[.string (str s)] w fun e w' => ∃ s', e = .returned (.tuple #[.agg (vcells v s'), .agg fz]) ∧ ItemsIn w' (fun b => w.heap.size ≤ b ∧ b < w'.heap.size) 16 s' v.items ∧ Below w.heap.size w w' := by
  have hmf : ∀ (fn : Fn) (first cap : Array Value) (w : World), (Instr.makeFunc fn first cap).run Tryz.prog w = .ok (.func fn first cap) w := fun _ _ _ _ => rfl
  obtain ⟨W, hW⟩ : ∃ W, (w.alloc (.cells zcells 46)).alloc (.cells fz 34) = W := ⟨_, rfl⟩
  obtain ⟨bW, zW, e0, e1⟩ := par_start w W hW
  have hat : AtTok s (cutM s 0) := ⟨0, Nat.zero_le _, rfl⟩
  have HC := hide (cut_k s 0 (Nat.zero_le _) hs W (hT.below bW))
  have HV := hide (fun (w2 : World) (pb : Nat) (hP : ParAt w2 pb s (cutM s 0) 0) (b : Below w.heap.size w w2) (hpb : w.heap.size ≤ pb) => val_all hs 16 w2 pb (cutM s 0) 0 1 hP hat (hT.below b) (by omega) (by decide) (by decide) ⟨by have := hT.room; omega, by have := hT.room; omega⟩)
  rw [hv] at HV
  have HV : Hid (∀ (w2 : World) (pb : Nat), ParAt w2 pb s (cutM s 0) 0 → Below w.heap.size w w2 → w.heap.size ≤ pb → Calls Tryz.prog 91 #[.pointer (some ⟨pb, 0, none⟩), .int .i64 1] w2 fun e w' => ∃ s', e = .returned (.agg (vcells v s')) ∧ ItemsIn w' (fun b => w2.heap.size ≤ b ∧ b < w'.heap.size) 16 s' v.items ∧ ParAt w' pb s u q1 ∧ w2.grownBy w' (some pb)) := HV
  have HAT := hide (valM_fit s hs 16 _ _ _ _ _ hat (by omega) hv).1
  have HT := hide hT
  have HU := hide hu
  have HE := hide (And.intro e0 e1)
  obtain ⟨vk, vi, vm, vt, vl⟩ := v
  clear e0 e1 hT hv hu hat
  generalize cutM s 0 = t0 at *
  obtain ⟨tk, to, tt⟩ := t0
  go_enter_defers Tryz.func68, Tryz.ntmps68
  go_wp2_with (first
    | (go_at_call 90; refine HC.out.mono ?_; clear HC; rintro e w1 ⟨rfl, b1⟩; have hz1 := b1.size; have bw1 := trans_v bW b1; have f0 := (b1.block w.heap.size (by omega)).trans HE.out.1; have f1 := (b1.block (w.heap.size + 1) (by omega)).trans HE.out.2; have HVV := hide (HV.out (w1.alloc (.cells #[.string (str s), .int .i32 tk, .int .i64 to, .string tt, .int .i64 0] 151)) w1.heap.size (World.alloc_heap_new w1 _) (alloc_v bw1 _) bw1.size); have F0 := hide ((Below.heap_alloc w1 (.cells #[.string (str s), .int .i32 tk, .int .i64 to, .string tt, .int .i64 0] 151) _ (by omega)).trans f0); have F1 := hide ((Below.heap_alloc w1 (.cells #[.string (str s), .int .i32 tk, .int .i64 to, .string tt, .int .i64 0] 151) _ (by omega)).trans f1); have BW1 := hide bw1; clear b1 bw1 f0 f1 HV)
    | (go_at_call 91; refine HVV.out.mono ?_; clear HVV; rintro e w7 ⟨s7, rfl, i7, p7, g7⟩; have hz7 := g7.size; rw [World.size_alloc] at hz7; obtain ⟨sa, sc, rfl, _⟩ := i7.len; have k0 := (g7.block w.heap.size (by rw [World.size_alloc]; omega) (by simp; omega)).trans F0.out; have k1 := (g7.block (w.heap.size + 1) (by rw [World.size_alloc]; omega) (by simp; omega)).trans F1.out; have r0 := cells_at k0 0 _ rfl; have rz0 := frozen_at k0 0; have r1 := cells_at k0 1 _ rfl; have rz1 := frozen_at k0 1; have r2 := cells_at k0 2 _ rfl; have rz2 := frozen_at k0 2; have r3 := cells_at k0 3 _ rfl; have rz3 := frozen_at k0 3; have r4 := cells_at k0 4 _ rfl; have rz4 := frozen_at k0 4; have b7 := below_of_grown (grown_more (grown_of_below (alloc_v BW1.out _)) g7) BW1.out.size; have st := stored w w7 vk vi vm vt (.slice sa vl.length sc) zcells w.heap.size (Nat.le_refl _) b7 rfl k0; have HX := hide (expect_yes _ w1.heap.size s u q1 ((stored_block w7 w.heap.size w1.heap.size (.int .i64 vk) (.int .i64 vi) (.int .i64 vm) (.string vt) (.slice sa vl.length sc) (by omega)).trans p7) hs HAT.out.room (HT.out.below st.2) (-1) HU.out); have ST := hide st; have K1 := hide k1; have I7 := hide i7; have G7 := hide g7; have hzz := hz7; clear i7 p7 g7 k0 k1 st b7)
    | (go_at_call 92; refine HX.out.mono ?_; clear HX; rintro e w9 ⟨rfl, p9, g9⟩; have hzs := g9.size; have j0 := (g9.block w.heap.size (by simp [World.setCell]; omega) (by simp; omega)).trans ST.out.1; have j1 := (g9.block (w.heap.size + 1) (by simp [World.setCell]; omega) (by simp; omega)).trans ((stored_block w7 w.heap.size (w.heap.size + 1) _ _ _ _ _ (by omega)).trans K1.out); have m0 := cells_at j0 0 _ rfl; have mz0 := frozen_at j0 0; have m1 := cells_at j0 1 _ rfl; have mz1 := frozen_at j0 1; have m2 := cells_at j0 2 _ rfl; have mz2 := frozen_at j0 2; have m3 := cells_at j0 3 _ rfl; have mz3 := frozen_at j0 3; have m4 := cells_at j0 4 _ rfl; have mz4 := frozen_at j0 4; have n0 := cells_at j1 0 _ rfl; have nz0 := frozen_at j1 0; have n1 := cells_at j1 1 _ rfl; have nz1 := frozen_at j1 1; have n2 := cells_at j1 2 _ rfl; have nz2 := frozen_at j1 2; have n3 := cells_at j1 3 _ rfl; have nz3 := frozen_at j1 3; have J0 := hide j0; have J1 := hide j1; have G9 := hide g9; clear p9 g9 j0 j1 r0 r1 r2 r3 r4 rz0 rz1 rz2 rz3 rz4))
  refine leaves_cons (f := 89) (args := #[.pointer (some ⟨w.heap.size, 0, none⟩), .pointer (some ⟨w.heap.size + 1, 0, none⟩)]) (by simp) (by simp [go_sem]) ?_
  refine (parIdle _ _ _).mono ?_
  rintro e u' w4 ⟨rfl, rfl, rfl⟩
  have bw9 : Below w.heap.size w w9 := below_of_grown (grown_more (grown_of_below ST.out.2) G9.out) BW1.out.size
  have E := two_end w w9 w.heap.size (w.heap.size + 1) (by omega) (Nat.le_refl _) (by omega) bw9 (.int .i64 vk) (.int .i64 vi) (.int .i64 vm) (.string vt) (.slice sa vl.length sc) (.int .i64 0) (.int .i64 0) (.int .i64 0) (.int .i64 0) _ _ rfl rfl J0.out J1.out _ rfl
  generalize (((((((((w9.setCell ⟨w.heap.size, 0, none⟩ (.int .i64 vk)).setCell ⟨w.heap.size, 1, none⟩ (.int .i64 vi)).setCell ⟨w.heap.size, 2, none⟩ (.int .i64 vm)).setCell ⟨w.heap.size, 3, none⟩ (.string vt)).setCell ⟨w.heap.size, 4, none⟩ (.slice sa vl.length sc)).setCell ⟨w.heap.size + 1, 0, none⟩ (.int .i64 0)).setCell ⟨w.heap.size + 1, 1, none⟩ (.int .i64 0)).setCell ⟨w.heap.size + 1, 2, none⟩ (.int .i64 0)).setCell ⟨w.heap.size + 1, 3, none⟩ (.int .i64 0)) = Y at E ⊢
  refine ⟨_, results2 (t0 := 46) (t1 := 34) rfl _ _ ⟨w.heap.size, 0, none⟩ ⟨w.heap.size + 1, 0, none⟩ (.agg #[.int .i64 vk, .int .i64 vi, .int .i64 vm, .string vt, .slice sa vl.length sc]) (.agg fz) rfl rfl (load_val rfl E.1) (load_fault rfl E.2.1), .slice sa vl.length sc, rfl, ?_, E.2.2.2.2⟩
  have hzX : w7.heap.size ≤ w9.heap.size := by simpa [World.setCell] using hzs
  refine I7.out.kept (fun b o hb => ?_) (fun b hb => ⟨?_, ?_⟩)
  · have hb1 := hb.1
    rw [World.size_alloc] at hb1
    refine (World.cell?_of_block (E.2.2.2.1 b (by omega) (by omega))).trans ((World.cell?_of_block (G9.out.block b (by simpa [World.setCell] using hb.2) (by simp; omega))).trans (stored_cell2 _ _ _ _ _ _ _ _ _ (by omega)))
  · have hb1 := hb.1
    rw [World.size_alloc] at hb1
    omega
  · rw [E.2.2.1]
    exact Nat.lt_of_lt_of_le hb.2 hzX
set_option maxRecDepth 100000 in
set_option maxHeartbeats 4000000 in
theorem parse_bad (w : World) (s : List UInt8) (c : Int) (o : Nat) (hs : s.length ≤ 1048576) (hT : Tabs w) (hv : valM s 16 (cutM s 0) 0 = .error (c, o)) :
    Calls Tryz.prog 68 #[.string (str s)] w fun e w' => e = .returned (.tuple #[.agg zcells, .agg #[.int .i64 c, .int .i64 (clamp (str s) o : Nat), .int .i64 (atR (clamp (str s) o) 0 1 1 (ru s)).1, .int .i64 (atR (clamp (str s) o) 0 1 1 (ru s)).2]]) ∧ Below w.heap.size w w' := by
  have hmf : ∀ (fn : Fn) (first cap : Array Value) (w : World), (Instr.makeFunc fn first cap).run Tryz.prog w = .ok (.func fn first cap) w := fun _ _ _ _ => rfl
  obtain ⟨W, hW⟩ : ∃ W, (w.alloc (.cells zcells 46)).alloc (.cells fz 34) = W := ⟨_, rfl⟩
  obtain ⟨bW, zW, e0, e1⟩ := par_start w W hW
  have hat : AtTok s (cutM s 0) := ⟨0, Nat.zero_le _, rfl⟩
  have HC := hide (cut_k s 0 (Nat.zero_le _) hs W (hT.below bW))
  have HV := hide (fun (w2 : World) (pb : Nat) (hP : ParAt w2 pb s (cutM s 0) 0) (b : Below w.heap.size w w2) (hpb : w.heap.size ≤ pb) => val_all hs 16 w2 pb (cutM s 0) 0 1 hP hat (hT.below b) (by omega) (by decide) (by decide) ⟨by have := hT.room; omega, by have := hT.room; omega⟩)
  rw [hv] at HV
  have HV : Hid (∀ (w2 : World) (pb : Nat), ParAt w2 pb s (cutM s 0) 0 → Below w.heap.size w w2 → w.heap.size ≤ pb → Calls Tryz.prog 91 #[.pointer (some ⟨pb, 0, none⟩), .int .i64 1] w2 fun e w' => e = gaveIn s c o ∧ w2.grownBy w' (some pb)) := HV
  have HE := hide (And.intro e0 e1)
  clear e0 e1 hT hv hat
  generalize cutM s 0 = t0 at *
  obtain ⟨tk, to, tt⟩ := t0
  go_enter_defers Tryz.func68, Tryz.ntmps68
  go_wp2_with (first
    | (go_at_call 90; refine HC.out.mono ?_; clear HC; rintro e w1 ⟨rfl, b1⟩; have hz1 := b1.size; have bw1 := trans_v bW b1; have f0 := (b1.block w.heap.size (by omega)).trans HE.out.1; have f1 := (b1.block (w.heap.size + 1) (by omega)).trans HE.out.2; have HVV := hide (HV.out (w1.alloc (.cells #[.string (str s), .int .i32 tk, .int .i64 to, .string tt, .int .i64 0] 151)) w1.heap.size (World.alloc_heap_new w1 _) (alloc_v bw1 _) bw1.size); have F0 := hide ((Below.heap_alloc w1 (.cells #[.string (str s), .int .i32 tk, .int .i64 to, .string tt, .int .i64 0] 151) _ (by omega)).trans f0); have F1 := hide ((Below.heap_alloc w1 (.cells #[.string (str s), .int .i32 tk, .int .i64 to, .string tt, .int .i64 0] 151) _ (by omega)).trans f1); have BW1 := hide bw1; clear b1 bw1 f0 f1 HV)
    | (go_at_call 91; refine HVV.out.mono ?_; clear HVV; rintro e w7 ⟨rfl, g7⟩; have hz7 := g7.size; rw [World.size_alloc] at hz7; have K0 := hide ((g7.block w.heap.size (by rw [World.size_alloc]; omega) (by simp; omega)).trans F0.out); have K1 := hide ((g7.block (w.heap.size + 1) (by rw [World.size_alloc]; omega) (by simp; omega)).trans F1.out); have B7 := hide (below_of_grown (grown_more (grown_of_below (alloc_v BW1.out _)) g7) BW1.out.size); clear g7))
  refine leaves_cons (f := 89) (args := #[.pointer (some ⟨w.heap.size, 0, none⟩), .pointer (some ⟨w.heap.size + 1, 0, none⟩)]) (by simp) (by simp [go_sem]) ?_
  refine (parCatch w.heap.size (w.heap.size + 1) w7 c (clamp (str s) o : Nat) (atR (clamp (str s) o) 0 1 1 (ru s)).1 (atR (clamp (str s) o) 0 1 1 (ru s)).2 (by omega) ⟨_, rfl, K0.out⟩ ⟨_, rfl, K1.out⟩).mono ?_
  rintro e u' w9 ⟨rfl, rfl, q1, q2, q3, q4, q5, q6, q7⟩
  refine ⟨_, results2 (t0 := 46) (t1 := 34) rfl _ _ ⟨w.heap.size, 0, none⟩ ⟨w.heap.size + 1, 0, none⟩ (.agg zcells) (.agg #[.int .i64 c, .int .i64 (clamp (str s) o : Nat), .int .i64 (atR (clamp (str s) o) 0 1 1 (ru s)).1, .int .i64 (atR (clamp (str s) o) 0 1 1 (ru s)).2]) rfl rfl (load_val rfl q1) (load_fault rfl q2), rfl, ?_⟩
  exact ⟨q5.trans B7.out.os, q6.trans B7.out.tape, q7.trans B7.out.output, by rw [q3]; exact B7.out.size, fun k hk => (q4 k (by omega) (by omega)).trans (B7.out.block k hk)⟩
set_option maxRecDepth 100000 in
set_option maxHeartbeats 4000000 in
theorem parse_end (w : World) (s : List UInt8) (v : Vl) (u : Tk) (q1 : Nat) (hs : s.length ≤ 1048576) (hT : Tabs w) (hv : valM s 16 (cutM s 0) 0 = .ok (v, u, q1)) (hu : ¬ u.kind = -1) :
    Calls Tryz.prog 68 #[.string (str s)] w fun e w' => e = .returned (.tuple #[.agg zcells, .agg #[.int .i64 41, .int .i64 (clamp (str s) u.off : Nat), .int .i64 (atR (clamp (str s) u.off) 0 1 1 (ru s)).1, .int .i64 (atR (clamp (str s) u.off) 0 1 1 (ru s)).2]]) ∧ Below w.heap.size w w' := by
  have hmf : ∀ (fn : Fn) (first cap : Array Value) (w : World), (Instr.makeFunc fn first cap).run Tryz.prog w = .ok (.func fn first cap) w := fun _ _ _ _ => rfl
  obtain ⟨W, hW⟩ : ∃ W, (w.alloc (.cells zcells 46)).alloc (.cells fz 34) = W := ⟨_, rfl⟩
  obtain ⟨bW, zW, e0, e1⟩ := par_start w W hW
  have hat : AtTok s (cutM s 0) := ⟨0, Nat.zero_le _, rfl⟩
  have HC := hide (cut_k s 0 (Nat.zero_le _) hs W (hT.below bW))
  have HV := hide (fun (w2 : World) (pb : Nat) (hP : ParAt w2 pb s (cutM s 0) 0) (b : Below w.heap.size w w2) (hpb : w.heap.size ≤ pb) => val_all hs 16 w2 pb (cutM s 0) 0 1 hP hat (hT.below b) (by omega) (by decide) (by decide) ⟨by have := hT.room; omega, by have := hT.room; omega⟩)
  rw [hv] at HV
  have HV : Hid (∀ (w2 : World) (pb : Nat), ParAt w2 pb s (cutM s 0) 0 → Below w.heap.size w w2 → w.heap.size ≤ pb → Calls Tryz.prog 91 #[.pointer (some ⟨pb, 0, none⟩), .int .i64 1] w2 fun e w' => ∃ s', e = .returned (.agg (vcells v s')) ∧ ItemsIn w' (fun b => w2.heap.size ≤ b ∧ b < w'.heap.size) 16 s' v.items ∧ ParAt w' pb s u q1 ∧ w2.grownBy w' (some pb)) := HV
  have HAT := hide (valM_fit s hs 16 _ _ _ _ _ hat (by omega) hv).1
  have HT := hide hT
  have HU := hide hu
  have HE := hide (And.intro e0 e1)
  obtain ⟨vk, vi, vm, vt, vl⟩ := v
  clear e0 e1 hT hv hu hat
  generalize cutM s 0 = t0 at *
  obtain ⟨tk, to, tt⟩ := t0
  go_enter_defers Tryz.func68, Tryz.ntmps68
  go_wp2_with (first
    | (go_at_call 90; refine HC.out.mono ?_; clear HC; rintro e w1 ⟨rfl, b1⟩; have hz1 := b1.size; have bw1 := trans_v bW b1; have f0 := (b1.block w.heap.size (by omega)).trans HE.out.1; have f1 := (b1.block (w.heap.size + 1) (by omega)).trans HE.out.2; have HVV := hide (HV.out (w1.alloc (.cells #[.string (str s), .int .i32 tk, .int .i64 to, .string tt, .int .i64 0] 151)) w1.heap.size (World.alloc_heap_new w1 _) (alloc_v bw1 _) bw1.size); have F0 := hide ((Below.heap_alloc w1 (.cells #[.string (str s), .int .i32 tk, .int .i64 to, .string tt, .int .i64 0] 151) _ (by omega)).trans f0); have F1 := hide ((Below.heap_alloc w1 (.cells #[.string (str s), .int .i32 tk, .int .i64 to, .string tt, .int .i64 0] 151) _ (by omega)).trans f1); have BW1 := hide bw1; clear b1 bw1 f0 f1 HV)
    | (go_at_call 91; refine HVV.out.mono ?_; clear HVV; rintro e w7 ⟨s7, rfl, i7, p7, g7⟩; have hz7 := g7.size; rw [World.size_alloc] at hz7; obtain ⟨sa, sc, rfl, _⟩ := i7.len; have k0 := (g7.block w.heap.size (by rw [World.size_alloc]; omega) (by simp; omega)).trans F0.out; have k1 := (g7.block (w.heap.size + 1) (by rw [World.size_alloc]; omega) (by simp; omega)).trans F1.out; have r0 := cells_at k0 0 _ rfl; have rz0 := frozen_at k0 0; have r1 := cells_at k0 1 _ rfl; have rz1 := frozen_at k0 1; have r2 := cells_at k0 2 _ rfl; have rz2 := frozen_at k0 2; have r3 := cells_at k0 3 _ rfl; have rz3 := frozen_at k0 3; have r4 := cells_at k0 4 _ rfl; have rz4 := frozen_at k0 4; have b7 := below_of_grown (grown_more (grown_of_below (alloc_v BW1.out _)) g7) BW1.out.size; have st := stored w w7 vk vi vm vt (.slice sa vl.length sc) zcells w.heap.size (Nat.le_refl _) b7 rfl k0; have HX := hide (expect_no _ w1.heap.size s u q1 ((stored_block w7 w.heap.size w1.heap.size (.int .i64 vk) (.int .i64 vi) (.int .i64 vm) (.string vt) (.slice sa vl.length sc) (by omega)).trans p7) hs (-1) HU.out); have ST := hide st; have K1 := hide k1; have I7 := hide i7; have G7 := hide g7; have hzz := hz7; clear i7 p7 g7 k0 k1 st b7)
    | (go_at_call 92; refine HX.out.mono ?_; clear HX; rintro e w9 ⟨rfl, b9⟩; have K0 := hide ((b9.block w.heap.size (by simp [World.setCell]; omega)).trans ST.out.1); have K2 := hide ((b9.block (w.heap.size + 1) (by simp [World.setCell]; omega)).trans ((stored_block w7 w.heap.size (w.heap.size + 1) _ _ _ _ _ (by omega)).trans K1.out)); have B9 := hide b9; clear b9 r0 r1 r2 r3 r4 rz0 rz1 rz2 rz3 rz4))
  refine leaves_cons (f := 89) (args := #[.pointer (some ⟨w.heap.size, 0, none⟩), .pointer (some ⟨w.heap.size + 1, 0, none⟩)]) (by simp) (by simp [go_sem]) ?_
  have bw9 : Below w.heap.size w w9 := trans_v ST.out.2 B9.out
  refine (parCatch w.heap.size (w.heap.size + 1) w9 41 (clamp (str s) u.off : Nat) (atR (clamp (str s) u.off) 0 1 1 (ru s)).1 (atR (clamp (str s) u.off) 0 1 1 (ru s)).2 (by omega) ⟨_, rfl, K0.out⟩ ⟨_, rfl, K2.out⟩).mono ?_
  rintro e u' w11 ⟨rfl, rfl, q1, q2, q3, q4, q5, q6, q7⟩
  refine ⟨_, results2 (t0 := 46) (t1 := 34) rfl _ _ ⟨w.heap.size, 0, none⟩ ⟨w.heap.size + 1, 0, none⟩ (.agg zcells) (.agg #[.int .i64 41, .int .i64 (clamp (str s) u.off : Nat), .int .i64 (atR (clamp (str s) u.off) 0 1 1 (ru s)).1, .int .i64 (atR (clamp (str s) u.off) 0 1 1 (ru s)).2]) rfl rfl (load_val rfl q1) (load_fault rfl q2), rfl, ?_⟩
  exact ⟨q5.trans bw9.os, q6.trans bw9.tape, q7.trans bw9.output, by rw [q3]; exact bw9.size, fun k hk => (q4 k (by omega) (by omega)).trans (bw9.block k hk)⟩
/-- The cells of a fault. -/
abbrev fcells (s : List UInt8) (c : Int) (o : Nat) : Array Value := #[.int .i64 c, .int .i64 (clamp (str s) o : Nat), .int .i64 (atR (clamp (str s) o) 0 1 1 (ru s)).1, .int .i64 (atR (clamp (str s) o) 0 1 1 (ru s)).2]
/-- What Parse comes to. -/
def ParR (w : World) (s : List UInt8) (e : Ending) (w' : World) : Prop := match parM s with
  | .ok v => (∃ s', e = .returned (.tuple #[.agg (vcells v s'), .agg fz]) ∧ ItemsIn w' (fun b => w.heap.size ≤ b ∧ b < w'.heap.size) 16 s' v.items) ∧ Below w.heap.size w w'
  | .error (c, o) => e = .returned (.tuple #[.agg zcells, .agg (fcells s c o)]) ∧ Below w.heap.size w w'
theorem parse_k (w : World) (s : List UInt8) (hs : s.length ≤ 1048576) (hT : Tabs w) : Calls Tryz.prog 68 #[.string (str s)] w fun e w' => ParR w s e w' := by
  unfold ParR parM
  cases hv : valM s 16 (cutM s 0) 0 with
  | error z =>
    obtain ⟨c, o⟩ := z
    exact parse_bad w s c o hs hT hv
  | ok z =>
    obtain ⟨v, u, q1⟩ := z
    simp only
    by_cases hu : u.kind = -1
    · rw [if_pos hu]
      refine (parse_ok w s v u q1 hs hT hv hu).mono ?_
      rintro e w' ⟨s', he, hi, hb⟩
      exact ⟨⟨s', he, hi⟩, hb⟩
    · rw [if_neg hu]
      exact parse_end w s v u q1 hs hT hv hu
end Go.Proofs.YthmhcpghfbifiaaGreatDoor
