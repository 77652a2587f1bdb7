/- The decoder's head, where it gives up. -/
import Derived.Test.YthmhcpghfbifiaaGreatDoorGE3
import Derived.Deep.RegionHeld
import Derived.StillTail
import Derived.Test.YthmhcpghfbifiaaGreatDoorGE4
import Derived.Test.YthmhcpghfbifiaaGreatDoorZVParse
namespace Go.Proofs.YthmhcpghfbifiaaGreatDoor
open Go.RowKit

set_option maxRecDepth 100000 in
set_option maxHeartbeats 4000000 in
theorem head_none (w : World) (db B : Nat) (sl : Value) (l : List UInt8) (p q : Nat) (hD : DecAt w db sl p q) (hB : BytesIn w 0 B sl l) (hb : B ≤ db) (hp : p ≤ l.length) (hl : l.length ≤ 1000000000000) (hs : seen l p = [])  :
    Calls Tryz.prog 136 #[.pointer (some ⟨db, 0, none⟩)] w fun e w' => e = gaveUp ∧ Below w.heap.size w w' := by
  obtain ⟨a, c, rfl, hlc, hcm, _⟩ := id hB
  obtain ⟨a1, c1, hsl, hbs⟩ := seen_slice w B a c l p hp hl hB
  have hdb : db < w.heap.size := (Array.getElem?_eq_some_iff.1 hD).1
  obtain ⟨W, hW⟩ : ∃ W, w.alloc (.cells zcells 46) = W := ⟨_, rfl⟩
  have bW : Below w.heap.size w W := by rw [← hW]; exact alloc_v (Below.refl _ _) _
  have e1 : W.heap[w.heap.size]? = some (.cells zcells 46 (0, 0)) := by rw [← hW]; exact World.alloc_heap_new w _
  have zW : W.heap.size = w.heap.size + 1 := by rw [← hW]; simp
  have e2 : W.heap[db]? = some (.cells #[.slice a l.length c, .int .i64 p, .int .i64 q] 166 (0, 0)) := (bW.block _ hdb).trans hD
  have x0 := cells_at e2 0 _ rfl
  have x1 := cells_at e2 1 _ rfl
  have hadd : IntKind.i64.wrap ((p : Int) + 139) = (p : Int) + 139 := by rw [IntKind.wrap_i64]; omega
  have HE1 := hide e1
  have HE2 := hide e2
  have HBS := hide (hbs.mono (w' := W) (fun b o _ hb' => bW.cell (p := ⟨b, o, none⟩) (by show b < _; omega)) (Nat.le_refl _) (Nat.le_refl _)).plain
  have hsz : (seen l p).length ≤ 139 := by unfold seen; simp; omega
  rw [hs] at HBS hsl hsz
  have HLN := hide (show ([] : List UInt8).length ≤ 140737488355328 by simp)
  obtain ⟨m, hm⟩ : ∃ m, ([] : List UInt8).length = m := ⟨_, rfl⟩
  have HSL : Hid ((seen l p).length = m) := by show (seen l p).length = m; rw [hs]; exact hm
  rw [hm] at HBS hsl hsz
  clear e1 e2 hB hD hbs hm hs
  go_enter Tryz.func136, Tryz.ntmps136
  go_wp2
  clear hW
  go_quiet (fail)
  clear hsl x0 x1 hadd
  go_wp2_with (first
    | (go_at_call 36; refine (newReader_any (W.drewN nq) (.slice a1 m c1) [] HBS.out HLN.out).mono ?_; clear HBS HLN; rintro e w1 ⟨rb, rfl, r1, r2, r3, r4⟩; have R1 := hide (show w.heap.size + 1 ≤ rb ∧ rb < w1.heap.size ∧ Rd w1 rb (w.heap.size + 1) [] ∧ Below W.heap.size W w1 from ⟨(by rw [← zW]; exact r1), (by omega), (by rw [← zW]; exact r3), ⟨r4.os, r4.tape, r4.output, r4.size, r4.block⟩⟩); clear r1 r2 r3 r4)
    | (go_at_call 62; refine (rU8_none _ rb _ R1.out.2.2.1).mono ?_; rintro e w2 ⟨rfl, rfl⟩; have HNE := hide (show ¬ (10 : Int) = 0 by decide))
    | (go_at_call 159; refine (sure8_no _ _ HNE.out _).mono ?_; rintro e w5 ⟨rfl, rfl⟩))
  exact ⟨rfl, rfl, trans_v bW R1.out.2.2.2⟩
set_option maxRecDepth 100000 in
set_option maxHeartbeats 4000000 in
theorem head_bool_no (w : World) (db B : Nat) (sl : Value) (l : List UInt8) (p q : Nat) (hD : DecAt w db sl p q) (hB : BytesIn w 0 B sl l) (hb : B ≤ db) (hp : p ≤ l.length) (hl : l.length ≤ 1000000000000) (k : UInt8) (r : List UInt8) (hs : seen l p = k :: r) (hk : k.toNat = 1) (hr : r = []) :
    Calls Tryz.prog 136 #[.pointer (some ⟨db, 0, none⟩)] w fun e w' => e = gaveUp ∧ Below w.heap.size w w' := by
  obtain ⟨a, c, rfl, hlc, hcm, _⟩ := id hB
  obtain ⟨a1, c1, hsl, hbs⟩ := seen_slice w B a c l p hp hl hB
  have hdb : db < w.heap.size := (Array.getElem?_eq_some_iff.1 hD).1
  obtain ⟨W, hW⟩ : ∃ W, w.alloc (.cells zcells 46) = W := ⟨_, rfl⟩
  have bW : Below w.heap.size w W := by rw [← hW]; exact alloc_v (Below.refl _ _) _
  have e1 : W.heap[w.heap.size]? = some (.cells zcells 46 (0, 0)) := by rw [← hW]; exact World.alloc_heap_new w _
  have zW : W.heap.size = w.heap.size + 1 := by rw [← hW]; simp
  have e2 : W.heap[db]? = some (.cells #[.slice a l.length c, .int .i64 p, .int .i64 q] 166 (0, 0)) := (bW.block _ hdb).trans hD
  have x0 := cells_at e2 0 _ rfl
  have x1 := cells_at e2 1 _ rfl
  have hadd : IntKind.i64.wrap ((p : Int) + 139) = (p : Int) + 139 := by rw [IntKind.wrap_i64]; omega
  have HE1 := hide e1
  have HE2 := hide e2
  have HBS := hide (hbs.mono (w' := W) (fun b o _ hb' => bW.cell (p := ⟨b, o, none⟩) (by show b < _; omega)) (Nat.le_refl _) (Nat.le_refl _)).plain
  have hsz : (seen l p).length ≤ 139 := by unfold seen; simp; omega
  rw [hs] at HBS hsl hsz
  have HLN := hide (show (k :: r).length ≤ 140737488355328 by omega)
  have HR : Hid (r.length + 1 ≤ 139) := hsz
  obtain ⟨m, hm⟩ : ∃ m, (k :: r).length = m := ⟨_, rfl⟩
  have HM : Hid (m = r.length + 1) := hm.symm
  have HSL : Hid ((seen l p).length = m) := by show (seen l p).length = m; rw [hs]; exact hm
  rw [hm] at HBS hsl hsz
  have HS8 := hide sure8
  have HS64 := hide sure64
  have HX : Hid ((k.toNat : Int) = 1) := by show (k.toNat : Int) = 1; omega
  clear hk
  have HNE := hide (show ¬ (10 : Int) = 0 by decide)
  have HRR := hide hr
  clear hr
  clear e1 e2 hB hD hbs hm hs
  go_enter Tryz.func136, Tryz.ntmps136
  go_wp2
  clear hW
  go_quiet (fail)
  clear hsl x0 x1 hadd
  go_wp2_with (first
    | (go_at_call 36; refine (newReader_any (W.drewN nq) (.slice a1 m c1) (k :: r) HBS.out HLN.out).mono ?_; clear HBS HLN; rintro e w1 ⟨rb, rfl, r1, r2, r3, r4⟩; have R1 := hide (show w.heap.size + 1 ≤ rb ∧ rb < w1.heap.size ∧ Rd w1 rb (w.heap.size + 1) (k :: r) ∧ Below W.heap.size W w1 from ⟨(by rw [← zW]; exact r1), (by omega), (by rw [← zW]; exact r3), ⟨r4.os, r4.tape, r4.output, r4.size, r4.block⟩⟩); clear r1 r2 r3 r4)
    | (go_at_call 62; refine (rU8_some _ rb _ k r R1.out.2.2.1).mono ?_; rintro e w2 ⟨rfl, r2, g2⟩; rw [HX.out]; have b2 := grown_below2 R1.out.2.2.2 g2 (by have := R1.out.1; omega); have S := hide (HSt.start (w0 := w) (vcells ⟨1, 0, 0, ⟨#[]⟩, []⟩ (.slice none 0 0)) ((b2.block _ (by omega)).trans HE1.out) ((b2.block _ (by omega)).trans HE2.out) r2 (trans_v bW b2) hdb rfl (Nat.lt_succ_self _) R1.out.1 (by have := R1.out.2.1; have := g2.size; omega)); have nvd := hide (show db < w2.heap.size by have := b2.size; omega); have nvr := hide (show w.heap.size < w2.heap.size by have := b2.size; omega); clear r2 g2 b2 R1)
    | (go_at_call 159; refine (HS8.out _ _).mono ?_; clear HS8; rintro e w3 ⟨rfl, rfl⟩)
    | (go_at_call 62; have hr0 := HRR.out; unfold Hid at HRR; subst hr0; refine (rU8_none _ rb _ S.out.hrd).mono ?_; rintro e w4 ⟨rfl, rfl⟩; have S4 := S; clear S)
    | (go_at_call 159; refine (sure8_no _ _ HNE.out _).mono ?_; rintro e w5 ⟨rfl, rfl⟩))
  exact ⟨rfl, rfl, S4.out.hbe⟩
set_option maxRecDepth 100000 in
set_option maxHeartbeats 4000000 in
theorem head_int_no (w : World) (db B : Nat) (sl : Value) (l : List UInt8) (p q : Nat) (hD : DecAt w db sl p q) (hB : BytesIn w 0 B sl l) (hb : B ≤ db) (hp : p ≤ l.length) (hl : l.length ≤ 1000000000000) (k : UInt8) (r : List UInt8) (hs : seen l p = k :: r) (hk : k.toNat = 2) (hf : ¬ (front r).2.2 = 0) :
    Calls Tryz.prog 136 #[.pointer (some ⟨db, 0, none⟩)] w fun e w' => e = gaveUp ∧ Below w.heap.size w w' := by
  obtain ⟨a, c, rfl, hlc, hcm, _⟩ := id hB
  obtain ⟨a1, c1, hsl, hbs⟩ := seen_slice w B a c l p hp hl hB
  have hdb : db < w.heap.size := (Array.getElem?_eq_some_iff.1 hD).1
  obtain ⟨W, hW⟩ : ∃ W, w.alloc (.cells zcells 46) = W := ⟨_, rfl⟩
  have bW : Below w.heap.size w W := by rw [← hW]; exact alloc_v (Below.refl _ _) _
  have e1 : W.heap[w.heap.size]? = some (.cells zcells 46 (0, 0)) := by rw [← hW]; exact World.alloc_heap_new w _
  have zW : W.heap.size = w.heap.size + 1 := by rw [← hW]; simp
  have e2 : W.heap[db]? = some (.cells #[.slice a l.length c, .int .i64 p, .int .i64 q] 166 (0, 0)) := (bW.block _ hdb).trans hD
  have x0 := cells_at e2 0 _ rfl
  have x1 := cells_at e2 1 _ rfl
  have hadd : IntKind.i64.wrap ((p : Int) + 139) = (p : Int) + 139 := by rw [IntKind.wrap_i64]; omega
  have HE1 := hide e1
  have HE2 := hide e2
  have HBS := hide (hbs.mono (w' := W) (fun b o _ hb' => bW.cell (p := ⟨b, o, none⟩) (by show b < _; omega)) (Nat.le_refl _) (Nat.le_refl _)).plain
  have hsz : (seen l p).length ≤ 139 := by unfold seen; simp; omega
  rw [hs] at HBS hsl hsz
  have HLN := hide (show (k :: r).length ≤ 140737488355328 by omega)
  have HR : Hid (r.length + 1 ≤ 139) := hsz
  obtain ⟨m, hm⟩ : ∃ m, (k :: r).length = m := ⟨_, rfl⟩
  have HM : Hid (m = r.length + 1) := hm.symm
  have HSL : Hid ((seen l p).length = m) := by show (seen l p).length = m; rw [hs]; exact hm
  rw [hm] at HBS hsl hsz
  have HS8 := hide sure8
  have HS64 := hide sure64
  have HX : Hid ((k.toNat : Int) = 2) := by show (k.toNat : Int) = 2; omega
  clear hk
  obtain ⟨ee, he⟩ : ∃ ee, (front r).2.2 = ee := ⟨_, rfl⟩
  rw [he] at hf
  have HE := hide he
  have HNE := hide (show ¬ ((ee : Nat) : Int) = 0 by omega)
  clear he hf
  clear e1 e2 hB hD hbs hm hs
  go_enter Tryz.func136, Tryz.ntmps136
  go_wp2
  clear hW
  go_quiet (fail)
  clear hsl x0 x1 hadd
  go_wp2_with (first
    | (go_at_call 36; refine (newReader_any (W.drewN nq) (.slice a1 m c1) (k :: r) HBS.out HLN.out).mono ?_; clear HBS HLN; rintro e w1 ⟨rb, rfl, r1, r2, r3, r4⟩; have R1 := hide (show w.heap.size + 1 ≤ rb ∧ rb < w1.heap.size ∧ Rd w1 rb (w.heap.size + 1) (k :: r) ∧ Below W.heap.size W w1 from ⟨(by rw [← zW]; exact r1), (by omega), (by rw [← zW]; exact r3), ⟨r4.os, r4.tape, r4.output, r4.size, r4.block⟩⟩); clear r1 r2 r3 r4)
    | (go_at_call 62; refine (rU8_some _ rb _ k r R1.out.2.2.1).mono ?_; rintro e w2 ⟨rfl, r2, g2⟩; rw [HX.out]; have b2 := grown_below2 R1.out.2.2.2 g2 (by have := R1.out.1; omega); have S := hide (HSt.start (w0 := w) (vcells ⟨2, 0, 0, ⟨#[]⟩, []⟩ (.slice none 0 0)) ((b2.block _ (by omega)).trans HE1.out) ((b2.block _ (by omega)).trans HE2.out) r2 (trans_v bW b2) hdb rfl (Nat.lt_succ_self _) R1.out.1 (by have := R1.out.2.1; have := g2.size; omega)); have nvd := hide (show db < w2.heap.size by have := b2.size; omega); have nvr := hide (show w.heap.size < w2.heap.size by have := b2.size; omega); clear r2 g2 b2 R1)
    | (go_at_call 159; refine (HS8.out _ _).mono ?_; clear HS8; rintro e w3 ⟨rfl, rfl⟩)
    | (go_at_call 161; refine (rVarint _ rb _ r S.out.hrd).mono ?_; rintro e w4 ⟨rfl, r4, g4⟩; rw [HE.out]; have S4 := hide (S.out.read g4 r4); clear r4 g4 S)
    | (go_at_call 160; refine (sure64_no _ _ HNE.out _).mono ?_; rintro e w5 ⟨rfl, rfl⟩))
  exact ⟨rfl, rfl, S4.out.hbe⟩
set_option maxRecDepth 100000 in
set_option maxHeartbeats 4000000 in
theorem head_gauss_no (w : World) (db B : Nat) (sl : Value) (l : List UInt8) (p q : Nat) (hD : DecAt w db sl p q) (hB : BytesIn w 0 B sl l) (hb : B ≤ db) (hp : p ≤ l.length) (hl : l.length ≤ 1000000000000) (k : UInt8) (r : List UInt8) (hs : seen l p = k :: r) (hk : k.toNat = 3) (hf : ¬ (front r).2.2 = 0) :
    Calls Tryz.prog 136 #[.pointer (some ⟨db, 0, none⟩)] w fun e w' => e = gaveUp ∧ Below w.heap.size w w' := by
  obtain ⟨a, c, rfl, hlc, hcm, _⟩ := id hB
  obtain ⟨a1, c1, hsl, hbs⟩ := seen_slice w B a c l p hp hl hB
  have hdb : db < w.heap.size := (Array.getElem?_eq_some_iff.1 hD).1
  obtain ⟨W, hW⟩ : ∃ W, w.alloc (.cells zcells 46) = W := ⟨_, rfl⟩
  have bW : Below w.heap.size w W := by rw [← hW]; exact alloc_v (Below.refl _ _) _
  have e1 : W.heap[w.heap.size]? = some (.cells zcells 46 (0, 0)) := by rw [← hW]; exact World.alloc_heap_new w _
  have zW : W.heap.size = w.heap.size + 1 := by rw [← hW]; simp
  have e2 : W.heap[db]? = some (.cells #[.slice a l.length c, .int .i64 p, .int .i64 q] 166 (0, 0)) := (bW.block _ hdb).trans hD
  have x0 := cells_at e2 0 _ rfl
  have x1 := cells_at e2 1 _ rfl
  have hadd : IntKind.i64.wrap ((p : Int) + 139) = (p : Int) + 139 := by rw [IntKind.wrap_i64]; omega
  have HE1 := hide e1
  have HE2 := hide e2
  have HBS := hide (hbs.mono (w' := W) (fun b o _ hb' => bW.cell (p := ⟨b, o, none⟩) (by show b < _; omega)) (Nat.le_refl _) (Nat.le_refl _)).plain
  have hsz : (seen l p).length ≤ 139 := by unfold seen; simp; omega
  rw [hs] at HBS hsl hsz
  have HLN := hide (show (k :: r).length ≤ 140737488355328 by omega)
  have HR : Hid (r.length + 1 ≤ 139) := hsz
  obtain ⟨m, hm⟩ : ∃ m, (k :: r).length = m := ⟨_, rfl⟩
  have HM : Hid (m = r.length + 1) := hm.symm
  have HSL : Hid ((seen l p).length = m) := by show (seen l p).length = m; rw [hs]; exact hm
  rw [hm] at HBS hsl hsz
  have HS8 := hide sure8
  have HS64 := hide sure64
  have HX : Hid ((k.toNat : Int) = 3) := by show (k.toNat : Int) = 3; omega
  clear hk
  obtain ⟨ee, he⟩ : ∃ ee, (front r).2.2 = ee := ⟨_, rfl⟩
  rw [he] at hf
  have HE := hide he
  have HNE := hide (show ¬ ((ee : Nat) : Int) = 0 by omega)
  clear he hf
  clear e1 e2 hB hD hbs hm hs
  go_enter Tryz.func136, Tryz.ntmps136
  go_wp2
  clear hW
  go_quiet (fail)
  clear hsl x0 x1 hadd
  go_wp2_with (first
    | (go_at_call 36; refine (newReader_any (W.drewN nq) (.slice a1 m c1) (k :: r) HBS.out HLN.out).mono ?_; clear HBS HLN; rintro e w1 ⟨rb, rfl, r1, r2, r3, r4⟩; have R1 := hide (show w.heap.size + 1 ≤ rb ∧ rb < w1.heap.size ∧ Rd w1 rb (w.heap.size + 1) (k :: r) ∧ Below W.heap.size W w1 from ⟨(by rw [← zW]; exact r1), (by omega), (by rw [← zW]; exact r3), ⟨r4.os, r4.tape, r4.output, r4.size, r4.block⟩⟩); clear r1 r2 r3 r4)
    | (go_at_call 62; refine (rU8_some _ rb _ k r R1.out.2.2.1).mono ?_; rintro e w2 ⟨rfl, r2, g2⟩; rw [HX.out]; have b2 := grown_below2 R1.out.2.2.2 g2 (by have := R1.out.1; omega); have S := hide (HSt.start (w0 := w) (vcells ⟨3, 0, 0, ⟨#[]⟩, []⟩ (.slice none 0 0)) ((b2.block _ (by omega)).trans HE1.out) ((b2.block _ (by omega)).trans HE2.out) r2 (trans_v bW b2) hdb rfl (Nat.lt_succ_self _) R1.out.1 (by have := R1.out.2.1; have := g2.size; omega)); have nvd := hide (show db < w2.heap.size by have := b2.size; omega); have nvr := hide (show w.heap.size < w2.heap.size by have := b2.size; omega); clear r2 g2 b2 R1)
    | (go_at_call 159; refine (HS8.out _ _).mono ?_; clear HS8; rintro e w3 ⟨rfl, rfl⟩)
    | (go_at_call 161; refine (rVarint _ rb _ r S.out.hrd).mono ?_; rintro e w4 ⟨rfl, r4, g4⟩; rw [HE.out]; have S4 := hide (S.out.read g4 r4); clear r4 g4 S)
    | (go_at_call 160; refine (sure64_no _ _ HNE.out _).mono ?_; rintro e w5 ⟨rfl, rfl⟩))
  exact ⟨rfl, rfl, S4.out.hbe⟩
set_option maxRecDepth 100000 in
set_option maxHeartbeats 4000000 in
theorem head_gauss_no2 (w : World) (db B : Nat) (sl : Value) (l : List UInt8) (p q : Nat) (hD : DecAt w db sl p q) (hB : BytesIn w 0 B sl l) (hb : B ≤ db) (hp : p ≤ l.length) (hl : l.length ≤ 1000000000000) (k : UInt8) (r : List UInt8) (hs : seen l p = k :: r) (hk : k.toNat = 3) (hf0 : (front r).2.2 = 0) (hf : ¬ (front (r.drop (front r).2.1)).2.2 = 0) :
    Calls Tryz.prog 136 #[.pointer (some ⟨db, 0, none⟩)] w fun e w' => e = gaveUp ∧ Below w.heap.size w w' := by
  obtain ⟨a, c, rfl, hlc, hcm, _⟩ := id hB
  obtain ⟨a1, c1, hsl, hbs⟩ := seen_slice w B a c l p hp hl hB
  have hdb : db < w.heap.size := (Array.getElem?_eq_some_iff.1 hD).1
  obtain ⟨W, hW⟩ : ∃ W, w.alloc (.cells zcells 46) = W := ⟨_, rfl⟩
  have bW : Below w.heap.size w W := by rw [← hW]; exact alloc_v (Below.refl _ _) _
  have e1 : W.heap[w.heap.size]? = some (.cells zcells 46 (0, 0)) := by rw [← hW]; exact World.alloc_heap_new w _
  have zW : W.heap.size = w.heap.size + 1 := by rw [← hW]; simp
  have e2 : W.heap[db]? = some (.cells #[.slice a l.length c, .int .i64 p, .int .i64 q] 166 (0, 0)) := (bW.block _ hdb).trans hD
  have x0 := cells_at e2 0 _ rfl
  have x1 := cells_at e2 1 _ rfl
  have hadd : IntKind.i64.wrap ((p : Int) + 139) = (p : Int) + 139 := by rw [IntKind.wrap_i64]; omega
  have HE1 := hide e1
  have HE2 := hide e2
  have HBS := hide (hbs.mono (w' := W) (fun b o _ hb' => bW.cell (p := ⟨b, o, none⟩) (by show b < _; omega)) (Nat.le_refl _) (Nat.le_refl _)).plain
  have hsz : (seen l p).length ≤ 139 := by unfold seen; simp; omega
  rw [hs] at HBS hsl hsz
  have HLN := hide (show (k :: r).length ≤ 140737488355328 by omega)
  have HR : Hid (r.length + 1 ≤ 139) := hsz
  obtain ⟨m, hm⟩ : ∃ m, (k :: r).length = m := ⟨_, rfl⟩
  have HM : Hid (m = r.length + 1) := hm.symm
  have HSL : Hid ((seen l p).length = m) := by show (seen l p).length = m; rw [hs]; exact hm
  rw [hm] at HBS hsl hsz
  have HS8 := hide sure8
  have HS64 := hide sure64
  have HX : Hid ((k.toNat : Int) = 3) := by show (k.toNat : Int) = 3; omega
  clear hk
  obtain ⟨z, hz⟩ : ∃ z : Int, unz (front r).1 = z := ⟨_, rfl⟩
  have HZ := hide hz
  have HF := hide hf0
  clear hz hf0
  obtain ⟨ee, he⟩ : ∃ ee, (front (r.drop (front r).2.1)).2.2 = ee := ⟨_, rfl⟩
  rw [he] at hf
  have HE := hide he
  have HNE := hide (show ¬ ((ee : Nat) : Int) = 0 by omega)
  clear he hf
  clear e1 e2 hB hD hbs hm hs
  go_enter Tryz.func136, Tryz.ntmps136
  go_wp2
  clear hW
  go_quiet (fail)
  clear hsl x0 x1 hadd
  go_wp2_with (first
    | (go_at_call 36; refine (newReader_any (W.drewN nq) (.slice a1 m c1) (k :: r) HBS.out HLN.out).mono ?_; clear HBS HLN; rintro e w1 ⟨rb, rfl, r1, r2, r3, r4⟩; have R1 := hide (show w.heap.size + 1 ≤ rb ∧ rb < w1.heap.size ∧ Rd w1 rb (w.heap.size + 1) (k :: r) ∧ Below W.heap.size W w1 from ⟨(by rw [← zW]; exact r1), (by omega), (by rw [← zW]; exact r3), ⟨r4.os, r4.tape, r4.output, r4.size, r4.block⟩⟩); clear r1 r2 r3 r4)
    | (go_at_call 62; refine (rU8_some _ rb _ k r R1.out.2.2.1).mono ?_; rintro e w2 ⟨rfl, r2, g2⟩; rw [HX.out]; have b2 := grown_below2 R1.out.2.2.2 g2 (by have := R1.out.1; omega); have S := hide (HSt.start (w0 := w) (vcells ⟨3, 0, 0, ⟨#[]⟩, []⟩ (.slice none 0 0)) ((b2.block _ (by omega)).trans HE1.out) ((b2.block _ (by omega)).trans HE2.out) r2 (trans_v bW b2) hdb rfl (Nat.lt_succ_self _) R1.out.1 (by have := R1.out.2.1; have := g2.size; omega)); have nvd := hide (show db < w2.heap.size by have := b2.size; omega); have nvr := hide (show w.heap.size < w2.heap.size by have := b2.size; omega); clear r2 g2 b2 R1)
    | (go_at_call 159; refine (HS8.out _ _).mono ?_; clear HS8; rintro e w3 ⟨rfl, rfl⟩)
    | (go_at_call 161; refine (rVarint _ rb _ r S.out.hrd).mono ?_; rintro e w4 ⟨rfl, r4, g4⟩; rw [HZ.out, HF.out]; have S4 := hide (S.out.read g4 r4); have y1 := cells_at S4.out.hvb 1 _ rfl; have q1 := frozen_at S4.out.hvb 1; clear r4 g4 S)
    | (go_at_call 161; refine (rVarint _ rb _ (r.drop (front r).2.1) (S4.out.set 1 (.int .i64 z)).hrd).mono ?_; rintro e w6 ⟨rfl, r6, g6⟩; rw [HE.out]; have S6 := hide ((S4.out.set 1 (.int .i64 z)).read g6 r6); clear r6 g6 S4)
    | (go_at_call 160; refine (HS64.out _ _).mono ?_; clear HS64; rintro e w3 ⟨rfl, rfl⟩)
    | (go_at_call 160; refine (sure64_no _ _ HNE.out _).mono ?_; rintro e w5 ⟨rfl, rfl⟩))
  exact ⟨rfl, rfl, S6.out.hbe⟩
set_option maxRecDepth 100000 in
set_option maxHeartbeats 4000000 in
theorem head_sym_no (w : World) (db B : Nat) (sl : Value) (l : List UInt8) (p q : Nat) (hD : DecAt w db sl p q) (hB : BytesIn w 0 B sl l) (hb : B ≤ db) (hp : p ≤ l.length) (hl : l.length ≤ 1000000000000) (k : UInt8) (r : List UInt8) (hs : seen l p = k :: r) (hk : k.toNat = 4) (hf : ¬ textErr r = 0) :
    Calls Tryz.prog 136 #[.pointer (some ⟨db, 0, none⟩)] w fun e w' => e = gaveUp ∧ Below w.heap.size w w' := by
  obtain ⟨a, c, rfl, hlc, hcm, _⟩ := id hB
  obtain ⟨a1, c1, hsl, hbs⟩ := seen_slice w B a c l p hp hl hB
  have hdb : db < w.heap.size := (Array.getElem?_eq_some_iff.1 hD).1
  obtain ⟨W, hW⟩ : ∃ W, w.alloc (.cells zcells 46) = W := ⟨_, rfl⟩
  have bW : Below w.heap.size w W := by rw [← hW]; exact alloc_v (Below.refl _ _) _
  have e1 : W.heap[w.heap.size]? = some (.cells zcells 46 (0, 0)) := by rw [← hW]; exact World.alloc_heap_new w _
  have zW : W.heap.size = w.heap.size + 1 := by rw [← hW]; simp
  have e2 : W.heap[db]? = some (.cells #[.slice a l.length c, .int .i64 p, .int .i64 q] 166 (0, 0)) := (bW.block _ hdb).trans hD
  have x0 := cells_at e2 0 _ rfl
  have x1 := cells_at e2 1 _ rfl
  have hadd : IntKind.i64.wrap ((p : Int) + 139) = (p : Int) + 139 := by rw [IntKind.wrap_i64]; omega
  have HE1 := hide e1
  have HE2 := hide e2
  have HBS := hide (hbs.mono (w' := W) (fun b o _ hb' => bW.cell (p := ⟨b, o, none⟩) (by show b < _; omega)) (Nat.le_refl _) (Nat.le_refl _)).plain
  have hsz : (seen l p).length ≤ 139 := by unfold seen; simp; omega
  rw [hs] at HBS hsl hsz
  have HLN := hide (show (k :: r).length ≤ 140737488355328 by omega)
  have HR : Hid (r.length + 1 ≤ 139) := hsz
  obtain ⟨m, hm⟩ : ∃ m, (k :: r).length = m := ⟨_, rfl⟩
  have HM : Hid (m = r.length + 1) := hm.symm
  have HSL : Hid ((seen l p).length = m) := by show (seen l p).length = m; rw [hs]; exact hm
  rw [hm] at HBS hsl hsz
  have HS8 := hide sure8
  have HS64 := hide sure64
  have HX : Hid ((k.toNat : Int) = 4) := by show (k.toNat : Int) = 4; omega
  clear hk
  obtain ⟨ee, he⟩ : ∃ ee, textErr r = ee := ⟨_, rfl⟩
  rw [he] at hf
  have HE := hide he
  have HNE := hide (show ¬ ((ee : Nat) : Int) = 0 by omega)
  clear he hf
  clear e1 e2 hB hD hbs hm hs
  go_enter Tryz.func136, Tryz.ntmps136
  go_wp2
  clear hW
  go_quiet (fail)
  clear hsl x0 x1 hadd
  go_wp2_with (first
    | (go_at_call 36; refine (newReader_any (W.drewN nq) (.slice a1 m c1) (k :: r) HBS.out HLN.out).mono ?_; clear HBS HLN; rintro e w1 ⟨rb, rfl, r1, r2, r3, r4⟩; have R1 := hide (show w.heap.size + 1 ≤ rb ∧ rb < w1.heap.size ∧ Rd w1 rb (w.heap.size + 1) (k :: r) ∧ Below W.heap.size W w1 from ⟨(by rw [← zW]; exact r1), (by omega), (by rw [← zW]; exact r3), ⟨r4.os, r4.tape, r4.output, r4.size, r4.block⟩⟩); clear r1 r2 r3 r4)
    | (go_at_call 62; refine (rU8_some _ rb _ k r R1.out.2.2.1).mono ?_; rintro e w2 ⟨rfl, r2, g2⟩; rw [HX.out]; have b2 := grown_below2 R1.out.2.2.2 g2 (by have := R1.out.1; omega); have S := hide (HSt.start (w0 := w) (vcells ⟨4, 0, 0, ⟨#[]⟩, []⟩ (.slice none 0 0)) ((b2.block _ (by omega)).trans HE1.out) ((b2.block _ (by omega)).trans HE2.out) r2 (trans_v bW b2) hdb rfl (Nat.lt_succ_self _) R1.out.1 (by have := R1.out.2.1; have := g2.size; omega)); have nvd := hide (show db < w2.heap.size by have := b2.size; omega); have nvr := hide (show w.heap.size < w2.heap.size by have := b2.size; omega); clear r2 g2 b2 R1)
    | (go_at_call 159; refine (HS8.out _ _).mono ?_; clear HS8; rintro e w3 ⟨rfl, rfl⟩)
    | (go_at_call 64; refine (rText _ rb _ r S.out.hrd).mono ?_; rintro e w4 ⟨rfl, r4, g4⟩; rw [HE.out]; have S4 := hide (S.out.read g4 r4); clear r4 g4 S)
    | (go_at_call 162; refine (sureS_no _ _ HNE.out _).mono ?_; rintro e w5 ⟨rfl, rfl⟩))
  exact ⟨rfl, rfl, S4.out.hbe⟩
set_option maxRecDepth 100000 in
set_option maxHeartbeats 4000000 in
theorem head_items_no5 (w : World) (db B : Nat) (sl : Value) (l : List UInt8) (p q : Nat) (hD : DecAt w db sl p q) (hB : BytesIn w 0 B sl l) (hb : B ≤ db) (hp : p ≤ l.length) (hl : l.length ≤ 1000000000000) (k : UInt8) (r : List UInt8) (hs : seen l p = k :: r) (hk : k.toNat = 5) (hf : ¬ (front r).2.2 = 0) :
    Calls Tryz.prog 136 #[.pointer (some ⟨db, 0, none⟩)] w fun e w' => e = gaveUp ∧ Below w.heap.size w w' := by
  obtain ⟨a, c, rfl, hlc, hcm, _⟩ := id hB
  obtain ⟨a1, c1, hsl, hbs⟩ := seen_slice w B a c l p hp hl hB
  have hdb : db < w.heap.size := (Array.getElem?_eq_some_iff.1 hD).1
  obtain ⟨W, hW⟩ : ∃ W, w.alloc (.cells zcells 46) = W := ⟨_, rfl⟩
  have bW : Below w.heap.size w W := by rw [← hW]; exact alloc_v (Below.refl _ _) _
  have e1 : W.heap[w.heap.size]? = some (.cells zcells 46 (0, 0)) := by rw [← hW]; exact World.alloc_heap_new w _
  have zW : W.heap.size = w.heap.size + 1 := by rw [← hW]; simp
  have e2 : W.heap[db]? = some (.cells #[.slice a l.length c, .int .i64 p, .int .i64 q] 166 (0, 0)) := (bW.block _ hdb).trans hD
  have x0 := cells_at e2 0 _ rfl
  have x1 := cells_at e2 1 _ rfl
  have hadd : IntKind.i64.wrap ((p : Int) + 139) = (p : Int) + 139 := by rw [IntKind.wrap_i64]; omega
  have HE1 := hide e1
  have HE2 := hide e2
  have HBS := hide (hbs.mono (w' := W) (fun b o _ hb' => bW.cell (p := ⟨b, o, none⟩) (by show b < _; omega)) (Nat.le_refl _) (Nat.le_refl _)).plain
  have hsz : (seen l p).length ≤ 139 := by unfold seen; simp; omega
  rw [hs] at HBS hsl hsz
  have HLN := hide (show (k :: r).length ≤ 140737488355328 by omega)
  have HR : Hid (r.length + 1 ≤ 139) := hsz
  obtain ⟨m, hm⟩ : ∃ m, (k :: r).length = m := ⟨_, rfl⟩
  have HM : Hid (m = r.length + 1) := hm.symm
  have HSL : Hid ((seen l p).length = m) := by show (seen l p).length = m; rw [hs]; exact hm
  rw [hm] at HBS hsl hsz
  have HS8 := hide sure8
  have HS64 := hide sure64
  have HX : Hid ((k.toNat : Int) = 5) := by show (k.toNat : Int) = 5; omega
  clear hk
  obtain ⟨ee, he⟩ : ∃ ee, (front r).2.2 = ee := ⟨_, rfl⟩
  rw [he] at hf
  have HE := hide he
  have HNE := hide (show ¬ ((ee : Nat) : Int) = 0 by omega)
  clear he hf
  clear e1 e2 hB hD hbs hm hs
  go_enter Tryz.func136, Tryz.ntmps136
  go_wp2
  clear hW
  go_quiet (fail)
  clear hsl x0 x1 hadd
  go_wp2_with (first
    | (go_at_call 36; refine (newReader_any (W.drewN nq) (.slice a1 m c1) (k :: r) HBS.out HLN.out).mono ?_; clear HBS HLN; rintro e w1 ⟨rb, rfl, r1, r2, r3, r4⟩; have R1 := hide (show w.heap.size + 1 ≤ rb ∧ rb < w1.heap.size ∧ Rd w1 rb (w.heap.size + 1) (k :: r) ∧ Below W.heap.size W w1 from ⟨(by rw [← zW]; exact r1), (by omega), (by rw [← zW]; exact r3), ⟨r4.os, r4.tape, r4.output, r4.size, r4.block⟩⟩); clear r1 r2 r3 r4)
    | (go_at_call 62; refine (rU8_some _ rb _ k r R1.out.2.2.1).mono ?_; rintro e w2 ⟨rfl, r2, g2⟩; rw [HX.out]; have b2 := grown_below2 R1.out.2.2.2 g2 (by have := R1.out.1; omega); have S := hide (HSt.start (w0 := w) (vcells ⟨5, 0, 0, ⟨#[]⟩, []⟩ (.slice none 0 0)) ((b2.block _ (by omega)).trans HE1.out) ((b2.block _ (by omega)).trans HE2.out) r2 (trans_v bW b2) hdb rfl (Nat.lt_succ_self _) R1.out.1 (by have := R1.out.2.1; have := g2.size; omega)); have nvd := hide (show db < w2.heap.size by have := b2.size; omega); have nvr := hide (show w.heap.size < w2.heap.size by have := b2.size; omega); clear r2 g2 b2 R1)
    | (go_at_call 159; refine (HS8.out _ _).mono ?_; clear HS8; rintro e w3 ⟨rfl, rfl⟩)
    | (go_at_call 38; refine (rUvarint _ rb _ r S.out.hrd).mono ?_; rintro e w4 ⟨rfl, r4, g4⟩; rw [HE.out]; have S4 := hide (S.out.read g4 r4); clear r4 g4 S)
    | (go_at_call 163; refine (sureU_no _ _ HNE.out _).mono ?_; rintro e w5 ⟨rfl, rfl⟩))
  exact ⟨rfl, rfl, S4.out.hbe⟩
set_option maxRecDepth 100000 in
set_option maxHeartbeats 4000000 in
theorem head_items_no6 (w : World) (db B : Nat) (sl : Value) (l : List UInt8) (p q : Nat) (hD : DecAt w db sl p q) (hB : BytesIn w 0 B sl l) (hb : B ≤ db) (hp : p ≤ l.length) (hl : l.length ≤ 1000000000000) (k : UInt8) (r : List UInt8) (hs : seen l p = k :: r) (hk : k.toNat = 6) (hf : ¬ (front r).2.2 = 0) :
    Calls Tryz.prog 136 #[.pointer (some ⟨db, 0, none⟩)] w fun e w' => e = gaveUp ∧ Below w.heap.size w w' := by
  obtain ⟨a, c, rfl, hlc, hcm, _⟩ := id hB
  obtain ⟨a1, c1, hsl, hbs⟩ := seen_slice w B a c l p hp hl hB
  have hdb : db < w.heap.size := (Array.getElem?_eq_some_iff.1 hD).1
  obtain ⟨W, hW⟩ : ∃ W, w.alloc (.cells zcells 46) = W := ⟨_, rfl⟩
  have bW : Below w.heap.size w W := by rw [← hW]; exact alloc_v (Below.refl _ _) _
  have e1 : W.heap[w.heap.size]? = some (.cells zcells 46 (0, 0)) := by rw [← hW]; exact World.alloc_heap_new w _
  have zW : W.heap.size = w.heap.size + 1 := by rw [← hW]; simp
  have e2 : W.heap[db]? = some (.cells #[.slice a l.length c, .int .i64 p, .int .i64 q] 166 (0, 0)) := (bW.block _ hdb).trans hD
  have x0 := cells_at e2 0 _ rfl
  have x1 := cells_at e2 1 _ rfl
  have hadd : IntKind.i64.wrap ((p : Int) + 139) = (p : Int) + 139 := by rw [IntKind.wrap_i64]; omega
  have HE1 := hide e1
  have HE2 := hide e2
  have HBS := hide (hbs.mono (w' := W) (fun b o _ hb' => bW.cell (p := ⟨b, o, none⟩) (by show b < _; omega)) (Nat.le_refl _) (Nat.le_refl _)).plain
  have hsz : (seen l p).length ≤ 139 := by unfold seen; simp; omega
  rw [hs] at HBS hsl hsz
  have HLN := hide (show (k :: r).length ≤ 140737488355328 by omega)
  have HR : Hid (r.length + 1 ≤ 139) := hsz
  obtain ⟨m, hm⟩ : ∃ m, (k :: r).length = m := ⟨_, rfl⟩
  have HM : Hid (m = r.length + 1) := hm.symm
  have HSL : Hid ((seen l p).length = m) := by show (seen l p).length = m; rw [hs]; exact hm
  rw [hm] at HBS hsl hsz
  have HS8 := hide sure8
  have HS64 := hide sure64
  have HX : Hid ((k.toNat : Int) = 6) := by show (k.toNat : Int) = 6; omega
  clear hk
  obtain ⟨ee, he⟩ : ∃ ee, (front r).2.2 = ee := ⟨_, rfl⟩
  rw [he] at hf
  have HE := hide he
  have HNE := hide (show ¬ ((ee : Nat) : Int) = 0 by omega)
  clear he hf
  clear e1 e2 hB hD hbs hm hs
  go_enter Tryz.func136, Tryz.ntmps136
  go_wp2
  clear hW
  go_quiet (fail)
  clear hsl x0 x1 hadd
  go_wp2_with (first
    | (go_at_call 36; refine (newReader_any (W.drewN nq) (.slice a1 m c1) (k :: r) HBS.out HLN.out).mono ?_; clear HBS HLN; rintro e w1 ⟨rb, rfl, r1, r2, r3, r4⟩; have R1 := hide (show w.heap.size + 1 ≤ rb ∧ rb < w1.heap.size ∧ Rd w1 rb (w.heap.size + 1) (k :: r) ∧ Below W.heap.size W w1 from ⟨(by rw [← zW]; exact r1), (by omega), (by rw [← zW]; exact r3), ⟨r4.os, r4.tape, r4.output, r4.size, r4.block⟩⟩); clear r1 r2 r3 r4)
    | (go_at_call 62; refine (rU8_some _ rb _ k r R1.out.2.2.1).mono ?_; rintro e w2 ⟨rfl, r2, g2⟩; rw [HX.out]; have b2 := grown_below2 R1.out.2.2.2 g2 (by have := R1.out.1; omega); have S := hide (HSt.start (w0 := w) (vcells ⟨6, 0, 0, ⟨#[]⟩, []⟩ (.slice none 0 0)) ((b2.block _ (by omega)).trans HE1.out) ((b2.block _ (by omega)).trans HE2.out) r2 (trans_v bW b2) hdb rfl (Nat.lt_succ_self _) R1.out.1 (by have := R1.out.2.1; have := g2.size; omega)); have nvd := hide (show db < w2.heap.size by have := b2.size; omega); have nvr := hide (show w.heap.size < w2.heap.size by have := b2.size; omega); clear r2 g2 b2 R1)
    | (go_at_call 159; refine (HS8.out _ _).mono ?_; clear HS8; rintro e w3 ⟨rfl, rfl⟩)
    | (go_at_call 38; refine (rUvarint _ rb _ r S.out.hrd).mono ?_; rintro e w4 ⟨rfl, r4, g4⟩; rw [HE.out]; have S4 := hide (S.out.read g4 r4); clear r4 g4 S)
    | (go_at_call 163; refine (sureU_no _ _ HNE.out _).mono ?_; rintro e w5 ⟨rfl, rfl⟩))
  exact ⟨rfl, rfl, S4.out.hbe⟩
set_option maxRecDepth 100000 in
set_option maxHeartbeats 4000000 in
theorem head_items_no7 (w : World) (db B : Nat) (sl : Value) (l : List UInt8) (p q : Nat) (hD : DecAt w db sl p q) (hB : BytesIn w 0 B sl l) (hb : B ≤ db) (hp : p ≤ l.length) (hl : l.length ≤ 1000000000000) (k : UInt8) (r : List UInt8) (hs : seen l p = k :: r) (hk : k.toNat = 7) (hf : ¬ (front r).2.2 = 0) :
    Calls Tryz.prog 136 #[.pointer (some ⟨db, 0, none⟩)] w fun e w' => e = gaveUp ∧ Below w.heap.size w w' := by
  obtain ⟨a, c, rfl, hlc, hcm, _⟩ := id hB
  obtain ⟨a1, c1, hsl, hbs⟩ := seen_slice w B a c l p hp hl hB
  have hdb : db < w.heap.size := (Array.getElem?_eq_some_iff.1 hD).1
  obtain ⟨W, hW⟩ : ∃ W, w.alloc (.cells zcells 46) = W := ⟨_, rfl⟩
  have bW : Below w.heap.size w W := by rw [← hW]; exact alloc_v (Below.refl _ _) _
  have e1 : W.heap[w.heap.size]? = some (.cells zcells 46 (0, 0)) := by rw [← hW]; exact World.alloc_heap_new w _
  have zW : W.heap.size = w.heap.size + 1 := by rw [← hW]; simp
  have e2 : W.heap[db]? = some (.cells #[.slice a l.length c, .int .i64 p, .int .i64 q] 166 (0, 0)) := (bW.block _ hdb).trans hD
  have x0 := cells_at e2 0 _ rfl
  have x1 := cells_at e2 1 _ rfl
  have hadd : IntKind.i64.wrap ((p : Int) + 139) = (p : Int) + 139 := by rw [IntKind.wrap_i64]; omega
  have HE1 := hide e1
  have HE2 := hide e2
  have HBS := hide (hbs.mono (w' := W) (fun b o _ hb' => bW.cell (p := ⟨b, o, none⟩) (by show b < _; omega)) (Nat.le_refl _) (Nat.le_refl _)).plain
  have hsz : (seen l p).length ≤ 139 := by unfold seen; simp; omega
  rw [hs] at HBS hsl hsz
  have HLN := hide (show (k :: r).length ≤ 140737488355328 by omega)
  have HR : Hid (r.length + 1 ≤ 139) := hsz
  obtain ⟨m, hm⟩ : ∃ m, (k :: r).length = m := ⟨_, rfl⟩
  have HM : Hid (m = r.length + 1) := hm.symm
  have HSL : Hid ((seen l p).length = m) := by show (seen l p).length = m; rw [hs]; exact hm
  rw [hm] at HBS hsl hsz
  have HS8 := hide sure8
  have HS64 := hide sure64
  have HX : Hid ((k.toNat : Int) = 7) := by show (k.toNat : Int) = 7; omega
  clear hk
  obtain ⟨ee, he⟩ : ∃ ee, (front r).2.2 = ee := ⟨_, rfl⟩
  rw [he] at hf
  have HE := hide he
  have HNE := hide (show ¬ ((ee : Nat) : Int) = 0 by omega)
  clear he hf
  clear e1 e2 hB hD hbs hm hs
  go_enter Tryz.func136, Tryz.ntmps136
  go_wp2
  clear hW
  go_quiet (fail)
  clear hsl x0 x1 hadd
  go_wp2_with (first
    | (go_at_call 36; refine (newReader_any (W.drewN nq) (.slice a1 m c1) (k :: r) HBS.out HLN.out).mono ?_; clear HBS HLN; rintro e w1 ⟨rb, rfl, r1, r2, r3, r4⟩; have R1 := hide (show w.heap.size + 1 ≤ rb ∧ rb < w1.heap.size ∧ Rd w1 rb (w.heap.size + 1) (k :: r) ∧ Below W.heap.size W w1 from ⟨(by rw [← zW]; exact r1), (by omega), (by rw [← zW]; exact r3), ⟨r4.os, r4.tape, r4.output, r4.size, r4.block⟩⟩); clear r1 r2 r3 r4)
    | (go_at_call 62; refine (rU8_some _ rb _ k r R1.out.2.2.1).mono ?_; rintro e w2 ⟨rfl, r2, g2⟩; rw [HX.out]; have b2 := grown_below2 R1.out.2.2.2 g2 (by have := R1.out.1; omega); have S := hide (HSt.start (w0 := w) (vcells ⟨7, 0, 0, ⟨#[]⟩, []⟩ (.slice none 0 0)) ((b2.block _ (by omega)).trans HE1.out) ((b2.block _ (by omega)).trans HE2.out) r2 (trans_v bW b2) hdb rfl (Nat.lt_succ_self _) R1.out.1 (by have := R1.out.2.1; have := g2.size; omega)); have nvd := hide (show db < w2.heap.size by have := b2.size; omega); have nvr := hide (show w.heap.size < w2.heap.size by have := b2.size; omega); clear r2 g2 b2 R1)
    | (go_at_call 159; refine (HS8.out _ _).mono ?_; clear HS8; rintro e w3 ⟨rfl, rfl⟩)
    | (go_at_call 38; refine (rUvarint _ rb _ r S.out.hrd).mono ?_; rintro e w4 ⟨rfl, r4, g4⟩; rw [HE.out]; have S4 := hide (S.out.read g4 r4); clear r4 g4 S)
    | (go_at_call 163; refine (sureU_no _ _ HNE.out _).mono ?_; rintro e w5 ⟨rfl, rfl⟩))
  exact ⟨rfl, rfl, S4.out.hbe⟩
/-- head, where it gives up. -/
theorem head_no (w : World) (db B : Nat) (sl : Value) (l : List UInt8) (p q : Nat) (hD : DecAt w db sl p q) (hB : BytesIn w 0 B sl l) (hb : B ≤ db) (hp : p ≤ l.length) (hl : l.length ≤ 1000000000000) (h : headM (seen l p) = none) :
    Calls Tryz.prog 136 #[.pointer (some ⟨db, 0, none⟩)] w fun e w' => e = gaveUp ∧ Below w.heap.size w w' := by
  cases hs : seen l p with
  | nil => exact head_none w db B sl l p q hD hB hb hp hl hs
  | cons k t =>
    rw [hs] at h
    simp only [headM] at h
    split at h
    · rename_i hk
      cases t with
      | nil => exact head_bool_no w db B sl l p q hD hB hb hp hl k _ hs hk rfl
      | cons x t => simp at h
    · split at h
      · rename_i hk
        split at h
        · cases h
        · rename_i hf
          exact head_int_no w db B sl l p q hD hB hb hp hl k _ hs hk hf
      · split at h
        · rename_i hk
          split at h
          · rename_i hf
            split at h
            · cases h
            · rename_i hf2
              exact head_gauss_no2 w db B sl l p q hD hB hb hp hl k _ hs hk hf hf2
          · rename_i hf
            exact head_gauss_no w db B sl l p q hD hB hb hp hl k _ hs hk hf
        · split at h
          · rename_i hk
            split at h
            · cases h
            · rename_i hf
              exact head_sym_no w db B sl l p q hD hB hb hp hl k _ hs hk hf
          · split at h
            · rename_i hk
              split at h
              · cases h
              · rename_i hf
                rcases hk with hk | hk | hk
                · exact head_items_no5 w db B sl l p q hD hB hb hp hl k _ hs hk hf
                · exact head_items_no6 w db B sl l p q hD hB hb hp hl k _ hs hk hf
                · exact head_items_no7 w db B sl l p q hD hB hb hp hl k _ hs hk hf
            · cases h
end Go.Proofs.YthmhcpghfbifiaaGreatDoor

/- A region that draws its order: what is read may be taken first where all that may come ahead of it leaves what is read as it was; one operation, which waits for all the others, need not. -/
namespace Go.Proofs.YthmhcpghfbifiaaGreatDoor
open Go.RowKit

section
variable {P : Program} {ops : Array Oper} {Q : Exit → Act → World → Prop} {md : Region.Mode} {S : World → Prop} {s : Nat}
/-- Whatever order is picked from here on, and S holds behind every operation that is carried out, but behind number s. -/
def wpAnyF (P : Program) (md : Region.Mode) (ops : Array Oper) (Q : Exit → Act → World → Prop) (S : World → Prop) (s : Nat) : Nat → Array Bool → Act → World → Prop
  | 0, listed, a, w => Region.ready md ops listed = [] ∧ Q .normal a w
  | fuel + 1, listed, a, w =>
    (Region.ready md ops listed = [] → Q .normal a w) ∧
    ∀ i ∈ Region.ready md ops listed, wpOp P ops Q i (fun a' w' => (i ≠ s → S w') ∧ wpAnyF P md ops Q S s fuel (listed.setIfInBounds i true) a' w') a w
theorem wpAny_of_F : ∀ (fuel : Nat) (listed : Array Bool) (a : Act) (w : World), wpAnyF P md ops Q S s fuel listed a w → wpAny P md ops Q fuel listed a w
  | 0, _, _, _, h => h
  | fuel + 1, _, _, _, h => ⟨h.1, fun i hi => wpOp_mono (fun a' w' h' => wpAny_of_F fuel _ a' w' h'.2) (h.2 i hi)⟩
theorem wpAnyF_first {i : Nat} {oi : Oper} {v : Value} (hi : ops[i]? = some oi) (hsel : ∀ (j : Nat) (o : Oper) cs b, ops[j]? = some o → o.op ≠ .select cs b)
    (hQ : ∀ c a w, Q (.panic c) (a.put oi.dst v) w → Q (.panic c) a w) (hs : Region.sinkB md ops s = true) (hc : Region.chainB md ops s = true) (hn : s < ops.size) (his : i < s) :
    ∀ (fuel : Nat) (listed : Array Bool) (a : Act) (w : World), HeadInv md ops s listed →
      (∀ j oj, ops[j]? = some oj → j ≠ i → listed.getD j true = false → (∀ e ∈ oj.after, Region.binds md e = true → e.on ≠ i) → oi.apart ops oj = true) →
      i ∈ Region.ready md ops listed → YieldsIf P ops S oi v a → S w →
      wpAnyF P md ops Q S s fuel (listed.setIfInBounds i true) (a.put oi.dst v) w → wpAnyF P md ops Q S s (fuel + 1) listed a w := by
  intro fuel
  induction fuel with
  | zero =>
    intro listed a w _ _ hr hy hS H
    refine ⟨fun h => (by rw [h] at hr; cases hr), fun j hj => ?_⟩
    by_cases hji : j = i
    · subst hji; exact hy.wpOp hi hS ⟨fun _ => hS, H⟩
    · have := ready_mono hj hji
      rw [H.1] at this
      cases this
  | succ fuel ih =>
    intro listed a w inv hfree hr hy hS H
    refine ⟨fun h => (by rw [h] at hr; cases hr), fun j hj => ?_⟩
    by_cases hji : j = i
    · subst hji; exact hy.wpOp hi hS ⟨fun _ => hS, H⟩
    · have h1 := H.2 j (ready_mono hj hji)
      obtain ⟨hjun, oj, hoj, hall⟩ := mem_ready.1 hj
      have hun := (mem_ready.1 hr).1
      have hnot : ∀ e ∈ oj.after, Region.binds md e = true → e.on ≠ i := fun e he hb heq => by
        have h1 := hall e he hb
        rw [heq, getD_both hun] at h1
        cases h1
      have hjs : j < s := by
        rcases Nat.lt_or_ge j s with h | h
        · exact h
        · exact absurd hj (tail_waits hs hc hn inv _ i rfl his hun j h)
      have h2 := wpOp_putIf hoj (hfree j oj hoj hji hjun hnot) (fun cs b => hsel i oi cs b hi) (fun cs b => hsel j oj cs b hoj) hQ hy h1
      have hfree' : ∀ k ok, ops[k]? = some ok → k ≠ i → (listed.setIfInBounds j true).getD k true = false →
          (∀ e ∈ ok.after, Region.binds md e = true → e.on ≠ i) → oi.apart ops ok = true := fun k ok hk hki hun hno => by
        refine hfree k ok hk hki ?_ hno
        by_cases hjk : j = k
        · subst hjk; exact hjun
        · rw [getD_set_ne true hjk] at hun; exact hun
      refine wpOp_mono (fun a' w' h3 => ⟨h3.2.1, ih (listed.setIfInBounds j true) a' w' (inv.set hj hjs) hfree' (ready_mono hr (Ne.symm hji)) h3.1 (h3.2.1 (by omega)) ?_⟩) h2
      rw [Array.setIfInBounds_comm _ _ hji]
      exact h3.2.2
/-- The order in which the region's last operation is the last one. -/
structure SunkF (md : Region.Mode) (ops : Array Oper) (s : Nat) : Prop where
  sink : Region.sinkB md ops s = true
  chain : Region.chainB md ops s = true
  lt : s < ops.size
  sel : Region.noSelect ops = true
/-- Number i, which reads what S tells, is taken first. -/
theorem wpAnyF_take {i : Nat} {oi : Oper} {v : Value} {fuel : Nat} {listed : Array Bool} {a : Act} {w : World} (k : SunkF md ops s) (inv : HeadInv md ops s listed) (his : i < s) (hi : ops[i]? = some oi)
    (hf : Region.free md ops listed i = true) (hr : (Region.ready md ops listed).contains i = true)
    (hQ : ∀ c a w, Q (.panic c) (a.put oi.dst v) w → Q (.panic c) a w) (hy : YieldsIf P ops S oi v a) (hS : S w)
    (h : HeadInv md ops s (listed.setIfInBounds i true) → wpAnyF P md ops Q S s fuel (listed.setIfInBounds i true) (a.put oi.dst v) w) : wpAnyF P md ops Q S s (fuel + 1) listed a w :=
  have hr' : i ∈ Region.ready md ops listed := by simpa using hr
  wpAnyF_first hi (Region.noSelect_spec k.sel) hQ k.sink k.chain k.lt his fuel listed a w inv (Region.free_spec hi hf) hr' hy hS (h (inv.set hr' his))
/-- One operation alone may come up. -/
theorem wpAnyF_one {i : Nat} {o : Oper} {fuel : Nat} {listed : Array Bool} {a : Act} {w : World} (inv : HeadInv md ops s listed) (his : i < s) (hr : Region.ready md ops listed = [i]) (hi : ops[i]? = some o)
    (h : ∀ K : Act → World → Prop, Hid (∀ a' w', S w' → (HeadInv md ops s (listed.setIfInBounds i true) → wpAnyF P md ops Q S s fuel (listed.setIfInBounds i true) a' w') → K a' w') → if Region.wanted o (yielded ops a.tmps) = true then o.wp P a w K Q else K (a.put o.dst undef) w) : wpAnyF P md ops Q S s (fuel + 1) listed a w := by
  refine ⟨fun h0 => (by rw [hr] at h0; cases h0), fun j hj => ?_⟩
  have hj' := hj
  rw [hr] at hj
  obtain rfl : j = i := by simpa using hj
  have h1 := h _ (hide (fun a' w' h1 h2 => (⟨fun _ => h1, h2 (inv.set hj' his)⟩ : (j ≠ s → S w') ∧ wpAnyF P md ops Q S s fuel (listed.setIfInBounds j true) a' w')))
  unfold wpOp
  rw [hi]
  dsimp only
  split
  · rename_i hw
    rw [if_pos hw] at h1
    exact .inl h1
  · rename_i hw
    rw [if_neg hw] at h1
    exact h1
/-- The last one. -/
theorem wpAnyF_last {o : Oper} {listed : Array Bool} {a : Act} {w : World} (hr : Region.ready md ops listed = [s]) (hr2 : Region.ready md ops (listed.setIfInBounds s true) = []) (hi : ops[s]? = some o)
    (h : ∀ K : Act → World → Prop, Hid (∀ a' w', Q .normal a' w' → K a' w') → if Region.wanted o (yielded ops a.tmps) = true then o.wp P a w K Q else K (a.put o.dst undef) w) : wpAnyF P md ops Q S s 1 listed a w := by
  refine ⟨fun h0 => (by rw [hr] at h0; cases h0), fun j hj => ?_⟩
  rw [hr] at hj
  obtain rfl : j = s := by simpa using hj
  have h1 := h _ (hide (fun a' w' h1 => (⟨fun h => absurd rfl h, hr2, h1⟩ : (j ≠ j → S w') ∧ wpAnyF P md ops Q S j 0 (listed.setIfInBounds j true) a' w')))
  unfold wpOp
  rw [hi]
  dsimp only
  split
  · rename_i hw
    rw [if_pos hw] at h1
    exact .inl h1
  · rename_i hw
    rw [if_neg hw] at h1
    exact h1
theorem wp_region_F {id : Nat} {a : Act} {w : World} (s n : Nat) (S : World → Prop) (hm : P.follows .mixedOrders = true) (hn : ops.size = n) (h1 : Region.sinkB .any ops s = true) (h2 : Region.chainB .any ops s = true) (h3 : s < n) (h4 : Region.noSelect ops = true)
    (h : SunkF .any ops s → HeadInv .any ops s (Array.replicate n false) → wpAnyF P .any ops Q S s n (Array.replicate n false) a w.drew) : (Code.region id ops true).wp P Q a w := by
  subst hn
  exact wp_region_any hm (wpAny_of_F _ _ _ _ (h ⟨h1, h2, h3, h4⟩ ⟨by simp, fun j oj _ hl => (by rw [getD_replicate_false] at hl; cases hl), fun t _ ht => getD_in (by simpa using ht) (getD_replicate_false _ _)⟩))
end
end Go.Proofs.YthmhcpghfbifiaaGreatDoor

/- The decoder's value, where it gives up. -/
namespace Go.Proofs.YthmhcpghfbifiaaGreatDoor
open Go.RowKit

def DecF (l : List UInt8) (n : Nat) : Prop := ∀ (w : World) (db B p q : Nat) (sl : Value), DecAt w db sl p q → BytesIn w 0 B sl l → B ≤ db → p ≤ l.length → l.length ≤ 1000000000000 → q ≤ 4096 → 4097 ≤ n + q → decM l n p q = none →
  Calls Tryz.prog 104 #[.pointer (some ⟨db, 0, none⟩)] w fun e w' => e = gaveUp ∧ w.grownBy w' (some db)
set_option maxRecDepth 100000 in
set_option maxHeartbeats 4000000 in
theorem decf_step {l : List UInt8} {n : Nat} (hF : DecF l n) : DecF l (n + 1) := by
  intro w db B p q sl hD hB hBd hp hl hq hn hdec
  have hdb : db < w.heap.size := (Array.getElem?_eq_some_iff.1 hD).1
  obtain ⟨W, hW⟩ : ∃ W, w.alloc (.cells zcells 46) = W := ⟨_, rfl⟩
  have bW : Below w.heap.size w W := by rw [← hW]; exact alloc_v (Below.refl _ _) _
  have e1 : W.heap[w.heap.size]? = some (.cells zcells 46 (0, 0)) := by rw [← hW]; exact World.alloc_heap_new w _
  have zW : W.heap.size = w.heap.size + 1 := by rw [← hW]; simp
  have f1 : W.heap[db]? = some (.cells #[sl, .int .i64 p, .int .i64 q] 166 (0, 0)) := (bW.block _ hdb).trans hD
  have x2 := cells_at f1 2 _ rfl
  have z2 := frozen_at f1 2
  have hadd : IntKind.i64.wrap ((q : Int) + 1) = (q : Int) + 1 := by rw [IntKind.wrap_i64]; omega
  have f2 := heap_setCell_same _ _ 2 _ _ (.int .i64 ((q : Int) + 1)) f1
  have D1 : DecAt (W.setCell ⟨db, 2, none⟩ (.int .i64 ((q : Int) + 1))) db sl p (q + 1) := f2
  have g1 : w.grownBy (W.setCell ⟨db, 2, none⟩ (.int .i64 ((q : Int) + 1))) (some db) := grown_more (grown_of_below bW) (grown_set1 _ _ _ _)
  simp only [decM] at hdec
  split at hdec
  · rename_i hq1
    have hq2 : (4096 : Int) < (q : Int) + 1 := by omega
    have G1 := hide g1
    clear hD hB e1 f1 f2 D1 g1 hdec hF
    go_enter Tryz.func104, Tryz.ntmps104
    go_wp2
    exact ⟨rfl, rfl, G1.out⟩
  rename_i hq1
  cases e : headM (seen l p) with
  | none =>
    have HH := hide (head_no _ db B sl l p (q + 1) D1 (hB.grownV g1 hBd (by omega)) hBd hp hl e)
    have G1 := hide g1
    have hq1' : ¬ (4096 : Int) < (q : Int) + 1 := by omega
    clear hD hB e1 f1 f2 D1 g1 hdec hF e
    go_enter Tryz.func104, Tryz.ntmps104
    go_wp2_with (go_at_call 136; refine HH.out.mono ?_; clear HH; rintro e w2 ⟨rfl, b2⟩; have B2 := hide b2; clear b2)
    exact ⟨rfl, rfl, grown_more G1.out (grown_of_below B2.out)⟩
  | some t =>
  obtain ⟨u, K, r⟩ := t
  rw [e] at hdec
  simp only at hdec
  have hsz : (seen l p).length ≤ 139 ∧ (seen l p).length ≤ l.length - p := by unfold seen; simp; omega
  have ho := headM_ok e hsz.1
  cases e2 : itsM (decM l n) K (p + ((seen l p).length - r.length)) (q + 1) with
  | some t => rw [e2] at hdec; cases hdec
  | none =>
  have hK : K < 18446744073709551616 := ho.2.2.2
  have HH := hide (head_k _ db B sl l p (q + 1) D1 (hB.grownV g1 hBd (by omega)) hBd hp hl e)
  have HE1 := hide ((Below.heap_setCell W ⟨db, 2, none⟩ (.int .i64 ((q : Int) + 1)) w.heap.size (by show w.heap.size ≠ db; omega)).trans e1)
  have HG1 := hide g1
  have HS1 : Hid ((W.setCell ⟨db, 2, none⟩ (.int .i64 ((q : Int) + 1))).heap.size = w.heap.size + 1) := by show _ = _; simpa [World.setCell] using zW
  have HB := hide hB
  have HC := hide (decv_k l n)
  have HF := hide hF
  have HE2 := hide e2
  have HO := hide ho
  have hp1 : p + ((seen l p).length - r.length) ≤ l.length := by omega
  generalize p + ((seen l p).length - r.length) = p1 at *
  have hq1' : ¬ (4096 : Int) < (q : Int) + 1 := by omega
  clear e1 f1 f2 D1 g1 hB e2 ho e hsz hD hF hdec
  obtain ⟨uk, ui, um, ut, ul⟩ := u
  go_enter Tryz.func104, Tryz.ntmps104
  go_wp2_with (go_at_call 136; refine HH.out.mono ?_; clear HH; rintro e w2 ⟨rfl, d2, g2⟩; have D2 := hide d2; have G2 := hide g2; clear d2 g2)
  clear hW x2 z2 hadd
  have hS2 : w.heap.size + 1 ≤ w2.heap.size := by have := G2.out.size; have := HS1.out; omega
  have GW := hide (grown_more HG1.out G2.out)
  clear HG1 G2 HE1 HS1 bW zW
  go_loopw [24] (fun i wr => ∃ (k : Nat) (xs : List Vl) (pk qk : Nat) (o : Value), k ≤ K ∧ i = .int .u64 k ∧ xs.length = k ∧ itsM (decM l n) (K - k) pk qk = none ∧ pk ≤ l.length ∧ qk ≤ 4096 ∧ q + 1 + k ≤ qk ∧ wr.heap[w2.heap.size]? = some (.cells #[.int .i64 uk, .int .i64 ui, .int .i64 um, .string ut, o] 46 (0, 0)) ∧ OwnAt wr (w2.heap.size + 1) n o xs ∧ DecAt wr db sl pk qk ∧ w.grownBy wr (some db) ∧ w2.heap.size + 1 ≤ wr.heap.size)
    (fun i _ => K - (intOf i).toNat)
  case atStart =>
    refine ⟨0, [], p1, q + 1, .slice none 0 0, Nat.zero_le _, rfl, rfl, HE2.out, hp1, by omega, by omega, World.alloc_heap_new w2 _, OwnAt.nil _ _ _, (Below.heap_alloc _ _ _ (by omega)).trans D2.out, grown_more GW.out (grown_of_below (alloc_v (Below.refl _ _) _)), by simp⟩
  case round =>
    obtain ⟨k, xs, pk, qk, o, hk, rfl, hxk, hits, hpk, hqk, hqq, hvb, hO, hDk, hgr, hsz⟩ := hrel
    have hlt : k < K := by
      by_cases h : k < K
      · exact h
      · rw [show K - k = 0 by omega] at hits
        simp [itsM] at hits
    obtain ⟨j, hj⟩ : ∃ j, K - k = j + 1 := ⟨K - k - 1, by omega⟩
    rw [hj] at hits
    simp only [itsM] at hits
    have HV := hide (fun (U : World) (g : wr.grownBy U (some db)) => (g.block w2.heap.size (by omega) (by simp; omega)).trans hvb)
    have c4 := cells_at hvb 4 _ rfl
    obtain ⟨oa, oc, rfl⟩ := hO.len
    cases eg : decM l n pk qk with
    | none =>
      have HX := hide (HF.out wr.drew db B pk qk sl hDk (HB.out.grownV ⟨hgr.os, hgr.tape, hgr.output, hgr.size, hgr.block⟩ hBd (by omega)) hBd hpk hl hqk (by omega) eg)
      have HG := hide hgr
      clear hvb hO hDk hgr eg hits hpk hqk hxk HV
      go_wp2
      refine wp_region_F 7 8 (fun U => U.cell? ⟨w2.heap.size, 4, none⟩ = some (.slice oa xs.length oc)) (by kernel_rfl) (by kernel_rfl) (by kernel_rfl) (by kernel_rfl) (by decide) (by kernel_rfl) ?_
      intro hsk inv
      have HS4 : Hid (wr.drew.cell? ⟨w2.heap.size, 4, none⟩ = some (.slice oa xs.length oc)) := c4
      refine wpAnyF_take (i := 0) (v := ?v0) hsk inv (by decide) rfl (by kernel_rfl) (by kernel_rfl) (fun _ _ _ h => h) (Or.inl ⟨by rfl, ?hy0⟩) HS4.out ?rest0
      case hy0 => intro U hU; (try dsimp only at hU); go_simp; (try with_reducible rfl)
      case rest0 =>
      clear inv
      intro inv
      (try simp only [Act.put, List.setIfInBounds_toArray])
      refine wpAnyF_take (i := 1) (v := ?v1) hsk inv (by decide) rfl (by kernel_rfl) (by kernel_rfl) (fun _ _ _ h => h) (Or.inl ⟨by rfl, ?hy1⟩) HS4.out ?rest1
      case hy1 => intro U hU; (try dsimp only at hU); go_simp; (try with_reducible rfl)
      case rest1 =>
      clear inv
      intro inv
      (try simp only [Act.put])
      refine wpAnyF_take (i := 2) (v := ?v2) hsk inv (by decide) rfl (by kernel_rfl) (by kernel_rfl) (fun _ _ _ h => h) (Or.inl ⟨by rfl, ?hy2⟩) HS4.out ?rest2
      case hy2 => intro U hU; (try dsimp only at hU); go_simp; (try with_reducible rfl)
      case rest2 =>
      clear inv
      intro inv
      (try simp only [Act.put])
      refine wpAnyF_one (i := 3) inv (by decide) (by kernel_rfl) rfl (fun K hK => ?_)
      go_simp
      go_at_call 104
      refine HX.out.mono ?_
      rintro r w4 ⟨rfl, g4'⟩
      exact ⟨rfl, rfl, grown_more HG.out ⟨g4'.os, g4'.tape, g4'.output, g4'.size, g4'.block⟩⟩
    | some t =>
    obtain ⟨x, p3, q3⟩ := t
    rw [eg] at hits
    simp only at hits
    cases e3 : itsM (decM l n) j p3 q3 with
    | some t => rw [e3] at hits; cases hits
    | none =>
    have hle := decM_le l n hpk eg
    have HX := hide (HC.out wr.drew db B pk qk sl x p3 q3 hDk (HB.out.grownV ⟨hgr.os, hgr.tape, hgr.output, hgr.size, hgr.block⟩ hBd (by omega)) hBd hpk hl hqk eg)
    have hxl : xs.length + 1 ≤ 1000000000 := by omega
    have HP := hide (fun (U : World) (s : Value) (g : wr.grownBy U (some db)) (i : ItemsIn U (fun b => wr.heap.size ≤ b ∧ b < U.heap.size) n s x.items) =>
      OwnAt.pushX (ty := 44) (x := x) (hO.far g.size (fun k h1 h2 => g.block k h2 (by simp; omega))) (by have := g.size; omega) (i.kept (fun _ _ _ => rfl) (fun b hb => ⟨by omega, hb.2, fun eq => by have := (hO.lt eq.symm).2; omega⟩)) (decM_ok eg) hxl)
    have HH := hide (And.intro hgr (And.intro hxk (And.intro e3 hle)))
    have HQQ := hide hqq
    clear hvb hO hDk hgr e3 eg hle hxl hpk hqk hxk hits hqq
    go_wp2
    go_region_law
      (first
        | ((go_simp; go_at_call 104; refine HX.out.mono ?_; clear HX; rintro e w4 ⟨s4, rfl, i4, d4, g4'⟩; have g4 : wr.grownBy w4 (some db) := ⟨g4'.os, g4'.tape, g4'.output, g4'.size, g4'.block⟩; obtain ⟨sa4, sc4, rfl, _⟩ := i4.len; obtain ⟨v5, w5, hrun, o5, b5⟩ := HP.out w4 _ g4 i4; obtain ⟨va, vc, rfl⟩ := o5.len; have k4 : w4.cell? ⟨w2.heap.size, 4, none⟩ = some (.slice oa xs.length oc) := cells_at (HV.out w4 g4) 4 _ rfl; have k4a := fun ob : Obj => (World.cell?_alloc_some w4 ⟨w2.heap.size, 4, none⟩ ob (by rw [k4]; rfl)).trans k4; have F4 := hide (HV.out w4 g4); have RN := hide hrun; have O5 := hide o5; have B5 := hide b5; have D4 := hide d4; have G4 := hide g4; clear hrun o5 b5 d4 g4 g4' i4 HP))
        | ((refine step_runV _ (by rfl) (.tmp 27) (.tmp 30) 44 (by rfl) _ _ (by rfl) (by rfl) _ w5 RN.out ?_; have f5 := (B5.out.block w2.heap.size (by omega)).trans F4.out; have k5 := cells_at f5 4 _ rfl; have z5 := frozen_at f5 4; have F5 := hide f5; clear f5 k4 k4a)))
    all_goals
      go_wp2
      go_roundw
      case rel =>
        have hh := HH.out
        have hL5 := B5.out.size
        have hL4 := G4.out.size
        have h1 : w2.heap.size + 1 ≤ w4.heap.size := by omega
        have g5 := grown_L (grown_more hh.1 G4.out) B5.out (by omega) h1
        have hqq := HQQ.out
        refine ⟨k + 1, xs ++ [x], p3, q3, .slice va (xs ++ [x]).length vc, by omega, by go_num, by rw [List.length_append, hh.2.1]; rfl, ?_, hh.2.2.2.1, hh.2.2.2.2.2, by have := hh.2.2.2.2.1; omega, ?_, ?_, ?_, grown_far g5 (by omega), ?_⟩
        · rw [show K - (k + 1) = j by omega]
          exact hh.2.2.1
        · rw [List.length_append]
          exact heap_setCell_same _ _ 4 _ _ _ F5.out
        · exact O5.out.far (by simp [World.setCell]) (fun k h1 _ => Below.heap_setCell _ _ _ _ (by show k ≠ w2.heap.size; omega))
        · exact (Below.heap_setCell _ _ _ _ (by show db ≠ w2.heap.size; omega)).trans ((B5.out.block db (by omega)).trans D4.out)
        · simp only [World.setCell]
          simpa using (show w2.heap.size + 1 ≤ w5.heap.size by omega)
      case measure => simp [intOf]; omega
theorem decf_k (l : List UInt8) : ∀ n, DecF l n
  | 0 => fun _ _ _ _ _ _ _ _ _ _ _ hq hn _ => by omega
  | n + 1 => decf_step (decf_k l n)
end Go.Proofs.YthmhcpghfbifiaaGreatDoor

/- Decode, where it answers an error. -/
namespace Go.Proofs.YthmhcpghfbifiaaGreatDoor
open Go.RowKit

theorem catch_end3 (w : World) (b0 b1 b2 : Nat) (h01 : b0 ≠ b1) (h02 : b0 ≠ b2) (h12 : b1 ≠ b2) (x0 x1 x2 x3 x4 y z : Value) (f0 : w.heap[b0]? = some (.cells #[x0, x1, x2, x3, x4] 46 (0, 0))) (f1 : w.heap[b1]? = some (.cells #[y] 3 (0, 0))) (f2 : w.heap[b2]? = some (.cells #[z] 24 (0, 0))) (Y : World) (hY : Y = (((((((w.setCell ⟨b0, 0, none⟩ (.int .i64 0)).setCell ⟨b0, 1, none⟩ (.int .i64 0)).setCell ⟨b0, 2, none⟩ (.int .i64 0)).setCell ⟨b0, 3, none⟩ (.string ⟨#[]⟩)).setCell ⟨b0, 4, none⟩ (.slice none 0 0)).setCell ⟨b1, 0, none⟩ (.int .i64 0)).setCell ⟨b2, 0, none⟩ (.int .i64 41))) :
    Y.heap[b0]? = some (.cells zcells 46 (0, 0)) ∧ Y.heap[b1]? = some (.cells #[.int .i64 0] 3 (0, 0)) ∧ Y.heap[b2]? = some (.cells #[.int .i64 41] 24 (0, 0)) ∧ Y.heap.size = w.heap.size ∧ (∀ k, k ≠ b0 → k ≠ b1 → k ≠ b2 → Y.heap[k]? = w.heap[k]?) ∧ Y.os = w.os ∧ Y.tape = w.tape ∧ Y.output = w.output := by
  subst hY
  have g1 := heap_setCell_same _ _ 0 _ _ (.int .i64 0) f0
  have g2 := heap_setCell_same _ _ 1 _ _ (.int .i64 0) g1
  have g3 := heap_setCell_same _ _ 2 _ _ (.int .i64 0) g2
  have g4 := heap_setCell_same _ _ 3 _ _ (.string ⟨#[]⟩) g3
  have g5 := heap_setCell_same _ _ 4 _ _ (.slice none 0 0) g4
  have k0 := (stored_block w b0 b1 (.int .i64 0) (.int .i64 0) (.int .i64 0) (.string ⟨#[]⟩) (.slice none 0 0) h01.symm).trans f1
  have k1 := heap_setCell_same _ _ 0 _ _ (.int .i64 0) k0
  have j0 := (stored_block w b0 b2 (.int .i64 0) (.int .i64 0) (.int .i64 0) (.string ⟨#[]⟩) (.slice none 0 0) h02.symm).trans f2
  have j1 := heap_setCell_same _ _ 0 _ _ (.int .i64 41) ((Below.heap_setCell _ ⟨b1, 0, none⟩ (.int .i64 0) _ h12.symm).trans j0)
  have bb := ((((((((Below.refl 0 w).setCell (p := ⟨b0, 0, none⟩) (Nat.zero_le _) (.int .i64 0)).setCell (p := ⟨b0, 1, none⟩) (Nat.zero_le _) (.int .i64 0)).setCell (p := ⟨b0, 2, none⟩) (Nat.zero_le _) (.int .i64 0)).setCell (p := ⟨b0, 3, none⟩) (Nat.zero_le _) (.string ⟨#[]⟩)).setCell (p := ⟨b0, 4, none⟩) (Nat.zero_le _) (.slice none 0 0)).setCell (p := ⟨b1, 0, none⟩) (Nat.zero_le _) (.int .i64 0)).setCell (p := ⟨b2, 0, none⟩) (Nat.zero_le _) (.int .i64 41))
  refine ⟨?_, ?_, j1, by simp [World.setCell], fun k h0 h1 h2 => ?_, bb.os, bb.tape, bb.output⟩
  · rw [Below.heap_setCell _ _ _ _ h02, Below.heap_setCell _ _ _ _ h01]
    exact g5
  · rw [Below.heap_setCell _ _ _ _ h12]
    exact k1
  · rw [Below.heap_setCell _ _ _ _ h2, Below.heap_setCell _ _ _ _ h1]
    exact stored_block w b0 k _ _ _ _ _ h0
set_option maxRecDepth 100000 in
theorem decCatch (b0 b1 b2 : Nat) (w : World) (h01 : b0 ≠ b1) (h02 : b0 ≠ b2) (h12 : b1 ≠ b2) (f0 : ∃ cs : Array Value, cs.size = 5 ∧ w.heap[b0]? = some (.cells cs 46 (0, 0))) (f1 : ∃ y, w.heap[b1]? = some (.cells #[y] 3 (0, 0))) (f2 : ∃ z, w.heap[b2]? = some (.cells #[z] 24 (0, 0))) :
    CallsD Tryz.prog 103 #[.pointer (some ⟨b0, 0, none⟩), .pointer (some ⟨b1, 0, none⟩), .pointer (some ⟨b2, 0, none⟩)] (.panicking [{ v := .iface 24 (.int .i64 41), recovered := false }]) w fun e u' w' =>
      e = .returned (.tuple #[]) ∧ u' = .panicking [{ v := .iface 24 (.int .i64 41), recovered := true }] ∧
      w'.heap[b0]? = some (.cells zcells 46 (0, 0)) ∧ w'.heap[b1]? = some (.cells #[.int .i64 0] 3 (0, 0)) ∧ w'.heap[b2]? = some (.cells #[.int .i64 41] 24 (0, 0)) ∧ w'.heap.size = w.heap.size ∧ (∀ k, k ≠ b0 → k ≠ b1 → k ≠ b2 → w'.heap[k]? = w.heap[k]?) ∧ w'.os = w.os ∧ w'.tape = w.tape ∧ w'.output = w.output := by
  obtain ⟨⟨l0⟩, h0, f0⟩ := f0
  obtain ⟨x0, x1, x2, x3, x4, rfl⟩ := list5 h0
  obtain ⟨y, f1⟩ := f1
  obtain ⟨z, f2⟩ := f2
  have u0 := cells_at f0 0 _ rfl
  have uz0 := frozen_at f0 0
  have u1 := cells_at f0 1 _ rfl
  have uz1 := frozen_at f0 1
  have u2 := cells_at f0 2 _ rfl
  have uz2 := frozen_at f0 2
  have u3 := cells_at f0 3 _ rfl
  have uz3 := frozen_at f0 3
  have u4 := cells_at f0 4 _ rfl
  have uz4 := frozen_at f0 4
  have v0 := cells_at f1 0 _ rfl
  have vz0 := frozen_at f1 0
  have t0 := cells_at f2 0 _ rfl
  have tz0 := frozen_at f2 0
  have F0 := hide f0
  have F1 := hide f1
  have F2 := hide f2
  have n1 := h01.symm
  have n2 := h02.symm
  have n3 := h12.symm
  have hta : ∀ w : World, (Instr.typeAssert (.iface 24 (.int .i64 41)) 20 24 false).run Tryz.prog w = .ok (.int .i64 41) w := fun _ => by kernel_rfl
  clear f0 f1 f2
  refine callsD_of_wpS Tryz.func103 rfl fun c₀ cs hu => ?_
  apply wpS_seq
  apply wpS_region
  simp [wpOpsS, go_sem, recoverD, hu, Tryz.ntmps103, Exit.thenS]
  refine wpS_of_wp ?_
  go_wp2
  simp only [Array.replicate_succ, Array.replicate_zero, List.push_toArray, List.nil_append, List.cons_append, List.setIfInBounds_toArray, List.set_cons_zero, List.set_cons_succ, List.append_toArray]
  go_region
  have E := catch_end3 w b0 b1 b2 h01 h02 h12 _ _ _ _ _ _ _ F0.out F1.out F2.out _ rfl
  generalize (((((((w.setCell ⟨b0, 0, none⟩ (.int .i64 0)).setCell ⟨b0, 1, none⟩ (.int .i64 0)).setCell ⟨b0, 2, none⟩ (.int .i64 0)).setCell ⟨b0, 3, none⟩ (.string ⟨#[]⟩)).setCell ⟨b0, 4, none⟩ (.slice none 0 0)).setCell ⟨b1, 0, none⟩ (.int .i64 0)).setCell ⟨b2, 0, none⟩ (.int .i64 41)) = Y at E ⊢
  obtain ⟨q1, q2, q3, q4, q5, q6, q7, q8⟩ := E
  refine ⟨rfl, _, rfl, .tuple #[], by simp [results, Tryz.results103], rfl, rfl, q1, q2, q3, q4, q5, q6, q7, q8⟩
/-- Decode's first statements. -/
theorem dec_start (w W : World) (hW : ((w.alloc (.cells zcells 46)).alloc (.cells #[.int .i64 0] 3)).alloc (.cells #[.int .i64 0] 24) = W) : Below w.heap.size w W ∧ W.heap.size = w.heap.size + 3 ∧ W.heap[w.heap.size]? = some (.cells zcells 46 (0, 0)) ∧ W.heap[w.heap.size + 1]? = some (.cells #[.int .i64 0] 3 (0, 0)) ∧ W.heap[w.heap.size + 2]? = some (.cells #[.int .i64 0] 24 (0, 0)) := by
  refine ⟨by rw [← hW]; exact alloc_v (alloc_v (alloc_v (Below.refl _ _) _) _) _, by rw [← hW]; simp, ?_, ?_, ?_⟩
  · rw [← hW]; exact (Below.heap_alloc _ _ _ (by simp only [World.size_alloc]; omega)).trans ((Below.heap_alloc _ _ _ (by simp only [World.size_alloc]; omega)).trans (World.alloc_heap_new w _))
  · rw [← hW]
    refine (Below.heap_alloc _ _ _ (by simp only [World.size_alloc]; omega)).trans ?_
    have := World.alloc_heap_new (w.alloc (.cells zcells 46)) (.cells #[.int .i64 0] 3)
    rwa [World.size_alloc] at this
  · rw [← hW]
    have := World.alloc_heap_new ((w.alloc (.cells zcells 46)).alloc (.cells #[.int .i64 0] 3)) (.cells #[.int .i64 0] 24)
    rwa [World.size_alloc, World.size_alloc] at this
set_option maxRecDepth 100000 in
set_option maxHeartbeats 2000000 in
/-- Decode, where no value is read. -/
theorem decode_none (n : Nat) (w : World) (sl : Value) (l : List UInt8) (hB : BytesIn w 0 w.heap.size sl l) (hl : l.length ≤ 1000000000000) (hn : 4097 ≤ n) (hd : decM l n 0 0 = none) :
    Calls Tryz.prog 79 #[sl] w fun e w' => e = .returned (.tuple #[.agg zcells, .int .i64 0, .int .i64 41]) ∧ Below w.heap.size w w' := by
  have hmf : ∀ (fn : Fn) (first cap : Array Value) (w : World), (Instr.makeFunc fn first cap).run Tryz.prog w = .ok (.func fn first cap) w := fun _ _ _ _ => rfl
  obtain ⟨W, hW⟩ : ∃ W, ((w.alloc (.cells zcells 46)).alloc (.cells #[.int .i64 0] 3)).alloc (.cells #[.int .i64 0] 24) = W := ⟨_, rfl⟩
  obtain ⟨bW, zW, e0, e1, e2⟩ := dec_start w W hW
  obtain ⟨a, c, rfl, _⟩ := id hB
  have HV := hide (decf_k l n (W.alloc (.cells #[.slice a l.length c, .int .i64 0, .int .i64 0] 166)) (w.heap.size + 3) w.heap.size 0 0 (.slice a l.length c) (by rw [← zW]; exact World.alloc_heap_new W _) (hB.mono (fun b o _ hb => (alloc_v bW _).cell (p := ⟨b, o, none⟩) hb) (Nat.le_refl _) (Nat.le_refl _)) (by omega) (Nat.zero_le _) hl (by omega) (by omega) hd)
  have HE := hide (And.intro e0 (And.intro e1 e2))
  clear e0 e1 e2 hd hB
  go_enter_defers Tryz.func79, Tryz.ntmps79
  go_wp2_with (go_at_call 104; refine HV.out.mono ?_; clear HV; rintro e w2 ⟨rfl, g2⟩; have hz2 := g2.size; rw [World.size_alloc, zW] at hz2; have K0 := hide ((g2.block w.heap.size (by rw [World.size_alloc]; omega) (by simp)).trans ((Below.heap_alloc _ _ _ (by omega)).trans HE.out.1)); have K1 := hide ((g2.block (w.heap.size + 1) (by rw [World.size_alloc]; omega) (by simp)).trans ((Below.heap_alloc _ _ _ (by omega)).trans HE.out.2.1)); have K2 := hide ((g2.block (w.heap.size + 2) (by rw [World.size_alloc]; omega) (by simp)).trans ((Below.heap_alloc _ _ _ (by omega)).trans HE.out.2.2)); have B2 := hide (below_of_grown (grown_more (grown_of_below (alloc_v bW _)) g2) (show w.heap.size ≤ w.heap.size + 3 by omega)); clear g2)
  refine leaves_cons (f := 103) (args := #[.pointer (some ⟨w.heap.size, 0, none⟩), .pointer (some ⟨w.heap.size + 1, 0, none⟩), .pointer (some ⟨w.heap.size + 1 + 1, 0, none⟩)]) (by simp) (by simp [go_sem]) ?_
  refine (decCatch w.heap.size (w.heap.size + 1) (w.heap.size + 1 + 1) w2 (by omega) (by omega) (by omega) ⟨_, rfl, K0.out⟩ ⟨_, K1.out⟩ ⟨_, K2.out⟩).mono ?_
  rintro e u' w9 ⟨rfl, rfl, q1, q2, q3, q4, q5, q6, q7, q8⟩
  refine ⟨_, results3 (t0 := 46) (t1 := 3) (t2 := 24) rfl _ _ ⟨w.heap.size, 0, none⟩ ⟨w.heap.size + 1, 0, none⟩ ⟨w.heap.size + 1 + 1, 0, none⟩ (.agg zcells) (.int .i64 0) (.int .i64 41) rfl rfl rfl (load_val rfl q1) (load_int q2) (load_errno q3), rfl, ?_⟩
  exact ⟨q6.trans B2.out.os, q7.trans B2.out.tape, q8.trans B2.out.output, by rw [q4]; exact B2.out.size, fun k hk => (q5 k (by omega) (by omega) (by omega)).trans (B2.out.block k hk)⟩
set_option maxRecDepth 100000 in
set_option maxHeartbeats 2000000 in
/-- Decode, where what is read is not right. -/
theorem decode_wrong (n : Nat) (w : World) (sl : Value) (l : List UInt8) (v : Vl) (p' q' : Nat) (hT : Tabs w) (hB : BytesIn w 0 w.heap.size sl l) (hl : l.length ≤ 1000000000000) (hd : decM l n 0 0 = some (v, p', q')) (hr : rightV v = false) :
    Calls Tryz.prog 79 #[sl] w fun e w' => e = .returned (.tuple #[.agg zcells, .int .i64 0, .int .i64 41]) ∧ Below w.heap.size w w' := by
  have hmf : ∀ (fn : Fn) (first cap : Array Value) (w : World), (Instr.makeFunc fn first cap).run Tryz.prog w = .ok (.func fn first cap) w := fun _ _ _ _ => rfl
  obtain ⟨W, hW⟩ : ∃ W, ((w.alloc (.cells zcells 46)).alloc (.cells #[.int .i64 0] 3)).alloc (.cells #[.int .i64 0] 24) = W := ⟨_, rfl⟩
  obtain ⟨bW, zW, e0, e1, e2⟩ := dec_start w W hW
  obtain ⟨a, c, rfl, _⟩ := id hB
  have hvt := (decM_ok hd).1
  obtain ⟨vk, vi, vm, vt, vl⟩ := v
  have hV := decv_k l n (W.alloc (.cells #[.slice a l.length c, .int .i64 0, .int .i64 0] 166)) (w.heap.size + 3) w.heap.size 0 0 (.slice a l.length c) ⟨vk, vi, vm, vt, vl⟩ p' q' (by rw [← zW]; exact World.alloc_heap_new W _) (hB.mono (fun b o _ hb => (alloc_v bW _).cell (p := ⟨b, o, none⟩) hb) (Nat.le_refl _) (Nat.le_refl _)) (by omega) (Nat.zero_le _) hl (by omega) hd
  have HV := hide hV
  have HT := hide (fun (U : World) (b : Below w.heap.size w U) => hT.below b)
  have HR := hide hr
  have HE := hide (And.intro e0 (And.intro e1 e2))
  clear hV hT hr e0 e1 e2 hd hB
  go_enter_defers Tryz.func79, Tryz.ntmps79
  go_wp2_with (first
    | (go_at_call 104; refine HV.out.mono ?_; clear HV; rintro e w2 ⟨s2, rfl, i2, d2, g2⟩; obtain ⟨sa, sc, rfl, _⟩ := i2.len; have bw2 := below_of_grown (grown_more (grown_of_below (alloc_v bW _)) g2) (show w.heap.size ≤ w.heap.size + 3 by omega); have f0 := (g2.block w.heap.size (by rw [World.size_alloc]; omega) (by simp)).trans ((Below.heap_alloc _ _ _ (by omega)).trans HE.out.1); have g := stored w w2 vk vi vm vt (.slice sa vl.length sc) zcells w.heap.size (Nat.le_refl _) bw2 rfl f0; have r0 := cells_at f0 0 _ rfl; have rz0 := frozen_at f0 0; have r1 := cells_at f0 1 _ rfl; have rz1 := frozen_at f0 1; have r2 := cells_at f0 2 _ rfl; have rz2 := frozen_at f0 2; have r3 := cells_at f0 3 _ rfl; have rz3 := frozen_at f0 3; have r4 := cells_at f0 4 _ rfl; have rz4 := frozen_at f0 4; have HRX := hide (right_k ⟨vk, vi, vm, vt, vl⟩ _ n (.slice sa vl.length sc) (HT.out _ g.2) hvt ((i2.kept (S' := fun b => b < (((((w2.setCell ⟨w.heap.size, 0, none⟩ (.int .i64 vk)).setCell ⟨w.heap.size, 1, none⟩ (.int .i64 vi)).setCell ⟨w.heap.size, 2, none⟩ (.int .i64 vm)).setCell ⟨w.heap.size, 3, none⟩ (.string vt)).setCell ⟨w.heap.size, 4, none⟩ (.slice sa vl.length sc)).heap.size) (fun b o hb => stored_cell2 _ _ _ _ _ _ _ _ _ (by have := hb.1; rw [World.size_alloc] at this; omega)) (fun b hb => by simpa using hb.2)).at (fun b hb => hb))); rw [HR.out] at HRX; have G2 := hide g2; have GG := hide g; clear i2 d2 g2 g bw2 f0)
    | (go_at_call 26; refine HRX.out.mono ?_; clear HRX; rintro e w3 ⟨rfl, b3⟩; have B3 := hide b3; clear b3))
  have hs2 := G2.out.size
  rw [World.size_alloc, zW] at hs2
  have hs3 := B3.out.size
  have hsX : w2.heap.size = (((((w2.setCell ⟨w.heap.size, 0, none⟩ (.int .i64 vk)).setCell ⟨w.heap.size, 1, none⟩ (.int .i64 vi)).setCell ⟨w.heap.size, 2, none⟩ (.int .i64 vm)).setCell ⟨w.heap.size, 3, none⟩ (.string vt)).setCell ⟨w.heap.size, 4, none⟩ (.slice sa vl.length sc)).heap.size := by simp [World.setCell]
  rw [← hsX] at hs3
  have f0 := (B3.out.block w.heap.size (by rw [← hsX]; omega)).trans GG.out.1
  have f1 := (B3.out.block (w.heap.size + 1) (by rw [← hsX]; omega)).trans ((stored_block _ _ _ _ _ _ _ _ (by omega)).trans ((G2.out.block (w.heap.size + 1) (by rw [World.size_alloc]; omega) (by simp)).trans ((Below.heap_alloc _ _ _ (by omega)).trans HE.out.2.1)))
  have f2 := (B3.out.block (w.heap.size + 2) (by rw [← hsX]; omega)).trans ((stored_block _ _ _ _ _ _ _ _ (by omega)).trans ((G2.out.block (w.heap.size + 2) (by rw [World.size_alloc]; omega) (by simp)).trans ((Below.heap_alloc _ _ _ (by omega)).trans HE.out.2.2)))
  have BB := trans_v GG.out.2 B3.out
  refine leaves_cons (f := 103) (args := #[.pointer (some ⟨w.heap.size, 0, none⟩), .pointer (some ⟨w.heap.size + 1, 0, none⟩), .pointer (some ⟨w.heap.size + 1 + 1, 0, none⟩)]) (by simp) (by simp [go_sem]) ?_
  refine (decCatch w.heap.size (w.heap.size + 1) (w.heap.size + 1 + 1) w3 (by omega) (by omega) (by omega) ⟨_, rfl, f0⟩ ⟨_, f1⟩ ⟨_, f2⟩).mono ?_
  rintro e u' w9 ⟨rfl, rfl, q1, q2, q3, q4, q5, q6, q7, q8⟩
  refine ⟨_, results3 (t0 := 46) (t1 := 3) (t2 := 24) rfl _ _ ⟨w.heap.size, 0, none⟩ ⟨w.heap.size + 1, 0, none⟩ ⟨w.heap.size + 1 + 1, 0, none⟩ (.agg zcells) (.int .i64 0) (.int .i64 41) rfl rfl rfl (load_val rfl q1) (load_int q2) (load_errno q3), rfl, ?_⟩
  exact ⟨q6.trans BB.os, q7.trans BB.tape, q8.trans BB.output, by rw [q4]; exact BB.size, fun k hk => (q5 k (by omega) (by omega) (by omega)).trans (BB.block k hk)⟩
end Go.Proofs.YthmhcpghfbifiaaGreatDoor
