/- Encode of events. -/
import Derived.Test.YthmhcpghfbifiaaGreatDoorGE2
import Derived.Test.YthmhcpghfbifiaaGreatDoorGHBase
import Derived.Test.YthmhcpghfbifiaaGreatDoorGBkA
import Derived.Test.YthmhcpghfbifiaaGreatDoorGQuote
namespace Go.Proofs.YthmhcpghfbifiaaGreatDoor
open Go.RowKit
open Go.Lib (uvarint uvarint_pos uvarint_length64)

/-- The bytes of an event. -/
def encE (e : Evn) : List UInt8 := UInt8.ofNat e.kind.toNat :: (txt (bsN e.proc) ++ ((if e.kind = 1 then txt (bsN e.obj) ++ txt (bsN e.op) else []) ++ encV e.val))
/-- The bytes of events. -/
def encL (l : List Evn) : List UInt8 := uvarint l.length ++ (l.map encE).flatten
theorem txt_pos6 (t : ByteArray) : 0 < (txt t).length := by unfold txt; have := uvarint_pos t.size; rw [List.length_append]; omega
theorem enc_pos6 (v : Vl) : 0 < (encV v).length := by rw [encV_eq]; simp
theorem flatE_take (l : List Evn) (k : Nat) (hk : k < l.length) : ((l.take (k + 1)).map encE).flatten = ((l.take k).map encE).flatten ++ encE l[k] := by
  rw [List.take_succ_eq_append_getElem hk, List.map_append, List.flatten_append]
  simp
/-- Bytes that lie elsewhere are laid behind. -/
theorem RowB.pushBytes {X w : World} {L lo : Nat} {g0 : Option Nat} {v u : Value} {bs cs : List UInt8} (h : RowB X L g0 w v bs) (hL : L ≤ X.heap.size) (hu : BytesIn X lo X.heap.size u cs) (hlo : ∀ k, g0 = some k → k < lo) (h0 : 0 < cs.length) (hl : bs.length + cs.length ≤ 1000000000000) (ty : TypeId) :
    ∃ v' w', (Builtin.append_ #[23, 23] ty #[v, u]).run Tryz.prog w = .ok v' w' ∧ RowB X L g0 w' v' (bs ++ cs) := by
  obtain ⟨a, c, rfl, h1, h2, hc⟩ := hu
  obtain ⟨b, off, rfl, _, _, _⟩ := hc 0 h0
  refine h.push hL ⟨b, off, none⟩ c cs (fun j u hj => ?_) h0 hl ty
  have hj' : j < cs.length := by have := (List.getElem?_eq_some_iff.1 hj).1; rwa [cellsOf_length] at this
  obtain ⟨b', off', e, hb1, hb2, hcell⟩ := hc j hj'
  cases e
  rw [Addr.add_lit, World.cell?_of_block (h.gr.block b hb2 (fun e => by have := hlo b e.symm; omega)), hcell]
  rw [← hj]
  simp [cellsOf, hj']
theorem enc_yes6 {v : Vl} (hr : rightV v = true) (w : World) (n : Nat) (sl : Value) (hT : Tabs w) (hok : v.ok) (hz : v.size ≤ 1000000000) (hs : ItemsAt w w.heap.size n sl v.items) :
    Calls Tryz.prog 33 #[.agg (vcells v sl)] w fun e w' => ∃ ba bc, e = .returned (.tuple #[.slice ba (encV v).length bc, .int .i64 0]) ∧ BytesIn w' w.heap.size w'.heap.size (.slice ba (encV v).length bc) (encV v) ∧ Below w.heap.size w w' := by
  have h := encodeC_k v w n sl hT hok hz hs
  rw [hr] at h
  refine h.mono ?_
  rintro e w' ⟨bv, rfl, R⟩
  obtain ⟨ba, bc, rfl, _⟩ := id (ownsRow_bytes R.row).2
  exact ⟨ba, bc, rfl, (ownsRow_bytes R.row).2, R.gr.os, R.gr.tape, R.gr.output, R.gr.size, fun k hk => R.gr.block k hk (by simp)⟩
theorem enc_no6 {v : Vl} (hr : rightV v = false) (w : World) (n : Nat) (sl : Value) (hT : Tabs w) (hok : v.ok) (hz : v.size ≤ 1000000000) (hs : ItemsAt w w.heap.size n sl v.items) :
    Calls Tryz.prog 33 #[.agg (vcells v sl)] w fun e w' => ∃ ba bn bc, e = .returned (.tuple #[.slice ba bn bc, .int .i64 40]) ∧ Below w.heap.size w w' := by
  have h := encodeC_k v w n sl hT hok hz hs
  rw [hr] at h
  refine h.mono ?_
  rintro e w' ⟨bv, rfl, R⟩
  obtain ⟨ba, bc, rfl, _⟩ := (ownsRow_bytes R.row).2
  exact ⟨ba, _, bc, rfl, R.gr.os, R.gr.tape, R.gr.output, R.gr.size, fun k hk => R.gr.block k hk (by simp)⟩
/-- What Encode answers. -/
def EncR (w : World) (l : List Evn) (e : Ending) (w' : World) : Prop := if l.all rightE = true then ∃ a c, e = .returned (.tuple #[.slice a (encL l).length c, .int .i64 0]) ∧ w'.ownsRow w.heap.size 5 1 (.slice a (encL l).length c) (encL l).length (cellsOf (encL l)) ∧ Below w.heap.size w w'
  else e = .returned (.tuple #[.slice none 0 0, .int .i64 60]) ∧ Below w.heap.size w w'
theorem encR_no {w : World} {l : List Evn} {e : Ending} {w' : World} {k : Nat} (hk : k < l.length) (h : rightE l[k] = false) (he : e = .returned (.tuple #[.slice none 0 0, .int .i64 60])) (hb : Below w.heap.size w w') : EncR w l e w' := by
  unfold EncR
  rw [if_neg]
  · exact ⟨he, hb⟩
  · intro ha
    have := List.all_eq_true.1 ha l[k] (List.getElem_mem hk)
    rw [h] at this
    cases this
set_option maxRecDepth 100000 in
set_option maxHeartbeats 8000000 in
theorem encode6_k (l : List Evn) (w : World) (n : Nat) (sa : Value) (hT : Tabs w) (ha : EvsAt w w.heap.size n sa l) (hlen : ∀ k, k ≤ l.length → (∀ j (h : j < l.length), j < k → rightE l[j] = true) → (uvarint l.length ++ ((l.take k).map encE).flatten).length ≤ 1000000000000) :
    Calls Tryz.prog 17 #[sa] w fun e w' => EncR w l e w' := by
  obtain ⟨aa, ca, rfl, hla⟩ := ha.len
  have HA := hide ha
  have HT := hide (fun (U : World) (b : Below w.heap.size w U) => hT.below b)
  have HU := hide (uvarint_any l.length (by omega) w)
  have hcv : IntKind.u64.wrap ((l.length : Nat) : Int) = ((l.length : Nat) : Int) := by rw [IntKind.wrap_u64]; omega
  have HLEN := hide hlen
  clear ha hT hlen
  go_enter Tryz.func17, Tryz.ntmps17
  go_wp2_with (go_at_call 32; refine HU.out.mono ?_; clear HU; rintro e w1 ⟨u1, rfl, A1, A2⟩; obtain ⟨ua, uc, rfl, _⟩ := (ownsRow_bytes A1).2; have R1 := hide (show RowB w w.heap.size none w1 (.slice ua (uvarint l.length).length uc) (uvarint l.length) from ⟨A1, ⟨A2.os, A2.tape, A2.output, A2.size, fun k hk _ => A2.block k hk⟩, .inr fun k hk => (A1.lt k hk).1⟩); clear A1 A2)
  go_loopw [4, 15] (fun b i wr => ∃ k : Nat, k ≤ l.length ∧ i = .int .i64 k ∧ RowB w w.heap.size none wr b (uvarint l.length ++ ((l.take k).map encE).flatten) ∧ ∀ j (h : j < l.length), j < k → rightE l[j] = true) (fun _ i _ => l.length - (intOf i).toNat)
  case atStart => exact ⟨0, Nat.zero_le _, rfl, by simpa using R1.out, fun j _ h => absurd h (by omega)⟩
  case round =>
    obtain ⟨k, hk, rfl, hR, hall⟩ := hrel
    have hbel : Below w.heap.size w wr := ⟨hR.gr.os, hR.gr.tape, hR.gr.output, hR.gr.size, fun j hj => hR.gr.block j hj (by simp)⟩
    obtain ⟨va0, vc0, rfl, _⟩ := id (ownsRow_bytes hR.row).2
    by_cases hlt : k < l.length
    · obtain ⟨b1, o1, s1, rfl, g1, p0, p1, p2, p3, p4, p5, p6, p7, p8, p9, p10, p11, p12, p13, p14⟩ := (HA.out.below hbel).item k hlt
      have l1 : b1 < wr.heap.size := by have := hbel.size; omega
      have HK := hide (HLEN.out (k + 1) hlt)
      have HN := hide (fun (h : rightE l[k] = false) (e : Ending) (w' : World) => encR_no (w := w) (e := e) (w' := w') hlt h)
      have HALL := hide (fun (h : rightE l[k] = true) => (show ∀ j (hj : j < l.length), j < k + 1 → rightE l[j] = true from fun j hj hjk => by
        by_cases e : j = k
        · subst e; exact h
        · exact hall j hj (by omega)))
      have HFL := hide (flatE_take l k hlt)
      have HRF := hide (right_framed l[k])
      have HENY := hide (fun (h : rightV l[k].val = true) (U : World) (b : Below wr.heap.size wr U) => enc_yes6 h U n s1 ((HT.out wr hbel).below b) p13.val p14 ((p12.below (b.mono hbel.size)).up (by have := b.size; have := hbel.size; omega)))
      have HENN := hide (fun (h : rightV l[k].val = false) (U : World) (b : Below wr.heap.size wr U) => enc_no6 h U n s1 ((HT.out wr hbel).below b) p13.val p14 ((p12.below (b.mono hbel.size)).up (by have := b.size; have := hbel.size; omega)))
      obtain ⟨x1, y1, rfl, _⟩ := p12.len
      have HFRM := hide (fun (U : World) (b : Below wr.heap.size wr U) => framed_k l[k] U x1 l[k].val.items.length y1 p13.lo ((HT.out wr hbel).below b))
      have hk0 : (0 : Int) ≤ (k : Int) := by omega
      have hk1 : (k : Int) < (l.length : Int) := by omega
      have HR := hide hR
      have HBEL := hide hbel
      have HP := hide p13
      have hw0 : w.heap.size ≤ wr.heap.size := hbel.size
      obtain ⟨W1, hW1⟩ : ∃ W1, wr.alloc (.cells (evCells l[k] (.slice x1 l[k].val.items.length y1)) 48) = W1 := ⟨_, rfl⟩
      have bW1 : Below wr.heap.size wr W1 := by rw [← hW1]; exact alloc_v (Below.refl _ _) _
      have e1 : W1.heap[wr.heap.size]? = some (.cells (evCells l[k] (.slice x1 l[k].val.items.length y1)) 48 (0, 0)) := by rw [← hW1]; exact World.alloc_heap_new wr _
      have lW1 : wr.heap.size < W1.heap.size := (Array.getElem?_eq_some_iff.1 e1).1
      have f4 := cells_at e1 4 _ rfl
      have f5 := cells_at e1 5 _ rfl
      have f6 := cells_at e1 6 _ rfl
      have f7 := cells_at e1 7 _ rfl
      have f8 := cells_at e1 8 _ rfl
      have HE1 := hide e1
      clear hR hbel p12 p13 p14 hall g1 e1
      generalize l[k] = x at *
      cases hrv : rightV x.val with
      | false =>
        have HEN := hide (HENN.out hrv W1 bW1)
        have hfin := HN.out (by rw [HRF.out, hrv, Bool.and_false])
        clear HENN HENY HALL HFRM HK HFL hrv HRF HN
        go_wp2_with (go_at_call 33; refine HEN.out.mono ?_; clear HEN; rintro e w2 ⟨ba, bn, bc, rfl, b2⟩; have B2 := hide b2; clear b2)
        go_ret2
        exact hfin _ _ rfl (trans_v HBEL.out (trans_v bW1 B2.out))
      | true =>
      have HEN := hide (HENY.out hrv W1 bW1)
      clear HENN HENY
      cases hfr : framedB x with
      | false =>
        have hfin := HN.out (by rw [HRF.out, hfr, Bool.false_and])
        rw [hfr] at HFRM
        clear HALL HK HFL hrv hfr HRF HN
        go_wp2_with (first
          | (go_at_call 33; refine HEN.out.mono ?_; clear HEN; rintro e w2 ⟨ba, bc, rfl, y2, b2⟩; have g2 := (b2.block _ lW1).trans HE1.out; have d0 := cells_at g2 0 _ rfl; have d1 := cells_at g2 1 _ rfl; have d2 := cells_at g2 2 _ rfl; have d3 := cells_at g2 3 _ rfl; have d4 := cells_at g2 4 _ rfl; have d5 := cells_at g2 5 _ rfl; have d6 := cells_at g2 6 _ rfl; have d7 := cells_at g2 7 _ rfl; have d8 := cells_at g2 8 _ rfl; have d9 := cells_at g2 9 _ rfl; have d10 := cells_at g2 10 _ rfl; have d11 := cells_at g2 11 _ rfl; have HF2 := hide (HFRM.out w2 (trans_v bW1 b2)); have B2 := hide b2; clear b2 g2 y2)
          | (go_at_call 13; refine HF2.out.mono ?_; clear HF2; rintro e w3 ⟨rfl, b3⟩; have B3 := hide b3; clear b3))
        go_ret2
        exact hfin _ _ rfl (trans_v HBEL.out (trans_v bW1 (trans_v B2.out B3.out)))
      | true =>
      have hright : rightE x = true := by rw [HRF.out, hfr, hrv]; rfl
      rw [hfr] at HFRM
      have HALL2 := hide (HALL.out hright)
      have hkk := HK.out HALL2.out
      rw [HFL.out] at hkk
      have HFLE := hide HFL.out
      clear HALL HK HFL HRF HN hright hrv
      by_cases hk1x : x.kind = 1
      · obtain ⟨xk, xp, xo, xq, xv, xf, xl, xc⟩ := x
        simp only at *
        subst hk1x
        clear hfr
        have hee : encE ⟨1, xp, xo, xq, xv, xf, xl, xc⟩ = UInt8.ofNat 1 :: (txt (bsN xp) ++ ((txt (bsN xo) ++ txt (bsN xq)) ++ encV xv)) := by unfold encE; simp
        rw [hee] at hkk HFLE
        generalize hbs : uvarint l.length ++ (List.map encE (List.take k l)).flatten = bs at *
        have hkk2 : bs.length + (UInt8.ofNat 1 :: (txt (bsN xp) ++ ((txt (bsN xo) ++ txt (bsN xq)) ++ encV xv))).length ≤ 1000000000000 := by have h := hkk; rw [← List.append_assoc, hbs, List.length_append] at h; exact h
        simp only [List.length_cons, List.length_append] at hkk2
        have HREL := hide (show ∀ b, b = bs ++ (UInt8.ofNat 1 :: (txt (bsN xp) ++ ((txt (bsN xo) ++ txt (bsN xq)) ++ encV xv))) → b = uvarint l.length ++ (List.map encE (List.take (k + 1) l)).flatten from fun b hb => by rw [hb, HFLE.out, ← hbs, List.append_assoc])
        have hsp := HP.out.proc
        have hso := HP.out.obj
        have hsq := HP.out.op
        simp only at hsp hso hsq
        clear hkk HFLE hee
        have HOWN := hide (fun (q : Nat) (h : (Value.slice va0 bs.length vc0).ownBlock = some q) => HR.out.row.lt q h)
        go_wp2_with (first
          | (go_at_call 33; refine HEN.out.mono ?_; clear HEN; rintro e w2 ⟨ba, bc, rfl, y2, b2⟩; have g2 := (b2.block _ lW1).trans HE1.out; have d0 := cells_at g2 0 _ rfl; have d1 := cells_at g2 1 _ rfl; have d2 := cells_at g2 2 _ rfl; have d3 := cells_at g2 3 _ rfl; have d4 := cells_at g2 4 _ rfl; have d5 := cells_at g2 5 _ rfl; have d6 := cells_at g2 6 _ rfl; have d7 := cells_at g2 7 _ rfl; have d8 := cells_at g2 8 _ rfl; have d9 := cells_at g2 9 _ rfl; have d10 := cells_at g2 10 _ rfl; have d11 := cells_at g2 11 _ rfl; have HF2 := hide (HFRM.out w2 (trans_v bW1 b2)); have R2 := HR.out.below (trans_v bW1 b2); have S2 := hide (RowB.start R2.row); have RR2 := hide R2; have Y2 := hide y2; have hz2 := b2.size; have G2 := hide g2; clear b2 g2 y2 R2 HR f4 f5 f6 f7 f8)
          | (go_at_call 13; refine HF2.out.mono ?_; clear HF2; rintro e w3 ⟨rfl, b3⟩; have S3 := S2.out.below b3; obtain ⟨v4, w4, hr4, R4⟩ := S3.pushByte (by omega) (UInt8.ofNat 1) 1 rfl (by omega) 23; have g3 := (b3.block wr.heap.size (by omega)).trans G2.out; have m0 := cells_at g3 0 _ rfl; have g4 := (R4.gr.block wr.heap.size (by omega) (fun e => by have := (HOWN.out _ e.symm).2; omega)).trans G2.out; have q0 := cells_at g4 0 _ rfl; have q1 := cells_at g4 1 _ rfl; have HR4 := hide hr4; have RW4 := hide R4; have HTX1 := hide (text_any (bsN xp) (by rw [bsN_size]; omega) w4); clear b3 g3 g4 hr4 R4 S3 d0 d1 d2 d3 d4 d5 d6 d7 d8 d9 d10 d11)
          | (at_builtin; refine Lib.wpList_append_run _ rfl (.tmp 32) (.tmp 36) 23 23 rfl _ _ rfl rfl _ _ HR4.out ?_; clear HR4)
          | (go_at_call 34; with_reducible refine HTX1.out.mono ?_; clear HTX1; rintro e u5 ⟨uu, rfl, A1, A2⟩; obtain ⟨v5, w5, hr, R⟩ := RW4.out.pushRow (by omega) A1 A2 (txt_pos6 _) (by simp only [List.length_append, List.length_cons, List.length_nil]; omega) 23; have gg := (R.gr.block wr.heap.size (by omega) (fun e => by have := (HOWN.out _ e.symm).2; omega)).trans G2.out; clear q0 q1; (try clear q2 q3); have q0 := cells_at gg 0 _ rfl; have q1 := cells_at gg 1 _ rfl; have q2 := cells_at gg 2 _ rfl; have q3 := cells_at gg 3 _ rfl; have HRT5 := hide hr; have RW5 := hide R; have HTX2 := hide (text_any (bsN xo) (by rw [bsN_size]; omega) w5); clear hr R gg A1 A2)
          | (at_builtin; refine Lib.wpList_append_run _ rfl (.tmp 38) (.tmp 41) 23 23 rfl _ _ rfl rfl _ _ HRT5.out ?_; clear HRT5)
          | (go_at_call 34; with_reducible refine HTX2.out.mono ?_; clear HTX2; rintro e u6 ⟨uu, rfl, A1, A2⟩; obtain ⟨v6, w6, hr, R⟩ := RW5.out.pushRow (by omega) A1 A2 (txt_pos6 _) (by simp only [List.length_append, List.length_cons, List.length_nil]; omega) 23; have gg := (R.gr.block wr.heap.size (by omega) (fun e => by have := (HOWN.out _ e.symm).2; omega)).trans G2.out; clear q0 q1; (try clear q2 q3); have q0 := cells_at gg 0 _ rfl; have q1 := cells_at gg 1 _ rfl; have q2 := cells_at gg 2 _ rfl; have q3 := cells_at gg 3 _ rfl; have HRT6 := hide hr; have RW6 := hide R; have HTX3 := hide (text_any (bsN xq) (by rw [bsN_size]; omega) w6); clear hr R gg A1 A2)
          | (at_builtin; refine Lib.wpList_append_run _ rfl (.tmp 46) (.tmp 49) 23 23 rfl _ _ rfl rfl _ _ HRT6.out ?_; clear HRT6)
          | (go_at_call 34; with_reducible refine HTX3.out.mono ?_; clear HTX3; rintro e u7 ⟨uu, rfl, A1, A2⟩; obtain ⟨v7, w7, hr, R⟩ := RW6.out.pushRow (by omega) A1 A2 (txt_pos6 _) (by simp only [List.length_append, List.length_cons, List.length_nil]; omega) 23; have gg := (R.gr.block wr.heap.size (by omega) (fun e => by have := (HOWN.out _ e.symm).2; omega)).trans G2.out; clear q0 q1; (try clear q2 q3); have q0 := cells_at gg 0 _ rfl; have q1 := cells_at gg 1 _ rfl; have q2 := cells_at gg 2 _ rfl; have q3 := cells_at gg 3 _ rfl; have HRT7 := hide hr; have RW7 := hide R; obtain ⟨v9, w9, hr9, R9⟩ := R.pushBytes (by omega) Y2.out (fun q hq => by have := (HOWN.out q hq).2; omega) (enc_pos6 _) (by simp only [List.length_append, List.length_cons, List.length_nil]; omega) 23; have HR9 := hide hr9; have RW9 := hide R9; clear hr9 R9; clear hr R gg A1 A2)
          | (at_builtin; refine Lib.wpList_append_run _ rfl (.tmp 51) (.tmp 54) 23 23 rfl _ _ rfl rfl _ _ HRT7.out ?_; clear HRT7)
          | (at_builtin; refine Lib.wpList_append_run _ rfl (.tmp 56) (.tmp 57) 23 23 rfl _ _ rfl rfl _ _ HR9.out ?_; clear HR9))
        go_roundw
        case rel => exact ⟨k + 1, by omega, by go_num, by
          have h := RR2.out.more RW9.out
          rw [← HREL.out _ rfl]
          simpa using h, HALL2.out⟩
        case measure => simp [intOf]; omega
      obtain ⟨xk, xp, xo, xq, xv, xf, xl, xc⟩ := x
      simp only at *
      have hk2x : xk = 2 := by
        have h := hfr
        unfold framedB at h
        simp only at h
        rw [if_neg hk1x] at h
        split at h
        · assumption
        · cases h
      subst hk2x
      clear hfr hk1x
      have hee : encE ⟨2, xp, xo, xq, xv, xf, xl, xc⟩ = UInt8.ofNat 2 :: (txt (bsN xp) ++ encV xv) := by unfold encE; simp
      rw [hee] at hkk HFLE
      generalize hbs : uvarint l.length ++ (List.map encE (List.take k l)).flatten = bs at *
      have hkk2 : bs.length + (UInt8.ofNat 2 :: (txt (bsN xp) ++ encV xv)).length ≤ 1000000000000 := by have h := hkk; rw [← List.append_assoc, hbs, List.length_append] at h; exact h
      simp only [List.length_cons, List.length_append] at hkk2
      have HREL := hide (show ∀ b, b = bs ++ (UInt8.ofNat 2 :: (txt (bsN xp) ++ encV xv)) → b = uvarint l.length ++ (List.map encE (List.take (k + 1) l)).flatten from fun b hb => by rw [hb, HFLE.out, ← hbs, List.append_assoc])
      have hsp := HP.out.proc
      simp only at hsp
      clear hkk HFLE hee
      have HOWN := hide (fun (q : Nat) (h : (Value.slice va0 bs.length vc0).ownBlock = some q) => HR.out.row.lt q h)
      go_wp2_with (first
        | (go_at_call 33; refine HEN.out.mono ?_; clear HEN; rintro e w2 ⟨ba, bc, rfl, y2, b2⟩; have g2 := (b2.block _ lW1).trans HE1.out; have d0 := cells_at g2 0 _ rfl; have d1 := cells_at g2 1 _ rfl; have d2 := cells_at g2 2 _ rfl; have d3 := cells_at g2 3 _ rfl; have d4 := cells_at g2 4 _ rfl; have d5 := cells_at g2 5 _ rfl; have d6 := cells_at g2 6 _ rfl; have d7 := cells_at g2 7 _ rfl; have d8 := cells_at g2 8 _ rfl; have d9 := cells_at g2 9 _ rfl; have d10 := cells_at g2 10 _ rfl; have d11 := cells_at g2 11 _ rfl; have HF2 := hide (HFRM.out w2 (trans_v bW1 b2)); have R2 := HR.out.below (trans_v bW1 b2); have S2 := hide (RowB.start R2.row); have RR2 := hide R2; have Y2 := hide y2; have hz2 := b2.size; have G2 := hide g2; clear b2 g2 y2 R2 HR f4 f5 f6 f7 f8)
        | (go_at_call 13; refine HF2.out.mono ?_; clear HF2; rintro e w3 ⟨rfl, b3⟩; have S3 := S2.out.below b3; obtain ⟨v4, w4, hr4, R4⟩ := S3.pushByte (by omega) (UInt8.ofNat 2) 2 rfl (by omega) 23; have g3 := (b3.block wr.heap.size (by omega)).trans G2.out; have m0 := cells_at g3 0 _ rfl; have g4 := (R4.gr.block wr.heap.size (by omega) (fun e => by have := (HOWN.out _ e.symm).2; omega)).trans G2.out; have q0 := cells_at g4 0 _ rfl; have q1 := cells_at g4 1 _ rfl; have HR4 := hide hr4; have RW4 := hide R4; have HTX1 := hide (text_any (bsN xp) (by rw [bsN_size]; omega) w4); clear b3 g3 g4 hr4 R4 S3 d0 d1 d2 d3 d4 d5 d6 d7 d8 d9 d10 d11)
        | (at_builtin; refine Lib.wpList_append_run _ rfl (.tmp 32) (.tmp 36) 23 23 rfl _ _ rfl rfl _ _ HR4.out ?_; clear HR4)
        | (go_at_call 34; with_reducible refine HTX1.out.mono ?_; clear HTX1; rintro e u5 ⟨uu, rfl, A1, A2⟩; obtain ⟨v5, w5, hr, R⟩ := RW4.out.pushRow (by omega) A1 A2 (txt_pos6 _) (by simp only [List.length_append, List.length_cons, List.length_nil]; omega) 23; have gg := (R.gr.block wr.heap.size (by omega) (fun e => by have := (HOWN.out _ e.symm).2; omega)).trans G2.out; clear q0 q1; (try clear q2 q3); have q0 := cells_at gg 0 _ rfl; have q1 := cells_at gg 1 _ rfl; have q2 := cells_at gg 2 _ rfl; have q3 := cells_at gg 3 _ rfl; have HRT5 := hide hr; have RW5 := hide R; obtain ⟨v9, w9, hr9, R9⟩ := R.pushBytes (by omega) Y2.out (fun q hq => by have := (HOWN.out q hq).2; omega) (enc_pos6 _) (by simp only [List.length_append, List.length_cons, List.length_nil]; omega) 23; have HR9 := hide hr9; have RW9 := hide R9; clear hr9 R9; clear hr R gg A1 A2)
        | (at_builtin; refine Lib.wpList_append_run _ rfl (.tmp 38) (.tmp 41) 23 23 rfl _ _ rfl rfl _ _ HRT5.out ?_; clear HRT5)
        | (at_builtin; refine Lib.wpList_append_run _ rfl (.tmp 56) (.tmp 57) 23 23 rfl _ _ rfl rfl _ _ HR9.out ?_; clear HR9))
      go_roundw
      case rel => exact ⟨k + 1, by omega, by go_num, by
        have h := RR2.out.more RW9.out
        rw [← HREL.out _ rfl]
        simpa using h, HALL2.out⟩
      case measure => simp [intOf]; omega
    · have hke : k = l.length := by omega
      have HEND := hide (show EncR w l (.returned (.tuple #[.slice va0 (uvarint l.length ++ ((l.take k).map encE).flatten).length vc0, .int .i64 0])) wr from by
        subst hke
        unfold EncR
        rw [if_pos (List.all_eq_true.2 fun x hx => by obtain ⟨j, hj, rfl⟩ := List.getElem_of_mem hx; exact hall j hj hj)]
        have e : uvarint l.length ++ ((l.take l.length).map encE).flatten = encL l := by rw [List.take_length]; rfl
        have hrow := hR.row
        rw [e] at hrow ⊢
        exact ⟨_, _, rfl, hrow, hbel⟩)
      clear hR hbel hall
      go_wp2
      go_ret2
      exact HEND.out
end Go.Proofs.YthmhcpghfbifiaaGreatDoor

/- Print of events. -/
namespace Go.Proofs.YthmhcpghfbifiaaGreatDoor
open Go.RowKit

theorem bld_below6 {b : Nat} {l : List UInt8} {W W' : World} (h : Bld b l W) (hb : Below W.heap.size W W') : Bld b l W' := bld_own (B := 0) (A := 0) h (grown_below hb) (fun r e => by cases e)
theorem bsN_str (t : List UInt8) : bsN t = str t := rfl
theorem joined_k (xs : List (List UInt8)) (bk o c : Nat) (w : World) (hcells : ∀ (j : Nat) x, (xs.map str)[j]? = some x → w.cell? ⟨bk, o + j, none⟩ = some (.string x)) (hbk : bk < w.heap.size) (hN : xs.length ≤ 16) (hcap : xs.length ≤ c) (hlen : (Lib.join xs [32]).length ≤ 1000000000000) :
    Calls Tryz.prog 15 #[.slice (some ⟨bk, o, none⟩) xs.length c] w fun e w' => e = .returned (.string (str (Lib.join xs [32] ++ [10]))) ∧ Below w.heap.size w w' := by
  have hdat : (xs.map str).map (fun x => x.data.toList) = xs := by
    rw [List.map_map]
    conv => rhs; rw [← List.map_id xs]
    rfl
  have hJ : Hid (Calls Tryz.prog 31 #[.slice (some ⟨bk, o, none⟩) xs.length c, .string ⟨#[32]⟩] w fun e w' => e = .returned (.string (str (Lib.join xs [32]))) ∧ Below w.heap.size w w') := by
    have := Tryz.strings_Join bk o c (xs.map str) ⟨#[32]⟩ w hcells hbk (by rw [List.length_map]; omega) (by rw [List.length_map]; omega) (by rw [hdat]; show (Lib.join xs [32]).length ≤ _; omega)
    rw [hdat, List.length_map] at this
    exact this
  have hC : ∀ U, (Op.stringOp .add (str (Lib.join xs [32])) ⟨#[10]⟩).run Tryz.prog U = .ok (.string (str (Lib.join xs [32] ++ [10]))) U := fun U => cat (Lib.join xs [32]) [10] (by simp; omega) U
  clear hcells hdat hlen
  generalize str (Lib.join xs [32] ++ [10]) = s2 at *
  generalize str (Lib.join xs [32]) = s1 at *
  go_enter Tryz.func15, Tryz.ntmps15
  go_wp2_with (go_at_call 31; refine hJ.out.mono ?_; clear hJ; rintro e w2 ⟨rfl, b2⟩)
  go_ret
  exact ⟨rfl, b2⟩
/-- A row of words that was just made. -/
theorem joined_new (xs : List (List UInt8)) (n : Nat) (hn : xs.length = n) (w : World) (o : Obj) (ho : o = .cells (xs.map (fun x => Value.string (str x))).toArray 9) (hN : n ≤ 16) (hlen : (Lib.join xs [32]).length ≤ 1000000000000) :
    Calls Tryz.prog 15 #[.slice (some ⟨w.heap.size, 0, none⟩) n n] (w.alloc o) fun e w' => e = .returned (.string (str (Lib.join xs [32] ++ [10]))) ∧ Below w.heap.size w w' := by
  subst hn ho
  have e1 : (w.alloc (.cells (xs.map (fun x => Value.string (str x))).toArray 9)).heap[w.heap.size]? = some (.cells (xs.map (fun x => Value.string (str x))).toArray 9 (0, 0)) := World.alloc_heap_new w _
  refine (joined_k xs w.heap.size 0 xs.length _ (fun j x hx => ?_) (Array.getElem?_eq_some_iff.1 e1).1 hN (Nat.le_refl _) hlen).mono ?_
  · rw [Nat.zero_add]
    refine cells_at e1 j _ ?_
    rw [List.getElem?_toArray, List.getElem?_map]
    rw [List.getElem?_map] at hx
    cases hy : xs[j]? with
    | none => rw [hy] at hx; simp at hx
    | some y => rw [hy] at hx; simp at hx; simp [hx]
  · rintro e w' ⟨rfl, b⟩
    exact ⟨rfl, trans_v (alloc_v (Below.refl _ _) _) b⟩
/-- An event's line. -/
def lnE (e : Evn) : List UInt8 := if e.kind = 1 then Lib.join [[105, 110, 118], e.proc, e.obj, e.op, prV e.val] [32] ++ [10] else Lib.join [[114, 101, 115], e.proc, prV e.val] [32] ++ [10]
def prL (l : List Evn) : List UInt8 := (l.map lnE).flatten
theorem flatL_take (l : List Evn) (k : Nat) (hk : k < l.length) : prL (l.take (k + 1)) = prL (l.take k) ++ lnE l[k] := by
  unfold prL
  rw [List.take_succ_eq_append_getElem hk, List.map_append, List.flatten_append]
  simp
/-- What Print answers. -/
def PrR (w : World) (l : List Evn) (e : Ending) (w' : World) : Prop := Below w.heap.size w w' ∧ if l.all rightE = true then e = .returned (.tuple #[.string (str (prL l)), .int .i64 0]) else e = .returned (.tuple #[.string ⟨#[]⟩, .int .i64 60])
theorem prR_no {w : World} {l : List Evn} {e : Ending} {w' : World} {k : Nat} (hk : k < l.length) (h : rightE l[k] = false) (he : e = .returned (.tuple #[.string ⟨#[]⟩, .int .i64 60])) (hb : Below w.heap.size w w') : PrR w l e w' := by
  unfold PrR
  rw [if_neg]
  · exact ⟨hb, he⟩
  · intro ha
    have := List.all_eq_true.1 ha l[k] (List.getElem_mem hk)
    rw [h] at this
    cases this
set_option maxRecDepth 100000 in
set_option maxHeartbeats 8000000 in
theorem print6_k (l : List Evn) (w : World) (n : Nat) (sa : Value) (hT : Tabs w) (ha : EvsAt w w.heap.size n sa l) (hlen : ∀ k, k ≤ l.length → (∀ j (h : j < l.length), j < k → rightE l[j] = true) → (prL (l.take k)).length ≤ 1000000000000) :
    Calls Tryz.prog 4 #[sa] w fun e w' => PrR w l e w' := by
  obtain ⟨aa, ca, rfl, hla⟩ := ha.len
  have HA := hide ha
  have HT := hide (fun (U : World) (b : Below w.heap.size w U) => hT.below b)
  have HLEN := hide hlen
  clear ha hT hlen
  go_enter Tryz.func4, Tryz.ntmps4
  go_wp2
  go_loopw [11] (fun v wr => ∃ k : Nat, v = .int .i64 (k : Int) ∧ k ≤ l.length ∧ Hid (Bld w.heap.size (prL (l.take k)) wr ∧ ∀ j (h : j < l.length), j < k → rightE l[j] = true) ∧ Below w.heap.size w wr)
    (fun v _ => l.length - (Lib.intOf v).toNat)
  case atStart => exact ⟨0, rfl, Nat.zero_le _, hide ⟨by have := Lib.IsBuilderF.of (Lib.fresh_isBuilder 41 5 w); exact this, fun _ _ h => absurd h (by omega)⟩, alloc_v (Below.refl _ _) _⟩
  case round =>
    obtain ⟨k, rfl, hk, HM, hbel⟩ := hrel
    by_cases hlt : k < l.length
    · obtain ⟨b1, o1, s1, rfl, g1, p0, p1, p2, p3, p4, p5, p6, p7, p8, p9, p10, p11, p12, p13, p14⟩ := (HA.out.below hbel).item k hlt
      have l1 : b1 < wr.heap.size := by have := hbel.size; omega
      have hbl := HM.out.1
      have hblt := hbl.lt
      have HK := hide (HLEN.out (k + 1) hlt)
      have HN := hide (fun (h : rightE l[k] = false) (e : Ending) (w' : World) => prR_no (w := w) (e := e) (w' := w') hlt h)
      have HALL := hide (fun (h : rightE l[k] = true) => (show ∀ j (hj : j < l.length), j < k + 1 → rightE l[j] = true from fun j hj hjk => by
        by_cases e : j = k
        · subst e; exact h
        · exact HM.out.2 j hj (by omega)))
      have HFL := hide (flatL_take l k hlt)
      have HRF := hide (right_framed l[k])
      have HPR := hide (fun (U : World) (b : Below wr.heap.size wr U) => printC_kB l[k].val U n s1 ((HT.out wr hbel).below b) p13.val p14 ((p12.below (b.mono hbel.size)).up (by have := b.size; have := hbel.size; omega)))
      obtain ⟨x1, y1, rfl, _⟩ := p12.len
      have HFRM := hide (fun (U : World) (b : Below wr.heap.size wr U) => framed_k l[k] U x1 l[k].val.items.length y1 p13.lo ((HT.out wr hbel).below b))
      have HBEL := hide hbel
      have HL := hide hbl
      have hw0 : w.heap.size ≤ wr.heap.size := hbel.size
      obtain ⟨W1, hW1⟩ : ∃ W1, wr.alloc (.cells (evCells l[k] (.slice x1 l[k].val.items.length y1)) 48) = W1 := ⟨_, rfl⟩
      have bW1 : Below wr.heap.size wr W1 := by rw [← hW1]; exact alloc_v (Below.refl _ _) _
      have e1 : W1.heap[wr.heap.size]? = some (.cells (evCells l[k] (.slice x1 l[k].val.items.length y1)) 48 (0, 0)) := by rw [← hW1]; exact World.alloc_heap_new wr _
      have lW1 : wr.heap.size < W1.heap.size := (Array.getElem?_eq_some_iff.1 e1).1
      have f4 := cells_at e1 4 _ rfl
      have f5 := cells_at e1 5 _ rfl
      have f6 := cells_at e1 6 _ rfl
      have f7 := cells_at e1 7 _ rfl
      have f8 := cells_at e1 8 _ rfl
      have HE1 := hide e1
      have HPR1 := hide (HPR.out W1 bW1)
      have hblw : w.heap.size < wr.heap.size := hblt
      clear hbel hbl hblt p12 p13 p14 g1 e1 HPR
      generalize l[k] = x at *
      have hr0 : (0 : Int) ≤ 0 := by omega
      cases hrv : rightV x.val with
      | false =>
        have hfin := HN.out (by rw [HRF.out, hrv, Bool.and_false])
        rw [hrv] at HPR1
        simp only [cond_false] at HPR1
        clear HALL HFRM HK HFL hrv HRF HN HM
        go_wp2_with (go_at_call 12; refine HPR1.out.mono ?_; clear HPR1; rintro e w2 ⟨rfl, b2⟩; have B2 := hide b2; clear b2)
        go_ret2
        exact hfin _ _ rfl (trans_v HBEL.out (trans_v bW1 B2.out))
      | true =>
      rw [hrv] at HPR1
      simp only [cond_true] at HPR1
      have HPR2 := hide HPR1.out
      clear HPR1
      obtain ⟨sv, hsv⟩ : ∃ s, str (prV x.val) = s := ⟨_, rfl⟩
      rw [hsv] at HPR2
      have HSV := hide hsv
      clear hsv
      cases hfr : framedB x with
      | false =>
        have hfin := HN.out (by rw [HRF.out, hfr, Bool.false_and])
        rw [hfr] at HFRM
        clear HALL HK HFL hrv hfr HRF HN HM
        go_wp2_with (first
          | (go_at_call 12; refine HPR2.out.mono ?_; clear HPR2; rintro e w2 ⟨rfl, b2⟩; have g2 := (b2.block _ lW1).trans HE1.out; have d0 := cells_at g2 0 _ rfl; have d1 := cells_at g2 1 _ rfl; have d2 := cells_at g2 2 _ rfl; have d3 := cells_at g2 3 _ rfl; have d4 := cells_at g2 4 _ rfl; have d5 := cells_at g2 5 _ rfl; have d6 := cells_at g2 6 _ rfl; have d7 := cells_at g2 7 _ rfl; have d8 := cells_at g2 8 _ rfl; have d9 := cells_at g2 9 _ rfl; have d10 := cells_at g2 10 _ rfl; have d11 := cells_at g2 11 _ rfl; have HF2 := hide (HFRM.out w2 (trans_v bW1 b2)); have B2 := hide b2; clear b2 g2)
          | (go_at_call 13; refine HF2.out.mono ?_; clear HF2; rintro e w3 ⟨rfl, b3⟩; have B3 := hide b3; clear b3))
        go_ret2
        exact hfin _ _ rfl (trans_v HBEL.out (trans_v bW1 (trans_v B2.out B3.out)))
      | true =>
      have hright : rightE x = true := by rw [HRF.out, hfr, hrv]; rfl
      rw [hfr] at HFRM
      have HALL2 := hide (HALL.out hright)
      have hkk := HK.out HALL2.out
      rw [HFL.out, List.length_append] at hkk
      have HFLE := hide HFL.out
      clear HALL HK HFL HRF HN hright hrv HM
      generalize hbs : prL (l.take k) = bs at *
      by_cases hk1x : x.kind = 1
      · have hee : lnE x = Lib.join [[105, 110, 118], x.proc, x.obj, x.op, prV x.val] [32] ++ [10] := by unfold lnE; rw [if_pos hk1x]
        obtain ⟨xk, xp, xo, xq, xv, xf, xl, xc⟩ := x
        simp only at *
        subst hk1x
        have hln : (Lib.join [[105, 110, 118], xp, xo, xq, prV xv] [32]).length ≤ 1000000000000 := by rw [hee, List.length_append] at hkk; omega
        have HJ := hide (fun (U : World) (o : Obj) (ho : o = .cells ([[105, 110, 118], xp, xo, xq, prV xv].map (fun x => Value.string (str x))).toArray 9) => joined_new [[105, 110, 118], xp, xo, xq, prV xv] 5 rfl U o ho (by decide) hln)
        simp only [List.map_cons, List.map_nil, HSV.out] at HJ
        rw [← hee] at HJ
        obtain ⟨sl, hsl⟩ : ∃ s, str (lnE ⟨1, xp, xo, xq, xv, xf, xl, xc⟩) = s := ⟨_, rfl⟩
        rw [hsl] at HJ
        have HSL := hide hsl
        clear hfr hln hee hsl
        go_wp2_with (first
          | (go_at_call 12; refine HPR2.out.mono ?_; clear HPR2; rintro e w2 ⟨rfl, b2⟩; have g2 := (b2.block _ lW1).trans HE1.out; have d0 := cells_at g2 0 _ rfl; have d1 := cells_at g2 1 _ rfl; have d2 := cells_at g2 2 _ rfl; have d3 := cells_at g2 3 _ rfl; have d4 := cells_at g2 4 _ rfl; have d5 := cells_at g2 5 _ rfl; have d6 := cells_at g2 6 _ rfl; have d7 := cells_at g2 7 _ rfl; have d8 := cells_at g2 8 _ rfl; have d9 := cells_at g2 9 _ rfl; have d10 := cells_at g2 10 _ rfl; have d11 := cells_at g2 11 _ rfl; have HF2 := hide (HFRM.out w2 (trans_v bW1 b2)); have B2 := hide b2; have hz2 := b2.size; have G2 := hide g2; clear b2 g2 f4 f5 f6 f7 f8)
          | (go_at_call 13; refine HF2.out.mono ?_; clear HF2; rintro e w3 ⟨rfl, b3⟩; have g3 := (b3.block wr.heap.size (by omega)).trans G2.out; clear d0 d1 d2 d3 d4 d5 d6 d7 d8 d9 d10 d11; have m0 := cells_at g3 0 _ rfl; have m1 := cells_at g3 1 _ rfl; have m2 := cells_at g3 2 _ rfl; have m3 := cells_at g3 3 _ rfl; have B3 := hide (trans_v bW1 (trans_v B2.out b3)); clear b3 g3)
          | (go_at_call 15; refine (HJ.out _ _ rfl).mono ?_; clear HJ; rintro e w4 ⟨rfl, b4⟩; have B4 := hide (trans_v B3.out b4); have L4 := hide (bld_below6 HL.out B4.out); clear b4)
          | (go_at_call 14; refine (wStr w.heap.size _ (lnE ⟨1, xp, xo, xq, xv, xf, xl, xc⟩) _ HSL.out.symm _ L4.out (by omega)).mono ?_; rintro e w5 ⟨⟨v5, rfl⟩, p5⟩; have P5 := hide p5; clear p5))
        go_roundw
        case rel => exact ⟨k + 1, by go_num, by omega, hide ⟨by rw [HFLE.out]; exact P5.out.1, HALL2.out⟩, (trans_v HBEL.out B4.out).trans P5.out.2.1⟩
        case measure => simp [Lib.intOf]; omega
      · have hee : lnE x = Lib.join [[114, 101, 115], x.proc, prV x.val] [32] ++ [10] := by unfold lnE; rw [if_neg hk1x]
        obtain ⟨xk, xp, xo, xq, xv, xf, xl, xc⟩ := x
        simp only at *
        have hk2x : xk = 2 := by
          have h := hfr
          unfold framedB at h
          simp only at h
          rw [if_neg hk1x] at h
          split at h
          · assumption
          · cases h
        subst hk2x
        have hln : (Lib.join [[114, 101, 115], xp, prV xv] [32]).length ≤ 1000000000000 := by rw [hee, List.length_append] at hkk; omega
        have HJ := hide (fun (U : World) (o : Obj) (ho : o = .cells ([[114, 101, 115], xp, prV xv].map (fun x => Value.string (str x))).toArray 9) => joined_new [[114, 101, 115], xp, prV xv] 3 rfl U o ho (by decide) hln)
        simp only [List.map_cons, List.map_nil, HSV.out] at HJ
        rw [← hee] at HJ
        obtain ⟨sl, hsl⟩ : ∃ s, str (lnE ⟨2, xp, xo, xq, xv, xf, xl, xc⟩) = s := ⟨_, rfl⟩
        rw [hsl] at HJ
        have HSL := hide hsl
        clear hfr hln hee hsl hk1x
        go_wp2_with (first
          | (go_at_call 12; refine HPR2.out.mono ?_; clear HPR2; rintro e w2 ⟨rfl, b2⟩; have g2 := (b2.block _ lW1).trans HE1.out; have d0 := cells_at g2 0 _ rfl; have d1 := cells_at g2 1 _ rfl; have d2 := cells_at g2 2 _ rfl; have d3 := cells_at g2 3 _ rfl; have d4 := cells_at g2 4 _ rfl; have d5 := cells_at g2 5 _ rfl; have d6 := cells_at g2 6 _ rfl; have d7 := cells_at g2 7 _ rfl; have d8 := cells_at g2 8 _ rfl; have d9 := cells_at g2 9 _ rfl; have d10 := cells_at g2 10 _ rfl; have d11 := cells_at g2 11 _ rfl; have HF2 := hide (HFRM.out w2 (trans_v bW1 b2)); have B2 := hide b2; have hz2 := b2.size; have G2 := hide g2; clear b2 g2 f4 f5 f6 f7 f8)
          | (go_at_call 13; refine HF2.out.mono ?_; clear HF2; rintro e w3 ⟨rfl, b3⟩; have g3 := (b3.block wr.heap.size (by omega)).trans G2.out; clear d0 d1 d2 d3 d4 d5 d6 d7 d8 d9 d10 d11; have m0 := cells_at g3 0 _ rfl; have m1 := cells_at g3 1 _ rfl; have B3 := hide (trans_v bW1 (trans_v B2.out b3)); clear b3 g3)
          | (go_at_call 15; refine (HJ.out _ _ rfl).mono ?_; clear HJ; rintro e w4 ⟨rfl, b4⟩; have B4 := hide (trans_v B3.out b4); have L4 := hide (bld_below6 HL.out B4.out); clear b4)
          | (go_at_call 14; refine (wStr w.heap.size _ (lnE ⟨2, xp, xo, xq, xv, xf, xl, xc⟩) _ HSL.out.symm _ L4.out (by omega)).mono ?_; rintro e w5 ⟨⟨v5, rfl⟩, p5⟩; have P5 := hide p5; clear p5))
        go_roundw
        case rel => exact ⟨k + 1, by go_num, by omega, hide ⟨by rw [HFLE.out]; exact P5.out.1, HALL2.out⟩, (trans_v HBEL.out B4.out).trans P5.out.2.1⟩
        case measure => simp [Lib.intOf]; omega
    · have hke : k = l.length := by omega
      subst hke
      have HL := hide HM.out.1
      rw [List.take_length] at HL
      have hall : l.all rightE = true := List.all_eq_true.2 fun x hx => by obtain ⟨j, hj, rfl⟩ := List.getElem_of_mem hx; exact HM.out.2 j hj hj
      have HALL := hide hall
      have HE2 := hide (wEnd w.heap.size _ wr HL.out)
      clear hall
      go_wp2_with (go_at_call 16; refine HE2.out.mono ?_; clear HE2; rintro e w2 ⟨rfl, b2⟩; have B2 := hide b2; clear b2)
      go_ret2
      unfold PrR
      rw [if_pos HALL.out]
      exact ⟨hbel.trans B2.out, rfl⟩
end Go.Proofs.YthmhcpghfbifiaaGreatDoor

/- How long the bytes and the text of right events are. -/
namespace Go.Proofs.YthmhcpghfbifiaaGreatDoor
open Go.RowKit
open Go.Lib (uvarint uvarint_pos uvarint_length64)

theorem sym_len {t : List UInt8} (h : nameE t = 0) : t.length ≤ 128 := by
  unfold nameE at h
  split at h
  · cases h
  · rename_i h1
    have h2 := ru_le4 t
    have h4 : ¬ 32 < (ru t).length := fun h => h1 (.inr h)
    omega
theorem symB_len {t : List UInt8} (h : symB (bsN t) = true) : t.length ≤ 128 := by
  unfold symB at h
  simp only [Bool.and_eq_true, beq_iff_eq] at h
  exact sym_len h.2
theorem anyB_len {t : List UInt8} (h : anyB t = true) : t.length ≤ 128 := by
  unfold anyB at h
  exact sym_len (beq_iff_eq.1 h)
set_option maxRecDepth 100000 in
theorem enc_lenF : ∀ (n : Nat) (v : Vl) (w : World) (B : Nat) (sl : Value), ItemsAt w B n sl v.items → v.ok → formV v = true → (encV v).length ≤ v.size * 150
  | 0, _, _, _, _, h, _, _ => h.elim
  | n + 1, v, w, B, sl, h, hok, hf0 => by
    obtain ⟨a, c, rfl, hla⟩ := h.len
    have hit : ∀ x ∈ v.items, (encV x).length ≤ x.size * 150 := fun x hx => by
      obtain ⟨j, hj, rfl⟩ := List.getElem_of_mem hx
      obtain ⟨b, o, s, _, _, _, _, _, _, _, h5, h6⟩ := h.item j hj
      exact enc_lenF n _ w B s h5 h6 (formV_item hf0 (List.getElem_mem hj))
    have hf := flat_sum hit
    have hu : (uvarint v.items.length).length ≤ 10 := uvarint_length64 (by unfold maxLen at hla; omega)
    have z1 := zz_len hok.2.1.1 hok.2.1.2
    have z2 := zz_len hok.2.2.1 hok.2.2.2
    have ht : (txt v.text).length ≤ 10 + 128 := by
      unfold txt
      rw [List.length_append, size_eq]
      have : (uvarint v.text.size).length ≤ 10 := uvarint_length64 (by have := hok.1; omega)
      have := formV_text hf0
      omega
    obtain ⟨S, hS⟩ : ∃ S, (v.items.map Vl.size).sum * 150 = S := ⟨_, rfl⟩
    rw [hS] at hf
    have hsz : v.size * 150 = S + 150 := by rw [Vl.size_eq, Nat.add_mul, hS, Nat.one_mul]
    rw [hsz, encV_eq, List.length_cons]
    clear hsz hS
    split
    · simp
    · split
      · omega
      · split
        · rw [List.length_append]; omega
        · split
          · omega
          · rw [List.length_append]; omega
theorem val_lens {n : Nat} {v : Vl} {w : World} {B : Nat} {sl : Value} (h : ItemsAt w B n sl v.items) (hok : v.ok) (hr : rightV v = true) : (prV v).length ≤ 614400 ∧ (encV v).length ≤ 614400 := by
  obtain ⟨h1, _, h3⟩ := (rightV_is v).1 hr
  have h2 := pr_lenF n v w B sl h hok h3
  have h5 := enc_lenF n v w B sl h hok h3
  have h4 := Nat.mul_le_mul_right 150 h1
  omega
theorem txt_len {t : List UInt8} (h : t.length ≤ 128) : (txt (bsN t)).length ≤ 138 := by
  unfold txt
  rw [List.length_append, bsN_size]
  have : (uvarint t.length).length ≤ 10 := uvarint_length64 (by omega)
  have e : (bsN t).data.toList.length = t.length := rfl
  omega
/-- The bytes and the line of a right event are few. -/
theorem ev_lens {w : World} {B n : Nat} {sl : Value} {l : List Evn} (ha : EvsAt w B n sl l) (j : Nat) (hj : j < l.length) (hr : rightE l[j] = true) : (encE l[j]).length ≤ 615000 ∧ (lnE l[j]).length ≤ 615000 := by
  obtain ⟨aa, ca, rfl, hla⟩ := ha.len
  obtain ⟨b, o, s, _, _, _, _, _, _, _, _, _, _, _, _, _, _, h5, h6, _⟩ := ha.item j hj
  generalize l[j] = e at *
  unfold rightE at hr
  by_cases hk : e.kind = 1
  · rw [if_pos hk] at hr
    simp only [Bool.and_eq_true] at hr
    obtain ⟨⟨⟨r1, r2⟩, r3⟩, r4⟩ := hr
    have l1 := symB_len r1
    have l2 := anyB_len r2
    have l3 := symB_len r3
    obtain ⟨p1, p2⟩ := val_lens h5 h6.val r4
    have t1 := txt_len l1
    have t2 := txt_len l2
    have t3 := txt_len l3
    unfold encE lnE; simp only [Lib.join, List.intercalate, List.intersperse, List.flatten_cons, List.flatten_nil]
    simp only [hk, if_true, List.length_cons, List.length_append, List.length_nil]
    omega
  · rw [if_neg hk] at hr
    split at hr
    · rename_i hk2
      simp only [Bool.and_eq_true] at hr
      obtain ⟨⟨⟨r1, r2⟩, r3⟩, r4⟩ := hr
      have l1 := symB_len r1
      obtain ⟨p1, p2⟩ := val_lens h5 h6.val r4
      have t1 := txt_len l1
      unfold encE lnE; simp only [Lib.join, List.intercalate, List.intersperse, List.flatten_cons, List.flatten_nil]
      simp only [hk, if_false, List.length_cons, List.length_append, List.length_nil]
      omega
    · cases hr
theorem flatE_le {f : Evn → List UInt8} {c : Nat} : ∀ l : List Evn, (∀ x ∈ l, (f x).length ≤ c) → ((l.map f).flatten).length ≤ l.length * c
  | [], _ => by simp
  | x :: l, h => by
    have h1 := h x (by simp)
    have h2 := flatE_le l fun y hy => h y (by simp [hy])
    simp only [List.map_cons, List.flatten_cons, List.length_append, List.length_cons, Nat.add_mul]
    omega
theorem take_right {l : List Evn} {k : Nat} (hk : k ≤ l.length) (h : ∀ j (h : j < l.length), j < k → rightE l[j] = true) {P : Evn → Prop} (hP : ∀ j (h : j < l.length), rightE l[j] = true → P l[j]) : ∀ x ∈ l.take k, P x := by
  intro x hx
  obtain ⟨j, hj, rfl⟩ := List.getElem_of_mem hx
  rw [List.length_take] at hj
  rw [List.getElem_take]
  exact hP j (by omega) (h j (by omega) (by omega))
theorem enc_ok {w : World} {B n : Nat} {sl : Value} {l : List Evn} (ha : EvsAt w B n sl l) (hl : l.length ≤ 1048576) : ∀ k, k ≤ l.length → (∀ j (h : j < l.length), j < k → rightE l[j] = true) → (uvarint l.length ++ ((l.take k).map encE).flatten).length ≤ 900000000000 := by
  intro k hk h
  have h1 := flatE_le (f := encE) (c := 615000) (l.take k) (take_right (P := fun x => (encE x).length ≤ 615000) hk h fun j hj hr => (ev_lens ha j hj hr).1)
  have h2 : (uvarint l.length).length ≤ 10 := uvarint_length64 (by omega)
  rw [List.length_take, Nat.min_eq_left hk] at h1
  have h3 := Nat.mul_le_mul_right 615000 (Nat.le_trans hk hl)
  rw [List.length_append]
  omega
theorem pr_ok {w : World} {B n : Nat} {sl : Value} {l : List Evn} (ha : EvsAt w B n sl l) (hl : l.length ≤ 1048576) : ∀ k, k ≤ l.length → (∀ j (h : j < l.length), j < k → rightE l[j] = true) → (prL (l.take k)).length ≤ 1000000000000 := by
  intro k hk h
  have h1 := flatE_le (f := lnE) (c := 615000) (l.take k) (take_right (P := fun x => (lnE x).length ≤ 615000) hk h fun j hj hr => (ev_lens ha j hj hr).2)
  rw [List.length_take, Nat.min_eq_left hk] at h1
  have h3 := Nat.mul_le_mul_right 615000 (Nat.le_trans hk hl)
  show (((l.take k).map lnE).flatten).length ≤ _
  omega
end Go.Proofs.YthmhcpghfbifiaaGreatDoor
