/- samePlaces, slices.Equal of names, slices.EqualFunc of operations, agree. -/
import Derived.Test.YtgppmajmkpcciaaDoorGHPst
import Derived.Test.YtgppmajmkpcciaaDoorZShelf
namespace Go.Proofs.YtgppmajmkpcciaaDoor
open Go.RowKit Go.Maps

theorem drewB (n : Nat) (w : World) : Below w.heap.size w (w.drewN n) := ⟨rfl, rfl, rfl, Nat.le_refl _, fun _ _ => rfl⟩
theorem bsN_inj {a b : List UInt8} (h : bsN a = bsN b) : a = b := by
  have := congrArg (fun x : ByteArray => x.data.toList) h
  exact this
theorem map_bsN {l r : List (List UInt8)} : l.map bsN = r.map bsN ↔ l = r := by
  constructor
  · intro h
    apply List.ext_getElem
    · have := congrArg List.length h; simpa using this
    · intro i h1 h2
      have e : (l.map bsN)[i]'(by simpa using h1) = (r.map bsN)[i]'(by simpa using h2) := by simp only [h]
      simp only [List.getElem_map] at e
      exact bsN_inj e
  · intro h; rw [h]
theorem NamesAt.rowS {w : World} {B : Nat} {a : Option Addr} {m c : Nat} {l : List (List UInt8)} (h : NamesAt w B (.slice a m c) l) (hl : 0 < l.length) : ∃ b off, a = some ⟨b, off, none⟩ ∧ ∀ j, j < (l.map bsN).length → w.cell? ⟨b, off + j, none⟩ = some (.string ((l.map bsN).getD j ByteArray.empty)) := by
  obtain ⟨b, off, e, _, _⟩ := h.item 0 hl
  refine ⟨b, off, e, fun j hj => ?_⟩
  rw [List.length_map] at hj
  obtain ⟨b', off', e', _, h'⟩ := h.item j hj
  rw [e] at e'
  cases e'
  rw [h', List.getD_eq_getElem?_getD, List.getElem?_map, List.getElem?_eq_getElem hj]
  rfl
theorem equalS_k (l r : List (List UInt8)) (w : World) (B C : Nat) (sa sb : Value) (ha : NamesAt w B sa l) (hb : NamesAt w C sb r) :
    Calls Tryd.prog 60 #[sa, sb] w fun e w' => e = .returned (.bool (decide (l = r))) ∧ Below w.heap.size w w' := by
  obtain ⟨aa, ca, rfl, hla⟩ := ha.len
  obtain ⟨ab, cb, rfl, hlb⟩ := hb.len
  by_cases hl : l.length = r.length
  · rcases Nat.eq_zero_or_pos l.length with h0 | h0
    · have e1 : l = [] := List.eq_nil_of_length_eq_zero h0
      have e2 : r = [] := List.eq_nil_of_length_eq_zero (by omega)
      subst e1 e2
      refine (Tryd.slices_Equal_string_empty aa ab ca 0 cb w (by omega)).mono ?_
      rintro e w' ⟨rfl, rfl⟩
      exact ⟨by simp, Below.refl _ _⟩
    · obtain ⟨b1, o1, rfl, h1⟩ := ha.rowS h0
      obtain ⟨b2, o2, rfl, h2⟩ := hb.rowS (by omega)
      refine (Tryd.slices_Equal_string b1 o1 l.length ca b2 o2 r.length cb (l.map bsN) (r.map bsN) w (by simp) (by simp) (by omega) (by omega) h1 h2).mono ?_
      rintro e w' ⟨rfl, q, rfl⟩
      refine ⟨?_, drewB q w⟩
      rw [List.take_of_length_le (by simp), List.take_of_length_le (by simp)]
      simp only [map_bsN]
  · refine (Tryd.slices_Equal_string_lens aa ab l.length ca r.length cb w hl).mono ?_
    rintro e w' ⟨rfl, rfl⟩
    refine ⟨?_, Below.refl _ _⟩
    have : ¬ l = r := fun h => hl (by rw [h])
    simp [this]
/-- The places of an operation. -/
def plc (x : HV) : Int × Int := (x.1.inv, x.1.res)
def plB (x y : HV) : Bool := decide (x.1.inv = y.1.inv) && decide (x.1.res = y.1.res)
theorem plB_iff (x y : HV) : plB x y = true ↔ plc x = plc y := by unfold plB plc; simp
def plsB (l r : List HV) : Bool := decide (l.map plc = r.map plc)
set_option maxRecDepth 100000 in
set_option maxHeartbeats 1000000 in
theorem samePlaces_k (x y : HV) (hx1 : ∃ a m c, x.2.1 = .slice a m c) (hx2 : ∃ a m c, x.2.2 = .slice a m c) (hy1 : ∃ a m c, y.2.1 = .slice a m c) (hy2 : ∃ a m c, y.2.2 = .slice a m c) (w : World) :
    Calls Tryd.prog 62 #[.agg (hvArr x), .agg (hvArr y)] w fun e w' => e = .returned (.bool (plB x y)) ∧ Below w.heap.size w w' := by
  obtain ⟨⟨pr, ob, op, ag, iv, rs, rp⟩, sa, sr⟩ := x
  obtain ⟨⟨pr', ob', op', ag', iv', rs', rp'⟩, sa', sr'⟩ := y
  obtain ⟨a1, m1, c1, e1⟩ := hx1
  obtain ⟨a2, m2, c2, e2⟩ := hx2
  obtain ⟨a3, m3, c3, e3⟩ := hy1
  obtain ⟨a4, m4, c4, e4⟩ := hy2
  dsimp only at e1 e2 e3 e4
  subst e1 e2 e3 e4
  unfold plB
  dsimp only
  by_cases h : iv = iv'
  · subst h
    by_cases h2 : rs = rs'
    · subst h2
      go_enter Tryd.func62, Tryd.ntmps62
      go_wp2
      go_ret
      exact ⟨by simp, alloc_v (alloc_v (Below.refl _ _) _) _⟩
    · have hb : (rs == rs') = false := by simpa using h2
      go_enter Tryd.func62, Tryd.ntmps62
      go_wp2
      go_ret
      exact ⟨by simp [h2], alloc_v (alloc_v (Below.refl _ _) _) _⟩
  · have hb : (iv == iv') = false := by simpa using h
    go_enter Tryd.func62, Tryd.ntmps62
    go_wp2
    go_ret
    exact ⟨by simp [h], alloc_v (alloc_v (Below.refl _ _) _) _⟩
theorem pls_take {l r : List HV} {k : Nat} (hl : k < l.length) (hr : k < r.length) (h : (l.take k).map plc = (r.take k).map plc) (e : plB l[k] r[k] = true) : (l.take (k + 1)).map plc = (r.take (k + 1)).map plc := by
  rw [List.take_succ_eq_append_getElem hl, List.take_succ_eq_append_getElem hr, List.map_append, List.map_append, h]
  simp [(plB_iff _ _).1 e]
theorem pls_no {l r : List HV} {k : Nat} (hl : k < l.length) (hr : k < r.length) (e : plB l[k] r[k] = false) : plsB l r = false := by
  unfold plsB
  rw [decide_eq_false_iff_not]
  intro h
  have h2 : (l.map plc)[k]'(by simpa using hl) = (r.map plc)[k]'(by simpa using hr) := by simp only [h]
  simp only [List.getElem_map] at h2
  rw [(plB_iff _ _).2 h2] at e
  cases e
/-- The items of operations are slices. -/
def SlsH (l : List HV) : Prop := ∀ x ∈ l, (∃ a m c, x.2.1 = .slice a m c) ∧ ∃ a m c, x.2.2 = .slice a m c
set_option maxRecDepth 100000 in
set_option maxHeartbeats 2000000 in
theorem equalC_k (l r : List HV) (w : World) (B C : Nat) (sa sb : Value) (hB : B ≤ w.heap.size) (hC : C ≤ w.heap.size) (ha : HvsAt w B sa l) (hb : HvsAt w C sb r) (hsl : SlsH l) (hsr : SlsH r) :
    Calls Tryd.prog 61 #[sa, sb, .func (.func 62) #[] #[]] w fun e w' => e = .returned (.bool (plsB l r)) ∧ Below w.heap.size w w' := by
  have HA := hide ha
  have HB := hide hb
  obtain ⟨aa, ca, rfl, hla⟩ := ha.len
  obtain ⟨ab, cb, rfl, hlb⟩ := hb.len
  clear ha hb
  by_cases hl : l.length = r.length
  rotate_left
  · have hne : plsB l r = false := by
      unfold plsB
      rw [decide_eq_false_iff_not]
      intro h
      have := congrArg List.length h
      simp at this
      omega
    rw [hne]
    have hlb : ((l.length : Int) != (r.length : Int)) = true := by simp; omega
    clear hl hne
    go_enter Tryd.func61, Tryd.ntmps61
    go_wp2
    go_ret
    exact ⟨rfl, Below.refl _ _⟩
  have HL := hide hl
  have hlb2 : ((l.length : Int) != (r.length : Int)) = false := by simp; omega
  clear hl
  go_enter Tryd.func61, Tryd.ntmps61
  go_wp2
  clear hlb2
  go_loopw [7, 8, 9, 17] (fun _ _ _ i wr => ∃ k : Nat, k ≤ l.length ∧ i = .int .i64 k ∧ (l.take k).map plc = (r.take k).map plc ∧ Below w.heap.size w wr) (fun _ _ _ i _ => l.length - (intOf i).toNat)
  case atStart => exact ⟨0, Nat.zero_le _, rfl, rfl, Below.refl _ _⟩
  case round =>
    obtain ⟨k, hk, rfl, hz, hbel⟩ := hrel
    by_cases hlt : k < l.length
    · have hlr : k < r.length := by have := HL.out; omega
      obtain ⟨b1, o1, rfl, g1, p0, p1, p2, p3, p4, p5, p6, p7, p8, p9, p10, p11, p12, p13, p14⟩ := (HA.out.below (hbel.mono hB)).item k hlt
      obtain ⟨b2, o2, rfl, g2, q0, q1, q2, q3, q4, q5, q6, q7, q8, q9, q10, q11, q12, q13, q14⟩ := (HB.out.below (hbel.mono hC)).item k hlr
      have l1 : b1 < wr.heap.size := by have := hbel.size; omega
      have l2 : b2 < wr.heap.size := by have := hbel.size; omega
      clear g1 g2
      have HZ := hide (fun (e : plB l[k] r[k] = true) => pls_take hlt hlr hz e)
      have HN := hide (fun (e : plB l[k] r[k] = false) => pls_no hlt hlr e)
      obtain ⟨x1, x2⟩ := hsl _ (List.getElem_mem hlt)
      obtain ⟨y1, y2⟩ := hsr _ (List.getElem_mem hlr)
      have HC := hide (fun (W : World) => samePlaces_k l[k] r[k] x1 x2 y1 y2 W)
      obtain ⟨s1, s2, s3, e1⟩ := x1
      obtain ⟨s4, s5, s6, e2⟩ := x2
      obtain ⟨s7, s8, s9, e3⟩ := y1
      obtain ⟨t1, t2, t3, e4⟩ := y2
      have HB2 := hide hbel
      have hk0 : (0 : Int) ≤ (k : Int) := by omega
      have hk1 : (k : Int) < (l.length : Int) := by omega
      have hk2 : (k : Int) < (r.length : Int) := by omega
      clear hz hbel
      generalize l[k] = x at *
      generalize r[k] = y at *
      obtain ⟨⟨pr, ob, op, ag, iv, rs, rp⟩, sa, sr⟩ := x
      obtain ⟨⟨pr', ob', op', ag', iv', rs', rp'⟩, sa', sr'⟩ := y
      dsimp only at e1 e2 e3 e4
      subst e1 e2 e3 e4
      dsimp only at p0 p1 p2 p3 p4 p5 p6 p7 p8 p9 p10 p11 p12 p13 p14 q0 q1 q2 q3 q4 q5 q6 q7 q8 q9 q10 q11 q12 q13 q14
      obtain ⟨bb, hbb⟩ : ∃ bb, plB (⟨pr, ob, op, ag, iv, rs, rp⟩, .slice s1 s2 s3, .slice s4 s5 s6) (⟨pr', ob', op', ag', iv', rs', rp'⟩, .slice s7 s8 s9, .slice t1 t2 t3) = bb := ⟨_, rfl⟩
      rw [hbb] at HC
      have HBB := hide hbb
      clear hbb
      cases bb
      · go_wp2_with (go_at_call 62; refine (HC.out _).mono ?_; clear HC; rintro e w2 ⟨rfl, b2⟩; have B2 := hide b2; clear b2)
        go_ret
        exact ⟨by rw [HN.out HBB.out]; rfl, trans_v (alloc_v (alloc_v HB2.out _) _) B2.out⟩
      · go_wp2_with (go_at_call 62; refine (HC.out _).mono ?_; clear HC; rintro e w2 ⟨rfl, b2⟩; have B2 := hide b2; clear b2)
        go_roundw
        case rel => exact ⟨k + 1, by omega, by go_num, HZ.out HBB.out, trans_v (alloc_v (alloc_v HB2.out _) _) B2.out⟩
        case measure => simp [intOf]; omega
    · rw [List.take_of_length_le (by omega), List.take_of_length_le (by have := HL.out; omega)] at hz
      have HZ : Hid (plsB l r = true) := hide (by unfold plsB; simpa using hz)
      clear hz
      go_wp2
      go_ret
      exact ⟨by rw [HZ.out]; rfl, hbel⟩
def agreeB (P O P' O' : List (List UInt8)) (cs cs' : List HV) : Bool := decide (P = P') && (decide (O = O') && plsB cs cs')
set_option maxRecDepth 100000 in
set_option maxHeartbeats 2000000 in
theorem agree_k (w : World) (B : Nat) (hB : B ≤ w.heap.size) (v0 v1 v2 u0 u1 u2 : Value) (P O P' O' : List (List UInt8)) (cs cs' : List HV) (h0 : NamesAt w B v0 P) (h1 : NamesAt w B v1 O) (h2 : HvsAt w B v2 cs) (k0 : NamesAt w B u0 P') (k1 : NamesAt w B u1 O') (k2 : HvsAt w B u2 cs') (hs : SlsH cs) (hs' : SlsH cs') :
    Calls Tryd.prog 48 #[.agg #[v0, v1, v2], .agg #[u0, u1, u2]] w fun e w' => e = .returned (.bool (agreeB P O P' O' cs cs')) ∧ Below w.heap.size w w' := by
  obtain ⟨a0, c0, rfl, _⟩ := h0.len
  obtain ⟨a1, c1, rfl, _⟩ := h1.len
  obtain ⟨a2, c2, rfl, _⟩ := h2.len
  obtain ⟨b0, d0, rfl, _⟩ := k0.len
  obtain ⟨b1, d1, rfl, _⟩ := k1.len
  obtain ⟨b2, d2, rfl, _⟩ := k2.len
  obtain ⟨W1, hW1⟩ : ∃ W, w.alloc (.cells #[.slice a0 P.length c0, .slice a1 O.length c1, .slice a2 cs.length c2] 27) = W := ⟨_, rfl⟩
  obtain ⟨W, hW⟩ : ∃ W, W1.alloc (.cells #[.slice b0 P'.length d0, .slice b1 O'.length d1, .slice b2 cs'.length d2] 27) = W := ⟨_, rfl⟩
  have bW1 : Below w.heap.size w W1 := by rw [← hW1]; exact alloc_v (Below.refl _ _) _
  have bW2 : Below W1.heap.size W1 W := by rw [← hW]; exact alloc_v (Below.refl _ _) _
  have zW1 : W1.heap.size = w.heap.size + 1 := by rw [← hW1]; simp
  have zW : W.heap.size = w.heap.size + 2 := by rw [← hW]; simp [zW1]
  have bW := trans_v bW1 bW2
  have e1 : W.heap[w.heap.size]? = some (.cells #[.slice a0 P.length c0, .slice a1 O.length c1, .slice a2 cs.length c2] 27 (0, 0)) := by
    refine (bW2.block _ (by omega)).trans ?_
    rw [← hW1]; exact World.alloc_heap_new w _
  have e2 : W.heap[w.heap.size + 1]? = some (.cells #[.slice b0 P'.length d0, .slice b1 O'.length d1, .slice b2 cs'.length d2] 27 (0, 0)) := by rw [← hW, ← zW1]; exact World.alloc_heap_new W1 _
  have HC0 := hide (fun (U : World) (b : Below W.heap.size W U) => equalS_k P P' U B B _ _ (h0.below ((trans_v bW b).mono hB)) (k0.below ((trans_v bW b).mono hB)))
  have HC1 := hide (fun (U : World) (b : Below W.heap.size W U) => equalS_k O O' U B B _ _ (h1.below ((trans_v bW b).mono hB)) (k1.below ((trans_v bW b).mono hB)))
  have HC2 := hide (fun (U : World) (b : Below W.heap.size W U) => equalC_k cs cs' U B B _ _ (Nat.le_trans hB (trans_v bW b).size) (Nat.le_trans hB (trans_v bW b).size) (h2.below ((trans_v bW b).mono hB)) (k2.below ((trans_v bW b).mono hB)) hs hs')
  have HE := hide (fun (U : World) (b : Below W.heap.size W U) => (b.block w.heap.size (by omega)).trans e1)
  have HF := hide (fun (U : World) (b : Below W.heap.size W U) => (b.block (w.heap.size + 1) (by omega)).trans e2)
  have x0 := cells_at e1 0 _ rfl
  have y0 := cells_at e2 0 _ rfl
  have BW := hide bW
  unfold agreeB
  clear h0 h1 h2 k0 k1 k2 e1 e2 zW bW bW1 bW2
  cases hp : decide (P = P')
  · rw [hp] at HC0
    go_enter Tryd.func48, Tryd.ntmps48
    go_wp2_with (go_at_call 60; refine (HC0.out _ (Below.refl _ _)).mono ?_; clear HC0; rintro r w3 ⟨rfl, b3⟩; have B3 := hide b3; clear b3)
    go_ret
    exact ⟨rfl, trans_v BW.out B3.out⟩
  rw [hp] at HC0
  have A1 : Hid (∀ (U : World) (b : Below W.heap.size W U), U.cell? ⟨w.heap.size, 1, none⟩ = some (.slice a1 O.length c1) ∧ U.cell? ⟨w.heap.size + 1, 1, none⟩ = some (.slice b1 O'.length d1)) := hide (fun U b => ⟨cells_at (HE.out U b) 1 _ rfl, cells_at (HF.out U b) 1 _ rfl⟩)
  have A2 : Hid (∀ (U : World) (b : Below W.heap.size W U), U.cell? ⟨w.heap.size, 2, none⟩ = some (.slice a2 cs.length c2) ∧ U.cell? ⟨w.heap.size + 1, 2, none⟩ = some (.slice b2 cs'.length d2)) := hide (fun U b => ⟨cells_at (HE.out U b) 2 _ rfl, cells_at (HF.out U b) 2 _ rfl⟩)
  cases ho : decide (O = O')
  · rw [ho] at HC1
    go_enter Tryd.func48, Tryd.ntmps48
    go_wp2_with (go_at_call 60; first | (refine (HC0.out _ (Below.refl _ _)).mono ?_; clear HC0; rintro r w3 ⟨rfl, b3⟩; have B3 := hide b3; obtain ⟨x1, y1⟩ := A1.out _ b3; clear b3) | (refine (HC1.out _ B3.out).mono ?_; clear HC1; rintro r w4 ⟨rfl, b4⟩; have B4 := hide b4; clear b4))
    go_ret
    exact ⟨rfl, trans_v (trans_v BW.out B3.out) B4.out⟩
  rw [ho] at HC1
  cases hq : plsB cs cs'
  all_goals
    rw [hq] at HC2
    go_enter Tryd.func48, Tryd.ntmps48
    go_wp2_with (first
      | (go_at_call 60; first | (refine (HC0.out _ (Below.refl _ _)).mono ?_; clear HC0; rintro r w3 ⟨rfl, b3⟩; have B3 := hide b3; obtain ⟨x1, y1⟩ := A1.out _ b3; clear b3) | (refine (HC1.out _ B3.out).mono ?_; clear HC1; rintro r w4 ⟨rfl, b4⟩; have B4 := hide (trans_v B3.out b4); obtain ⟨x2, y2⟩ := A2.out _ B4.out; clear b4))
      | (go_at_call 61; refine (HC2.out _ B4.out).mono ?_; clear HC2; rintro r w5 ⟨rfl, b5⟩; have B5 := hide b5; clear b5))
    go_ret
    exact ⟨rfl, trans_v (trans_v BW.out B4.out) B5.out⟩
end Go.Proofs.YtgppmajmkpcciaaDoor
