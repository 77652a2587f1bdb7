/- samePlaces, slices.Equal of names, slices.EqualFunc of operations, agree. -/
import Derived.Test.YtnmkggoampkekaaGreatDoorGHPst
import Derived.Test.YtnmkggoampkekaaGreatDoorZShelf
import Derived.Deep.RegionHeld3
import Derived.Deep.Cut
import Derived.Deep.CutRange
namespace Go.Proofs.YtnmkggoampkekaaGreatDoor
open Go.RowKit Go.Maps

theorem drewB (n : Nat) (w : World) : Below w.heap.size w (w.drewN n) := ⟨rfl, rfl, rfl, Nat.le_refl _, fun _ _ => rfl⟩
theorem bsN_inj {a b : List UInt8} (h : bsN a = bsN b) : a = b := by
  have := congrArg (fun x : ByteArray => x.data.toList) h
  exact this
theorem map_bsN {l r : List (List UInt8)} : l.map bsN = r.map bsN ↔ l = r := by
  constructor
  · intro h
    apply List.ext_getElem
    · have := congrArg List.length h; simpa using this
    · intro i h1 h2
      have e : (l.map bsN)[i]'(by simpa using h1) = (r.map bsN)[i]'(by simpa using h2) := by simp only [h]
      simp only [List.getElem_map] at e
      exact bsN_inj e
  · intro h; rw [h]
theorem NamesAt.rowS {w : World} {B : Nat} {a : Option Addr} {m c : Nat} {l : List (List UInt8)} (h : NamesAt w B (.slice a m c) l) (hl : 0 < l.length) : ∃ b off, a = some ⟨b, off, none⟩ ∧ ∀ j, j < (l.map bsN).length → w.cell? ⟨b, off + j, none⟩ = some (.string ((l.map bsN).getD j ByteArray.empty)) := by
  obtain ⟨b, off, e, _, _⟩ := h.item 0 hl
  refine ⟨b, off, e, fun j hj => ?_⟩
  rw [List.length_map] at hj
  obtain ⟨b', off', e', _, h'⟩ := h.item j hj
  rw [e] at e'
  cases e'
  rw [h', List.getD_eq_getElem?_getD, List.getElem?_map, List.getElem?_eq_getElem hj]
  rfl
theorem equalS_k (l r : List (List UInt8)) (w : World) (B C : Nat) (sa sb : Value) (ha : NamesAt w B sa l) (hb : NamesAt w C sb r) :
    Calls Tryz.prog 48 #[sa, sb] w fun e w' => e = .returned (.bool (decide (l = r))) ∧ Below w.heap.size w w' := by
  obtain ⟨aa, ca, rfl, hla⟩ := ha.len
  obtain ⟨ab, cb, rfl, hlb⟩ := hb.len
  by_cases hl : l.length = r.length
  · rcases Nat.eq_zero_or_pos l.length with h0 | h0
    · have e1 : l = [] := List.eq_nil_of_length_eq_zero h0
      have e2 : r = [] := List.eq_nil_of_length_eq_zero (by omega)
      subst e1 e2
      refine (Tryz.slices_Equal_string_empty aa ab ca 0 cb w (by omega)).mono ?_
      rintro e w' ⟨rfl, rfl⟩
      exact ⟨by simp, Below.refl _ _⟩
    · obtain ⟨b1, o1, rfl, h1⟩ := ha.rowS h0
      obtain ⟨b2, o2, rfl, h2⟩ := hb.rowS (by omega)
      refine (Tryz.slices_Equal_string b1 o1 l.length ca b2 o2 r.length cb (l.map bsN) (r.map bsN) w (by simp) (by simp) (by omega) (by omega) h1 h2).mono ?_
      rintro e w' ⟨rfl, q, rfl⟩
      refine ⟨?_, drewB q w⟩
      rw [List.take_of_length_le (by simp), List.take_of_length_le (by simp)]
      simp only [map_bsN]
  · refine (Tryz.slices_Equal_string_lens aa ab l.length ca r.length cb w hl).mono ?_
    rintro e w' ⟨rfl, rfl⟩
    refine ⟨?_, Below.refl _ _⟩
    have : ¬ l = r := fun h => hl (by rw [h])
    simp [this]
/-- The places of an operation. -/
def plc (x : HV) : Int × Int := (x.1.inv, x.1.res)
def plB (x y : HV) : Bool := decide (x.1.inv = y.1.inv) && decide (x.1.res = y.1.res)
theorem plB_iff (x y : HV) : plB x y = true ↔ plc x = plc y := by unfold plB plc; simp
def plsB (l r : List HV) : Bool := decide (l.map plc = r.map plc)
set_option maxRecDepth 100000 in
set_option maxHeartbeats 1000000 in
theorem samePlaces_k (x y : HV) (hx1 : ∃ a m c, x.2.1 = .slice a m c) (hx2 : ∃ a m c, x.2.2 = .slice a m c) (hy1 : ∃ a m c, y.2.1 = .slice a m c) (hy2 : ∃ a m c, y.2.2 = .slice a m c) (w : World) :
    Calls Tryz.prog 50 #[.agg (hvArr x), .agg (hvArr y)] w fun e w' => e = .returned (.bool (plB x y)) ∧ Below w.heap.size w w' := by
  obtain ⟨⟨pr, ob, op, ag, iv, rs, rp⟩, sa, sr⟩ := x
  obtain ⟨⟨pr', ob', op', ag', iv', rs', rp'⟩, sa', sr'⟩ := y
  obtain ⟨a1, m1, c1, e1⟩ := hx1
  obtain ⟨a2, m2, c2, e2⟩ := hx2
  obtain ⟨a3, m3, c3, e3⟩ := hy1
  obtain ⟨a4, m4, c4, e4⟩ := hy2
  dsimp only at e1 e2 e3 e4
  subst e1 e2 e3 e4
  unfold plB
  dsimp only
  by_cases h : iv = iv'
  · subst h
    by_cases h2 : rs = rs'
    · subst h2
      go_enter Tryz.func50, Tryz.ntmps50
      go_wp2
      go_ret
      exact ⟨by simp, alloc_v (alloc_v (Below.refl _ _) _) _⟩
    · have hb : (rs == rs') = false := by simpa using h2
      go_enter Tryz.func50, Tryz.ntmps50
      go_wp2
      go_ret
      exact ⟨by simp [h2], alloc_v (alloc_v (Below.refl _ _) _) _⟩
  · have hb : (iv == iv') = false := by simpa using h
    go_enter Tryz.func50, Tryz.ntmps50
    go_wp2
    go_ret
    exact ⟨by simp [h], alloc_v (alloc_v (Below.refl _ _) _) _⟩
theorem pls_take {l r : List HV} {k : Nat} (hl : k < l.length) (hr : k < r.length) (h : (l.take k).map plc = (r.take k).map plc) (e : plB l[k] r[k] = true) : (l.take (k + 1)).map plc = (r.take (k + 1)).map plc := by
  rw [List.take_succ_eq_append_getElem hl, List.take_succ_eq_append_getElem hr, List.map_append, List.map_append, h]
  simp [(plB_iff _ _).1 e]
theorem pls_no {l r : List HV} {k : Nat} (hl : k < l.length) (hr : k < r.length) (e : plB l[k] r[k] = false) : plsB l r = false := by
  unfold plsB
  rw [decide_eq_false_iff_not]
  intro h
  have h2 : (l.map plc)[k]'(by simpa using hl) = (r.map plc)[k]'(by simpa using hr) := by simp only [h]
  simp only [List.getElem_map] at h2
  rw [(plB_iff _ _).2 h2] at e
  cases e
/-- The items of operations are slices. -/
def SlsH (l : List HV) : Prop := ∀ x ∈ l, (∃ a m c, x.2.1 = .slice a m c) ∧ ∃ a m c, x.2.2 = .slice a m c
set_option maxRecDepth 100000 in
set_option maxHeartbeats 2000000 in
theorem equalC_k (l r : List HV) (w : World) (B C : Nat) (sa sb : Value) (hB : B ≤ w.heap.size) (hC : C ≤ w.heap.size) (ha : HvsAt w B sa l) (hb : HvsAt w C sb r) (hsl : SlsH l) (hsr : SlsH r) :
    Calls Tryz.prog 49 #[sa, sb, .func (.func 50) #[] #[]] w fun e w' => e = .returned (.bool (plsB l r)) ∧ Below w.heap.size w w' := by
  have HA := hide ha
  have HB := hide hb
  obtain ⟨aa, ca, rfl, hla⟩ := ha.len
  obtain ⟨ab, cb, rfl, hlb⟩ := hb.len
  clear ha hb
  by_cases hl : l.length = r.length
  rotate_left
  · have hne : plsB l r = false := by
      unfold plsB
      rw [decide_eq_false_iff_not]
      intro h
      have := congrArg List.length h
      simp at this
      omega
    rw [hne]
    have hlb : ((l.length : Int) != (r.length : Int)) = true := by simp; omega
    clear hl hne
    go_enter Tryz.func49, Tryz.ntmps49
    go_wp2
    go_ret
    exact ⟨rfl, Below.refl _ _⟩
  have HL := hide hl
  have hlb2 : ((l.length : Int) != (r.length : Int)) = false := by simp; omega
  clear hl
  go_enter Tryz.func49, Tryz.ntmps49
  go_wp2
  clear hlb2
  go_loopw [7, 8, 9, 17] (fun _ _ _ i wr => ∃ k : Nat, k ≤ l.length ∧ i = .int .i64 k ∧ (l.take k).map plc = (r.take k).map plc ∧ Below w.heap.size w wr) (fun _ _ _ i _ => l.length - (intOf i).toNat)
  case atStart => exact ⟨0, Nat.zero_le _, rfl, rfl, Below.refl _ _⟩
  case round =>
    obtain ⟨k, hk, rfl, hz, hbel⟩ := hrel
    by_cases hlt : k < l.length
    · have hlr : k < r.length := by have := HL.out; omega
      obtain ⟨b1, o1, rfl, g1, p0, p1, p2, p3, p4, p5, p6, p7, p8, p9, p10, p11, p12, p13, p14⟩ := (HA.out.below (hbel.mono hB)).item k hlt
      obtain ⟨b2, o2, rfl, g2, q0, q1, q2, q3, q4, q5, q6, q7, q8, q9, q10, q11, q12, q13, q14⟩ := (HB.out.below (hbel.mono hC)).item k hlr
      have l1 : b1 < wr.heap.size := by have := hbel.size; omega
      have l2 : b2 < wr.heap.size := by have := hbel.size; omega
      clear g1 g2
      have HZ := hide (fun (e : plB l[k] r[k] = true) => pls_take hlt hlr hz e)
      have HN := hide (fun (e : plB l[k] r[k] = false) => pls_no hlt hlr e)
      obtain ⟨x1, x2⟩ := hsl _ (List.getElem_mem hlt)
      obtain ⟨y1, y2⟩ := hsr _ (List.getElem_mem hlr)
      have HC := hide (fun (W : World) => samePlaces_k l[k] r[k] x1 x2 y1 y2 W)
      obtain ⟨s1, s2, s3, e1⟩ := x1
      obtain ⟨s4, s5, s6, e2⟩ := x2
      obtain ⟨s7, s8, s9, e3⟩ := y1
      obtain ⟨t1, t2, t3, e4⟩ := y2
      have HB2 := hide hbel
      have hk0 : (0 : Int) ≤ (k : Int) := by omega
      have hk1 : (k : Int) < (l.length : Int) := by omega
      have hk2 : (k : Int) < (r.length : Int) := by omega
      clear hz hbel
      generalize l[k] = x at *
      generalize r[k] = y at *
      obtain ⟨⟨pr, ob, op, ag, iv, rs, rp⟩, sa, sr⟩ := x
      obtain ⟨⟨pr', ob', op', ag', iv', rs', rp'⟩, sa', sr'⟩ := y
      dsimp only at e1 e2 e3 e4
      subst e1 e2 e3 e4
      dsimp only at p0 p1 p2 p3 p4 p5 p6 p7 p8 p9 p10 p11 p12 p13 p14 q0 q1 q2 q3 q4 q5 q6 q7 q8 q9 q10 q11 q12 q13 q14
      obtain ⟨bb, hbb⟩ : ∃ bb, plB (⟨pr, ob, op, ag, iv, rs, rp⟩, .slice s1 s2 s3, .slice s4 s5 s6) (⟨pr', ob', op', ag', iv', rs', rp'⟩, .slice s7 s8 s9, .slice t1 t2 t3) = bb := ⟨_, rfl⟩
      rw [hbb] at HC
      have HBB := hide hbb
      clear hbb
      cases bb
      · go_wp2_with (go_at_call 50; refine (HC.out _).mono ?_; clear HC; rintro e w2 ⟨rfl, b2⟩; have B2 := hide b2; clear b2)
        go_ret
        exact ⟨by rw [HN.out HBB.out]; rfl, trans_v (alloc_v (alloc_v HB2.out _) _) B2.out⟩
      · go_wp2_with (go_at_call 50; refine (HC.out _).mono ?_; clear HC; rintro e w2 ⟨rfl, b2⟩; have B2 := hide b2; clear b2)
        go_roundw
        case rel => exact ⟨k + 1, by omega, by go_num, HZ.out HBB.out, trans_v (alloc_v (alloc_v HB2.out _) _) B2.out⟩
        case measure => simp [intOf]; omega
    · rw [List.take_of_length_le (by omega), List.take_of_length_le (by have := HL.out; omega)] at hz
      have HZ : Hid (plsB l r = true) := hide (by unfold plsB; simpa using hz)
      clear hz
      go_wp2
      go_ret
      exact ⟨by rw [HZ.out]; rfl, hbel⟩
def agreeB (P O P' O' : List (List UInt8)) (cs cs' : List HV) : Bool := decide (P = P') && (decide (O = O') && plsB cs cs')
set_option maxRecDepth 100000 in
set_option maxHeartbeats 2000000 in
theorem agree_k (w : World) (B : Nat) (hB : B ≤ w.heap.size) (v0 v1 v2 u0 u1 u2 : Value) (P O P' O' : List (List UInt8)) (cs cs' : List HV) (h0 : NamesAt w B v0 P) (h1 : NamesAt w B v1 O) (h2 : HvsAt w B v2 cs) (k0 : NamesAt w B u0 P') (k1 : NamesAt w B u1 O') (k2 : HvsAt w B u2 cs') (hs : SlsH cs) (hs' : SlsH cs') :
    Calls Tryz.prog 29 #[.agg #[v0, v1, v2], .agg #[u0, u1, u2]] w fun e w' => e = .returned (.bool (agreeB P O P' O' cs cs')) ∧ Below w.heap.size w w' := by
  obtain ⟨a0, c0, rfl, _⟩ := h0.len
  obtain ⟨a1, c1, rfl, _⟩ := h1.len
  obtain ⟨a2, c2, rfl, _⟩ := h2.len
  obtain ⟨b0, d0, rfl, _⟩ := k0.len
  obtain ⟨b1, d1, rfl, _⟩ := k1.len
  obtain ⟨b2, d2, rfl, _⟩ := k2.len
  obtain ⟨W1, hW1⟩ : ∃ W, w.alloc (.cells #[.slice a0 P.length c0, .slice a1 O.length c1, .slice a2 cs.length c2] 25) = W := ⟨_, rfl⟩
  obtain ⟨W, hW⟩ : ∃ W, W1.alloc (.cells #[.slice b0 P'.length d0, .slice b1 O'.length d1, .slice b2 cs'.length d2] 25) = W := ⟨_, rfl⟩
  have bW1 : Below w.heap.size w W1 := by rw [← hW1]; exact alloc_v (Below.refl _ _) _
  have bW2 : Below W1.heap.size W1 W := by rw [← hW]; exact alloc_v (Below.refl _ _) _
  have zW1 : W1.heap.size = w.heap.size + 1 := by rw [← hW1]; simp
  have zW : W.heap.size = w.heap.size + 2 := by rw [← hW]; simp [zW1]
  have bW := trans_v bW1 bW2
  have e1 : W.heap[w.heap.size]? = some (.cells #[.slice a0 P.length c0, .slice a1 O.length c1, .slice a2 cs.length c2] 25 (0, 0)) := by
    refine (bW2.block _ (by omega)).trans ?_
    rw [← hW1]; exact World.alloc_heap_new w _
  have e2 : W.heap[w.heap.size + 1]? = some (.cells #[.slice b0 P'.length d0, .slice b1 O'.length d1, .slice b2 cs'.length d2] 25 (0, 0)) := by rw [← hW, ← zW1]; exact World.alloc_heap_new W1 _
  have HC0 := hide (fun (U : World) (b : Below W.heap.size W U) => equalS_k P P' U B B _ _ (h0.below ((trans_v bW b).mono hB)) (k0.below ((trans_v bW b).mono hB)))
  have HC1 := hide (fun (U : World) (b : Below W.heap.size W U) => equalS_k O O' U B B _ _ (h1.below ((trans_v bW b).mono hB)) (k1.below ((trans_v bW b).mono hB)))
  have HC2 := hide (fun (U : World) (b : Below W.heap.size W U) => equalC_k cs cs' U B B _ _ (Nat.le_trans hB (trans_v bW b).size) (Nat.le_trans hB (trans_v bW b).size) (h2.below ((trans_v bW b).mono hB)) (k2.below ((trans_v bW b).mono hB)) hs hs')
  have HE := hide (fun (U : World) (b : Below W.heap.size W U) => (b.block w.heap.size (by omega)).trans e1)
  have HF := hide (fun (U : World) (b : Below W.heap.size W U) => (b.block (w.heap.size + 1) (by omega)).trans e2)
  have x0 := cells_at e1 0 _ rfl
  have y0 := cells_at e2 0 _ rfl
  have BW := hide bW
  unfold agreeB
  clear h0 h1 h2 k0 k1 k2 e1 e2 zW bW bW1 bW2
  cases hp : decide (P = P')
  · rw [hp] at HC0
    go_enter Tryz.func29, Tryz.ntmps29
    go_wp2_with (go_at_call 48; refine (HC0.out _ (Below.refl _ _)).mono ?_; clear HC0; rintro r w3 ⟨rfl, b3⟩; have B3 := hide b3; clear b3)
    go_ret
    exact ⟨rfl, trans_v BW.out B3.out⟩
  rw [hp] at HC0
  have A1 : Hid (∀ (U : World) (b : Below W.heap.size W U), U.cell? ⟨w.heap.size, 1, none⟩ = some (.slice a1 O.length c1) ∧ U.cell? ⟨w.heap.size + 1, 1, none⟩ = some (.slice b1 O'.length d1)) := hide (fun U b => ⟨cells_at (HE.out U b) 1 _ rfl, cells_at (HF.out U b) 1 _ rfl⟩)
  have A2 : Hid (∀ (U : World) (b : Below W.heap.size W U), U.cell? ⟨w.heap.size, 2, none⟩ = some (.slice a2 cs.length c2) ∧ U.cell? ⟨w.heap.size + 1, 2, none⟩ = some (.slice b2 cs'.length d2)) := hide (fun U b => ⟨cells_at (HE.out U b) 2 _ rfl, cells_at (HF.out U b) 2 _ rfl⟩)
  cases ho : decide (O = O')
  · rw [ho] at HC1
    go_enter Tryz.func29, Tryz.ntmps29
    go_wp2_with (go_at_call 48; first | (refine (HC0.out _ (Below.refl _ _)).mono ?_; clear HC0; rintro r w3 ⟨rfl, b3⟩; have B3 := hide b3; obtain ⟨x1, y1⟩ := A1.out _ b3; clear b3) | (refine (HC1.out _ B3.out).mono ?_; clear HC1; rintro r w4 ⟨rfl, b4⟩; have B4 := hide b4; clear b4))
    go_ret
    exact ⟨rfl, trans_v (trans_v BW.out B3.out) B4.out⟩
  rw [ho] at HC1
  cases hq : plsB cs cs'
  all_goals
    rw [hq] at HC2
    go_enter Tryz.func29, Tryz.ntmps29
    go_wp2_with (first
      | (go_at_call 48; first | (refine (HC0.out _ (Below.refl _ _)).mono ?_; clear HC0; rintro r w3 ⟨rfl, b3⟩; have B3 := hide b3; obtain ⟨x1, y1⟩ := A1.out _ b3; clear b3) | (refine (HC1.out _ B3.out).mono ?_; clear HC1; rintro r w4 ⟨rfl, b4⟩; have B4 := hide (trans_v B3.out b4); obtain ⟨x2, y2⟩ := A2.out _ B4.out; clear b4))
      | (go_at_call 49; refine (HC2.out _ B4.out).mono ?_; clear HC2; rintro r w5 ⟨rfl, b5⟩; have B5 := hide b5; clear b5))
    go_ret
    exact ⟨rfl, trans_v (trans_v BW.out B4.out) B5.out⟩
end Go.Proofs.YtnmkggoampkekaaGreatDoor

/- laid: the events that operations tell, each at its place. -/
namespace Go.Proofs.YtnmkggoampkekaaGreatDoor
open Go.RowKit Go.Maps

def madeE (q : Nat) : Array Value := madeCells (evCells zeroE (.slice none 0 0)) (q * 12)
theorem infoEv : (Tryz.prog.info? 61).map (fun i => (i.zero, i.size, i.bytes)) = some (some (.agg (evCells zeroE (.slice none 0 0))), 12, 144) := by kernel_rfl
theorem makeEv (q : Nat) (hq : q ≤ 2000000000) (w : World) : (Instr.makeSlice 46 (.int .i64 (q : Int)) (.int .i64 (q : Int))).run Tryz.prog w = .ok (.slice (some ⟨w.heap.size, 0, none⟩) q q) (w.alloc (.cells (madeE q) 61)) := by
  obtain ⟨i0, hi, hz0, hz1, hz2⟩ := info_partsV infoEv
  have h := run_make (P := Tryz.prog) w 46 61 i0 _ Tryz.underlying46 hi hz0 .i64 .i64 (q : Int) (q : Int) (by omega) (Int.le_refl _) (by rw [hz2]; omega) (by omega)
  rw [hz1, Int.toNat_natCast] at h
  exact h
theorem laidN_none {P O : List (List UInt8)} {cs : List HV} {k : Nat} (h : laidN P O cs k = none) : ∀ m, k ≤ m → laidN P O cs m = none
  | 0, hm => by obtain rfl : k = 0 := by omega
                exact h
  | m + 1, hm => by
    by_cases e : k = m + 1
    · subst e; exact h
    · rw [laidN, laidN_none h m (by omega)]
theorem stepL_no {P O : List (List UInt8)} {E : List EV} {x : HV} (h : numB x.1.proc P.length = false ∨ numB x.1.obj O.length = false) : stepL P O E x = none := by
  unfold stepL
  rw [if_neg]
  rintro ⟨h1, h2, h3, h4⟩
  rcases h with h | h <;> · unfold numB at h; simp at h; omega
theorem stepL_yes {P O : List (List UInt8)} {E : List EV} {ip io : Nat} (hp : ip < P.length) (ho : io < O.length) (op : List UInt8) (ag rp : Vl) (iv rs : Int) (sa sr : Value) : stepL P O E (⟨ip, io, op, ag, iv, rs, rp⟩, sa, sr) =
    match layM E iv (⟨1, P[ip], O[io], op, ag, 0, 0, 0⟩, sa) with
    | none => none
    | some E1 => if rs = -1 ∧ zeroB rp = true then some E1 else layM E1 rs (⟨2, P[ip], [], [], rp, 0, 0, 0⟩, sr) := by
  have e1 : P.getD ip [] = P[ip] := by rw [List.getD_eq_getElem?_getD, List.getElem?_eq_getElem hp]; rfl
  have e2 : O.getD io [] = O[io] := by rw [List.getD_eq_getElem?_getD, List.getElem?_eq_getElem ho]; rfl
  unfold stepL
  rw [if_pos (by simp only; omega)]
  simp only [invEv, resEv, Int.toNat_natCast, e1, e2]
  rcases layM E iv (⟨1, P[ip], O[io], op, ag, 0, 0, 0⟩, sa) with _ | E1 <;> rfl
theorem numB_nat {i : Int} {m : Nat} (h : numB i m = true) : ∃ k : Nat, i = (k : Int) ∧ k < m := by
  unfold numB at h
  simp at h
  exact ⟨i.toNat, by omega, by omega⟩
theorem lay_m (w : World) (L g cap m : Nat) (E : List EV) (hm : E.length = m) (hr : w.ownsRow L 61 12 (.slice (some ⟨g, 0, none⟩) m cap) m (erow E)) (i : Int) (e : Evn) (xa : Option Addr) (xm xc : Nat) (hE : m ≤ 1000000000) (r : Option (List EV)) (hlm : layM E i (e, .slice xa xm xc) = r) :
    Calls Tryz.prog 42 #[.slice (some ⟨g, 0, none⟩) m cap, .int .i64 i, .agg (evCells e (.slice xa xm xc))] w fun v w' => v = .returned (.bool r.isSome) ∧ (∀ E', r = some E' → w'.ownsRow L 61 12 (.slice (some ⟨g, 0, none⟩) m cap) m (erow E')) ∧ Keeps (fun y => y = g) w w' := by
  subst hm
  have h := lay_k w L g cap E hr i (e, .slice xa xm xc) ⟨_, _, _, rfl⟩ hE
  rw [hlm] at h
  refine h.mono ?_
  rintro v w' ⟨h1, h2⟩
  cases r with
  | none => exact ⟨h1.1, fun E' e => (by cases e), h2⟩
  | some E1 => exact ⟨h1.1, fun E' e => (by cases e; exact h1.2), h2⟩
/-- What laid answers. -/
def LaidR (P O : List (List UInt8)) (cs : List HV) (h0 : Nat) (w' : World) (v : Value) : Prop := match laidM P O cs with
  | none => v = .tuple #[.slice none 0 0, .bool false]
  | some E => ∃ g, v = .tuple #[.slice (some ⟨g, 0, none⟩) E.length E.length, .bool true] ∧ h0 ≤ g ∧ w'.ownsRow h0 61 12 (.slice (some ⟨g, 0, none⟩) E.length E.length) E.length (erow E)
theorem LaidR.no {P O : List (List UInt8)} {cs : List HV} {h0 k : Nat} {w' : World} (h : laidN P O cs (k + 1) = none) (hk : k < cs.length) : LaidR P O cs h0 w' (.tuple #[.slice none 0 0, .bool false]) := by
  have e : laidM P O cs = none := laidN_none h cs.length (by omega)
  unfold LaidR
  rw [e]
set_option maxRecDepth 100000 in
set_option maxHeartbeats 8000000 in
theorem laid_k (w : World) (n : Nat) (v0 v1 v2 : Value) (P O : List (List UInt8)) (cs : List HV) (h : HPast w w.heap.size (n + 1) v0 v1 v2 P O cs) (hcs : cs.length ≤ 100000000) :
    Calls Tryz.prog 27 #[.agg #[v0, v1, v2]] w fun e w' => (∃ v, e = .returned v ∧ LaidR P O cs w.heap.size w' v) ∧ Below w.heap.size w w' := by
  obtain ⟨qn, hq⟩ : ∃ q, placesM cs = q := ⟨_, rfl⟩
  have hqb : qn ≤ 200000000 := by have := placesN_le cs cs.length; unfold placesM at hq; omega
  obtain ⟨a0, c0, rfl, hl0⟩ := h.pr.len
  obtain ⟨a1, c1, rfl, hl1⟩ := h.ob.len
  obtain ⟨a2, c2, rfl, hl2⟩ := h.cl.len
  obtain ⟨W, hW⟩ : ∃ W, w.alloc (.cells #[.slice a0 P.length c0, .slice a1 O.length c1, .slice a2 cs.length c2] 25) = W := ⟨_, rfl⟩
  have bW : Below w.heap.size w W := by rw [← hW]; exact alloc_v (Below.refl _ _) _
  have e1 : W.heap[w.heap.size]? = some (.cells #[.slice a0 P.length c0, .slice a1 O.length c1, .slice a2 cs.length c2] 25 (0, 0)) := by rw [← hW]; exact World.alloc_heap_new w _
  have zW : W.heap.size = w.heap.size + 1 := by rw [← hW]; simp
  have hpl := places_k W (.slice a0 P.length c0) (.slice a1 O.length c1) (.slice a2 cs.length c2) ⟨_, _, _, rfl⟩ ⟨_, _, _, rfl⟩ cs (fun x hx => ⟨by obtain ⟨a, c, e, _⟩ := (h.its x hx).1.len; exact ⟨_, _, _, e⟩, by obtain ⟨a, c, e, _⟩ := (h.its x hx).2.1.len; exact ⟨_, _, _, e⟩⟩) ((h.cl.below bW).up bW.size)
  rw [hq] at hpl
  have HPL := hide hpl
  have hmk := makeEv qn (by omega)
  have HH := hide h
  have HE := hide e1
  have y0 := cells_at e1 0 _ rfl
  have y1 := cells_at e1 1 _ rfl
  have y2 := cells_at e1 2 _ rfl
  have HQ := hide hq
  have HZW := hide zW
  clear h e1 hpl hq zW
  go_enter Tryz.func27, Tryz.ntmps27
  go_upto_region 2 with (go_at_call 25; refine HPL.out.mono ?_; clear HPL; rintro r w2 ⟨rfl, b2⟩)
  clear y0 y1 y2 hmk hW
  obtain ⟨X, hX⟩ : ∃ X, w2.alloc (.cells (madeE qn) 61) = X := ⟨_, rfl⟩
  have bX : Below w2.heap.size w2 X := by rw [← hX]; exact alloc_v (Below.refl _ _) _
  have zX : w2.heap.size < X.heap.size := by rw [← hX]; simp
  have bw2 := trans_v bW b2
  have hz2 : w.heap.size < w2.heap.size := by have := b2.size; have := HZW.out; omega
  have rX : X.ownsRow w.heap.size 61 12 (.slice (some ⟨w2.heap.size, 0, none⟩) qn qn) qn (erow (List.replicate qn zeroEV)) := by
    rw [← hX, ← erow_zero]
    exact World.ownsRow_lit w2 (madeE qn) qn (by omega) (by unfold maxLen; omega) (size_madeCells _ _)
  have eX : X.heap[w.heap.size]? = some (.cells #[.slice a0 P.length c0, .slice a1 O.length c1, .slice a2 cs.length c2] 25 (0, 0)) := (bX.block w.heap.size (by omega)).trans ((b2.block w.heap.size (by have := HZW.out; omega)).trans HE.out)
  have bwX := trans_v bw2 bX
  rw [hX]
  clear hX HE
  have x2 := cells_at eX 2 _ rfl
  go_wp2
  clear x2
  go_loopw [6, 7, 14] (fun _ _ i wr => ∃ (k : Nat) (E : List EV), k ≤ cs.length ∧ i = .int .i64 k ∧ laidN P O cs k = some E ∧ E.length = qn ∧ wr.ownsRow w.heap.size 61 12 (.slice (some ⟨w2.heap.size, 0, none⟩) qn qn) qn (erow E) ∧ Keeps (fun x => x = w2.heap.size) X wr) (fun _ _ i _ => cs.length - (intOf i).toNat)
  case atStart => exact ⟨0, _, Nat.zero_le _, rfl, by rw [laidN, HQ.out], List.length_replicate, rX, Keeps.refl _ _⟩
  case round =>
    obtain ⟨k, E, hk, rfl, hlN, hEl, hrow, kp⟩ := hrel
    have hXs := kp.size
    have bwr : Below w.heap.size w wr := bwX.trans (kp.toBelow (by omega) (fun x h => by omega))
    by_cases hlt : k < cs.length
    · obtain ⟨b3, o3, rfl, g3, p0, p1, p2, p3, p4, p5, p6, p7, p8, p9, p10, p11, p12, p13, p14⟩ := (HH.out.cl.below bwr).item k hlt
      have hit := HH.out.its cs[k] (List.getElem_mem hlt)
      have hst : laidN P O cs (k + 1) = stepL P O E cs[k] := by rw [laidN, hlN]; simp [hlt]
      generalize cs[k] = x at *
      obtain ⟨⟨pr, ob, op, ag, iv, rs, rp⟩, sa, sr⟩ := x
      dsimp only at p0 p1 p2 p3 p4 p5 p6 p7 p8 p9 p10 p11 p12 p13 p14
      obtain ⟨sa1, sc1, es1, _⟩ := hit.1.len
      obtain ⟨sr1, sr2, es2, _⟩ := hit.2.1.len
      dsimp only at es1 es2
      subst es1 es2
      have l3 : b3 < wr.heap.size := by omega
      have k0 : (0 : Int) ≤ (k : Int) := by omega
      have k1 : (k : Int) < (cs.length : Int) := by omega
      have eR := (kp.block w.heap.size (by omega) (by omega)).trans eX
      have HST := hide hst
      have HIT := hide hit
      have HLN := hide hlN
      have HROW := hide hrow
      have HKP := hide kp
      have HBR := hide bwr
      have HEL := hide hEl
      have HEX := hide eX
      clear hst hit hlN hrow kp bwr hEl g3 eX
      go_upto_region 5 with (fail)
      clear p0 p1 p2 p3 p4 p5 p6 p7 p8 p9 p10 p11 p12 p13 p14
      obtain ⟨Y, hY⟩ : ∃ Y, wr.alloc (.cells #[.int .i64 pr, .int .i64 ob, .string (bsN op), .int .i64 ag.kind, .int .i64 ag.int, .int .i64 ag.im, .string ag.text, .slice sa1 ag.items.length sc1, .int .i64 iv, .int .i64 rs, .int .i64 rp.kind, .int .i64 rp.int, .int .i64 rp.im, .string rp.text, .slice sr1 rp.items.length sr2] 69) = Y := ⟨_, rfl⟩
      have eY : Y.heap[wr.heap.size]? = some (.cells #[.int .i64 pr, .int .i64 ob, .string (bsN op), .int .i64 ag.kind, .int .i64 ag.int, .int .i64 ag.im, .string ag.text, .slice sa1 ag.items.length sc1, .int .i64 iv, .int .i64 rs, .int .i64 rp.kind, .int .i64 rp.int, .int .i64 rp.im, .string rp.text, .slice sr1 rp.items.length sr2] 69 (0, 0)) := by rw [← hY]; exact World.alloc_heap_new wr _
      have bA : Below wr.heap.size wr Y := by rw [← hY]; exact alloc_v (Below.refl _ _) _
      have zY : wr.heap.size < Y.heap.size := by rw [← hY]; simp
      rw [hY]
      clear hY
      have eP := (bA.block w.heap.size (by omega)).trans eR
      have bwY := HBR.out.trans (bA.mono HBR.out.size)
      have rY := (Keeps.below (M := fun _ => False) bA).row HROW.out (fun _ _ h => h)
      have kY := HKP.out.trans (Keeps.below (M := fun _ => False) bA) (fun _ _ h => h.elim)
      have t0 := cells_at eY 0 _ rfl
      have t1 := cells_at eY 1 _ rfl
      have u0 := cells_at eP 0 _ rfl
      have u1 := cells_at eP 1 _ rfl
      have RY := hide rY
      have KY := hide kY
      have EY := hide eY
      have EP := hide eP
      have BWY := hide bwY
      clear eR rY kY eY eP bwY
      cases hnp : numB pr P.length
      · have hno : LaidR P O cs w.heap.size Y (.tuple #[.slice none 0 0, .bool false]) := LaidR.no (HST.out.trans (stepL_no (.inl hnp))) hlt
        have HNO := hide hno
        clear hno
        go_wp2_with (go_at_call 41; refine (numbers_k _ _ _ _ _).mono ?_; rintro r w9 ⟨rfl, rfl⟩; rw [hnp])
        go_ret2
        exact ⟨⟨_, rfl, HNO.out⟩, BWY.out⟩
      cases hno : numB ob O.length
      · have hno2 : LaidR P O cs w.heap.size Y (.tuple #[.slice none 0 0, .bool false]) := LaidR.no (HST.out.trans (stepL_no (.inr hno))) hlt
        have HNO := hide hno2
        clear hno2
        go_wp2_with (go_at_call 41; refine (numbers_k _ _ _ _ _).mono ?_; rintro r w9 ⟨rfl, rfl⟩; first | rw [hnp] | rw [hno])
        go_ret2
        exact ⟨⟨_, rfl, HNO.out⟩, BWY.out⟩
      obtain ⟨ip, rfl, hip⟩ := numB_nat hnp
      obtain ⟨io, rfl, hio⟩ := numB_nat hno
      obtain ⟨bp, op0, rfl, lp, cp⟩ := (HH.out.pr.below BWY.out).item ip hip
      obtain ⟨bo, oo0, rfl, lo, co⟩ := (HH.out.ob.below BWY.out).item io hio
      have HS2 := hide (HST.out.trans (stepL_yes hip hio op ag rp iv rs _ _))
      clear HST
      have i0 : (0 : Int) ≤ (ip : Int) := by omega
      have i1 : (ip : Int) < (P.length : Int) := by omega
      have j0 : (0 : Int) ≤ (io : Int) := by omega
      have j1 : (io : Int) < (O.length : Int) := by omega
      have lp2 : bp < Y.heap.size := by omega
      have lo2 : bo < Y.heap.size := by omega
      clear lp lo
      go_upto_region 8 with (go_at_call 41; refine (numbers_k _ _ _ _ _).mono ?_; rintro r w9 ⟨rfl, rfl⟩; first | rw [hnp] | rw [hno])
      clear hnp hno t0 t1 u0 u1
      have hany := Wv.any Y
      have r0 := fun q : Wv Y => q.cell (cells_at EP.out 1 _ rfl)
      have r1 := fun q : Wv Y => q.cell (cells_at EY.out 8 _ rfl)
      have r2 := fun q : Wv Y => q.cell (cells_at EY.out 1 _ rfl)
      have r3 := fun q : Wv Y => q.cell (cells_at EY.out 2 _ rfl)
      have r4 := fun q : Wv Y => q.cell (cells_at EY.out 3 _ rfl)
      have r5 := fun q : Wv Y => q.cell (cells_at EY.out 4 _ rfl)
      have r6 := fun q : Wv Y => q.cell (cells_at EY.out 5 _ rfl)
      have r7 := fun q : Wv Y => q.cell (cells_at EY.out 6 _ rfl)
      have r8 := fun q : Wv Y => q.cell (cells_at EY.out 7 _ rfl)
      have r9 := fun q : Wv Y => q.cell co
      clear cp co
      refine wp_region_grown_tail 15 (by kernel_rfl) (by kernel_rfl) ?_
      simp only [List.take_succ_cons, List.take_zero, List.drop_succ_cons, List.drop_zero]
      repeat (go_big_quiet_step ((fail)))
      refine wpQuiet_nil ?_
      intro w3 hw'
      obtain ⟨q, rfl⟩ := hw'
      clear hany r0 r1 r2 r3 r4 r5 r6 r7 r8 r9
      obtain ⟨r, hr⟩ : ∃ r, layM E iv (⟨1, P[ip], O[io], op, ag, 0, 0, 0⟩, .slice sa1 ag.items.length sc1) = r := ⟨_, rfl⟩
      have HL1 := hide (lay_m q.val w.heap.size w2.heap.size qn qn E HEL.out ((Keeps.below (M := fun _ => False) q.below).row RY.out (fun _ _ h => h)) iv ⟨1, P[ip], O[io], op, ag, 0, 0, 0⟩ sa1 ag.items.length sc1 (by omega) r hr)
      have DX := hide (fun (U : World) (h : Keeps (fun y => y = w2.heap.size) q.val U) => (show Below w.heap.size w U from (BWY.out.trans (q.below.mono BWY.out.size)).trans (h.toBelow (by have := q.below.size; have := BWY.out.size; omega) (fun x h => by omega))))
      cases r with
      | none =>
        have hno2 : ∀ U, LaidR P O cs w.heap.size U (.tuple #[.slice none 0 0, .bool false]) := fun U => LaidR.no (HS2.out.trans (by rw [hr])) hlt
        have HNO := hide hno2
        clear hno2 hr
        go_wp2_with (go_at_call 42; refine HL1.out.mono ?_; clear HL1; rintro e w4 ⟨rfl, _, k4⟩)
        go_ret2
        exact ⟨⟨_, rfl, HNO.out _⟩, DX.out _ k4⟩
      | some E1 =>
        have hS3 := HS2.out
        rw [hr] at hS3
        have HS3 := hide hS3
        have hE1 : E1.length = qn := (layM_len hr).trans HEL.out
        have HE1 := hide hE1
        clear hS3 hr HS2 hE1
        have hqv := q.below.size
        have f4 := (q.below.block _ zY).trans EY.out
        have F4 := hide f4
        clear f4
        go_upto_region 10 with (go_at_call 42; refine HL1.out.mono ?_; clear HL1; rintro e w4 ⟨rfl, h4, k4⟩; have H4 := hide (h4 E1 rfl); have K4 := hide k4; have f5 := (k4.block wr.heap.size (by omega) (by omega)).trans F4.out; have F5 := hide f5; clear h4 k4 f5)
        have hq4 := K4.out.size
        have g9 := cells_at F5.out 9 _ rfl
        have g10 := cells_at F5.out 10 _ rfl
        have g11 := cells_at F5.out 11 _ rfl
        have g12 := cells_at F5.out 12 _ rfl
        have g13 := cells_at F5.out 13 _ rfl
        have g14 := cells_at F5.out 14 _ rfl
        have lw4 : wr.heap.size < w4.heap.size := by omega
        have KQ := hide ((HKP.out.trans (Keeps.below (M := fun _ => False) (bA.trans (q.below.mono bA.size))) (fun _ _ h => h.elim)).trans K4.out (fun _ _ h => h))
        have D4 := hide (DX.out _ K4.out)
        by_cases hrs : rs = -1
        · subst hrs
          cases hzb : zeroB rp
          · have HS4 : Hid (laidN P O cs (k + 1) = layM E1 (-1) (⟨2, P[ip], [], [], rp, 0, 0, 0⟩, .slice sr1 rp.items.length sr2)) := hide (by have := HS3.out; simpa [hzb] using this)
            clear HS3
            have HZ := hide (zero_k rp sr1 sr2 w4)
            rw [hzb] at HZ
            go_upto_region 11 with (go_at_call 43; refine HZ.out.mono ?_; clear HZ; rintro e w5 ⟨rfl, b5⟩; have k5 := K4.out.trans (Keeps.below (M := fun _ => False) b5) (fun _ _ h => h.elim); have K5 := hide k5; have f6 := (b5.block wr.heap.size lw4).trans F5.out; have F6 := hide f6; have H5 := hide ((Keeps.below (M := fun _ => False) b5).row H4.out (fun _ _ h => h)); have KR := hide (KQ.out.trans (Keeps.below (M := fun _ => False) b5) (fun _ _ h => h.elim)); clear k5 f6 b5)
            have x9 := cells_at F6.out 9 _ rfl
            have x10 := cells_at F6.out 10 _ rfl
            have x11 := cells_at F6.out 11 _ rfl
            have x12 := cells_at F6.out 12 _ rfl
            have x13 := cells_at F6.out 13 _ rfl
            have x14 := cells_at F6.out 14 _ rfl
            clear g9 g10 g11 g12 g13 g14
            obtain ⟨r2, hr2⟩ : ∃ r, layM E1 (-1) (⟨2, P[ip], [], [], rp, 0, 0, 0⟩, .slice sr1 rp.items.length sr2) = r := ⟨_, rfl⟩
            have HL2 := hide (lay_m _ w.heap.size w2.heap.size qn qn E1 HE1.out H5.out (-1) ⟨2, P[ip], [], [], rp, 0, 0, 0⟩ sr1 rp.items.length sr2 (by omega) r2 hr2)
            cases r2 with
            | none =>
              have HNO : Hid (∀ U, LaidR P O cs w.heap.size U (.tuple #[.slice none 0 0, .bool false])) := hide (fun U => LaidR.no (HS4.out.trans hr2) hlt)
              clear hr2
              go_wp2_with (go_at_call 42; refine HL2.out.mono ?_; clear HL2; rintro e w6 ⟨rfl, _, k6⟩)
              go_ret2
              exact ⟨⟨_, rfl, HNO.out _⟩, DX.out _ (K5.out.trans k6 (fun _ _ h => h))⟩
            | some E2 =>
              have HS5 := hide (HS4.out.trans hr2)
              have HE2 := hide ((layM_len hr2).trans HE1.out)
              clear hr2
              go_wp2_with (go_at_call 42; refine HL2.out.mono ?_; clear HL2; rintro e w6 ⟨rfl, h6, k6⟩)
              go_roundw
              case rel => exact ⟨k + 1, E2, by omega, by go_num, HS5.out, HE2.out, h6 E2 rfl, KR.out.trans k6 (fun _ _ h => h)⟩
              case measure => simp [intOf]; omega
          · have HS4 : Hid (laidN P O cs (k + 1) = some E1) := hide (by have := HS3.out; simpa [hzb] using this)
            clear HS3
            have HZ := hide (zero_k rp sr1 sr2 w4)
            rw [hzb] at HZ
            go_wp2_with (go_at_call 43; refine HZ.out.mono ?_; clear HZ; rintro e w5 ⟨rfl, b5⟩; have H5 := hide ((Keeps.below (M := fun _ => False) b5).row H4.out (fun _ _ h => h)); have KR := hide (KQ.out.trans (Keeps.below (M := fun _ => False) b5) (fun _ _ h => h.elim)); clear b5)
            go_roundw
            case rel => exact ⟨k + 1, E1, by omega, by go_num, HS4.out, HE1.out, H5.out, KR.out⟩
            case measure => simp [intOf]; omega
        · have HS4 : Hid (laidN P O cs (k + 1) = layM E1 rs (⟨2, P[ip], [], [], rp, 0, 0, 0⟩, .slice sr1 rp.items.length sr2)) := hide (by have := HS3.out; simpa [hrs] using this)
          clear HS3
          have hrb : (rs == -1) = false := by simpa using hrs
          have K5 := K4
          have F6 := F5
          have H5 := H4
          have KR := KQ
          go_upto_region 11 with (fail)
          have x9 := cells_at F6.out 9 _ rfl
          have x10 := cells_at F6.out 10 _ rfl
          have x11 := cells_at F6.out 11 _ rfl
          have x12 := cells_at F6.out 12 _ rfl
          have x13 := cells_at F6.out 13 _ rfl
          have x14 := cells_at F6.out 14 _ rfl
          clear g9 g10 g11 g12 g13 g14
          obtain ⟨r2, hr2⟩ : ∃ r, layM E1 (rs) (⟨2, P[ip], [], [], rp, 0, 0, 0⟩, .slice sr1 rp.items.length sr2) = r := ⟨_, rfl⟩
          have HL2 := hide (lay_m _ w.heap.size w2.heap.size qn qn E1 HE1.out H5.out (rs) ⟨2, P[ip], [], [], rp, 0, 0, 0⟩ sr1 rp.items.length sr2 (by omega) r2 hr2)
          cases r2 with
          | none =>
            have HNO : Hid (∀ U, LaidR P O cs w.heap.size U (.tuple #[.slice none 0 0, .bool false])) := hide (fun U => LaidR.no (HS4.out.trans hr2) hlt)
            clear hr2
            go_wp2_with (go_at_call 42; refine HL2.out.mono ?_; clear HL2; rintro e w6 ⟨rfl, _, k6⟩)
            go_ret2
            exact ⟨⟨_, rfl, HNO.out _⟩, DX.out _ (K5.out.trans k6 (fun _ _ h => h))⟩
          | some E2 =>
            have HS5 := hide (HS4.out.trans hr2)
            have HE2 := hide ((layM_len hr2).trans HE1.out)
            clear hr2
            go_wp2_with (go_at_call 42; refine HL2.out.mono ?_; clear HL2; rintro e w6 ⟨rfl, h6, k6⟩)
            go_roundw
            case rel => exact ⟨k + 1, E2, by omega, by go_num, HS5.out, HE2.out, h6 E2 rfl, KR.out.trans k6 (fun _ _ h => h)⟩
            case measure => simp [intOf]; omega
    · have he : k = cs.length := by omega
      subst he
      have HR : Hid (LaidR P O cs w.heap.size wr (.tuple #[.slice (some ⟨w2.heap.size, 0, none⟩) qn qn, .bool true])) := hide (by
        unfold LaidR laidM
        rw [hlN]
        exact ⟨w2.heap.size, by rw [hEl], by omega, by rw [hEl]; exact hrow⟩)
      have HB := hide bwr
      clear hlN hrow kp bwr eX
      go_wp2
      go_ret2
      exact ⟨⟨_, rfl, HR.out⟩, HB.out⟩
end Go.Proofs.YtnmkggoampkekaaGreatDoor
