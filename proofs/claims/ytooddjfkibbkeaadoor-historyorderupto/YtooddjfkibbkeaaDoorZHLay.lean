/- numbers, zero, places, lay. -/
import Derived.Test.YtooddjfkibbkeaaDoorZHPast
import Derived.Test.YtooddjfkibbkeaaDoorZHTake
import Derived.Deep.QuietTactic
namespace Go.Proofs.YtooddjfkibbkeaaDoor
open Go.RowKit Go.Maps

def numB (i : Int) (m : Nat) : Bool := decide (0 ≤ i) && decide (i < (m : Int))
set_option maxRecDepth 100000 in
theorem numbers_k (i : Int) (a : Option Addr) (m c : Nat) (w : World) : Calls Tryd.prog 60 #[.int .i64 i, .slice a m c] w fun e w' => e = .returned (.bool (numB i m)) ∧ w = w' := by
  by_cases h0 : 0 ≤ i
  · have e0 : numB i m = decide (i < (m : Int)) := by simp [numB, h0]
    rw [e0]
    go_enter Tryd.func60, Tryd.ntmps60
    go_wp2
    go_ret
    exact ⟨by simp, rfl⟩
  · have e0 : numB i m = false := by simp [numB, h0]
    rw [e0]
    go_enter Tryd.func60, Tryd.ntmps60
    go_wp2
    go_ret
    exact ⟨by simp, rfl⟩
set_option maxRecDepth 100000 in
set_option maxHeartbeats 1000000 in
theorem zero_k (v : Vl) (a : Option Addr) (c : Nat) (w : World) : Calls Tryd.prog 62 #[.agg #[.int .i64 v.kind, .int .i64 v.int, .int .i64 v.im, .string v.text, .slice a v.items.length c]] w fun e w' => e = .returned (.bool (zeroB v)) ∧ Below w.heap.size w w' := by
  obtain ⟨kd, it, im, tx, its⟩ := v
  unfold zeroB
  dsimp only
  generalize its.length = m
  by_cases h0 : kd = 0
  · subst h0
    by_cases h1 : it = 0
    · subst h1
      by_cases h2 : im = 0
      · subst h2
        by_cases h3 : tx = ⟨#[]⟩
        · subst h3
          rcases Nat.eq_zero_or_pos m with hm | hm
          · subst hm
            go_enter Tryd.func62, Tryd.ntmps62
            go_wp2
            go_ret
            exact ⟨by simp; rfl, alloc_v (Below.refl _ _) _⟩
          · have hm1 : ¬ (m = 0) := by omega
            have hm2 : ¬ ((m : Int) = 0) := by omega
            go_enter Tryd.func62, Tryd.ntmps62
            go_wp2
            go_ret
            exact ⟨by simp [hm1], alloc_v (Below.refl _ _) _⟩
        · have h4 : ¬ (tx.size = 0) := fun h => h3 (by cases tx with | mk d => cases d with | mk l => cases l with | nil => rfl | cons x l => cases h)
          have h5 : ¬ (tx.toList = []) := fun h => h4 (by rw [ByteArray.toList_eq] at h; show tx.data.size = 0; rw [← Array.length_toList, h]; rfl)
          go_enter Tryd.func62, Tryd.ntmps62
          go_wp2
          go_ret
          exact ⟨by simp [h4], alloc_v (Below.refl _ _) _⟩
      · go_enter Tryd.func62, Tryd.ntmps62
        go_wp2
        go_ret
        exact ⟨by simp [h2], alloc_v (Below.refl _ _) _⟩
    · go_enter Tryd.func62, Tryd.ntmps62
      go_wp2
      go_ret
      exact ⟨by simp [h1], alloc_v (Below.refl _ _) _⟩
  · go_enter Tryd.func62, Tryd.ntmps62
    go_wp2
    go_ret
    exact ⟨by simp [h0], alloc_v (Below.refl _ _) _⟩
set_option maxRecDepth 100000 in
set_option maxHeartbeats 2000000 in
theorem places_k (w : World) (v0 v1 v2 : Value) (hv0 : ∃ a m c, v0 = .slice a m c) (hv1 : ∃ a m c, v1 = .slice a m c) (cs : List HV) (hs : ∀ x ∈ cs, (∃ a m c, x.2.1 = .slice a m c) ∧ ∃ a m c, x.2.2 = .slice a m c) (hc : HvsAt w w.heap.size v2 cs) :
    Calls Tryd.prog 49 #[.agg #[v0, v1, v2]] w fun e w' => e = .returned (.int .i64 (placesM cs : Nat)) ∧ Below w.heap.size w w' := by
  obtain ⟨a0, m0, c0, rfl⟩ := hv0
  obtain ⟨a1, m1, c1, rfl⟩ := hv1
  obtain ⟨a2, c2, rfl, hlen⟩ := hc.len
  have bW : Below w.heap.size w (w.alloc (.cells #[.slice a0 m0 c0, .slice a1 m1 c1, .slice a2 cs.length c2] 27)) := alloc_v (Below.refl _ _) _
  have HC := hide hc
  clear hc
  go_enter Tryd.func49, Tryd.ntmps49
  go_wp2
  go_loopw [3, 5, 12] (fun n _ i wr => ∃ k : Nat, k ≤ cs.length ∧ n = .int .i64 (placesN cs k : Nat) ∧ i = .int .i64 k ∧ Below w.heap.size w wr) (fun _ _ i _ => cs.length - (intOf i).toNat)
  case atStart => exact ⟨0, Nat.zero_le _, by simp [placesN], rfl, bW⟩
  case round =>
    obtain ⟨k, hk, rfl, rfl, hb⟩ := hrel
    have hpl := placesN_le cs k
    by_cases hlt : k < cs.length
    · obtain ⟨b3, o3, rfl, g3, p0, p1, p2, p3, p4, p5, p6, p7, p8, p9, p10, p11, p12, p13, p14⟩ := (HC.out.below hb).item k hlt
      have hps := placesN_succ cs k hlt
      obtain ⟨⟨s1, s2, s3, es⟩, ⟨t1, t2, t3, et⟩⟩ := hs _ (List.getElem_mem hlt)
      rw [es] at p7
      rw [et] at p14
      clear es et
      have hsz := hb.size
      have l3 : b3 < wr.heap.size := by omega
      have k0 : (0 : Int) ≤ (k : Int) := by omega
      have k1 : (k : Int) < (cs.length : Int) := by omega
      have HB := hide hb
      clear hb g3
      generalize cs[k] = x at *
      generalize hpn : placesN cs k = q at *
      by_cases hr : x.1.res = -1
      · have hrb : (x.1.res != -1) = false := by simp [hr]
        go_wp2
        go_roundw
        case rel => exact ⟨k + 1, by omega, by rw [hps, if_pos hr]; rfl, by go_num, alloc_v HB.out _⟩
        case measure => simp [intOf]; omega
      · have hrb : (x.1.res != -1) = true := by simp [hr]
        go_wp2
        go_roundw
        case rel => exact ⟨k + 1, by omega, by rw [hps, if_neg hr]; go_num, by go_num, alloc_v HB.out _⟩
        case measure => simp [intOf]; omega
    · have he : k = cs.length := by omega
      subst he
      go_wp2
      go_ret
      exact ⟨rfl, hb⟩
/-- An event is stored at its place. -/
theorem erow_put {w : World} {L g cap m : Nat} {E : List EV} (hr : w.ownsRow L 46 12 (.slice (some ⟨g, 0, none⟩) m cap) m (erow E)) (k : Nat) (hk : k < E.length) (x : EV) :
    ((((((((((((w.setCell ⟨g, k * 12, none⟩ (.int .i64 x.1.kind)).setCell ⟨g, k * 12 + 1, none⟩ (.string (bsN x.1.proc))).setCell ⟨g, k * 12 + 2, none⟩ (.string (bsN x.1.obj))).setCell ⟨g, k * 12 + 3, none⟩ (.string (bsN x.1.op))).setCell ⟨g, k * 12 + 4, none⟩ (.int .i64 x.1.val.kind)).setCell ⟨g, k * 12 + 5, none⟩ (.int .i64 x.1.val.int)).setCell ⟨g, k * 12 + 6, none⟩ (.int .i64 x.1.val.im)).setCell ⟨g, k * 12 + 7, none⟩ (.string x.1.val.text)).setCell ⟨g, k * 12 + 8, none⟩ x.2).setCell ⟨g, k * 12 + 9, none⟩ (.int .i64 x.1.off)).setCell ⟨g, k * 12 + 10, none⟩ (.int .i64 x.1.line)).setCell ⟨g, k * 12 + 11, none⟩ (.int .i64 x.1.col)).ownsRow L 46 12 (.slice (some ⟨g, 0, none⟩) m cap) m (erow (E.set k x)) ∧
    Keeps (fun y => y = g) w ((((((((((((w.setCell ⟨g, k * 12, none⟩ (.int .i64 x.1.kind)).setCell ⟨g, k * 12 + 1, none⟩ (.string (bsN x.1.proc))).setCell ⟨g, k * 12 + 2, none⟩ (.string (bsN x.1.obj))).setCell ⟨g, k * 12 + 3, none⟩ (.string (bsN x.1.op))).setCell ⟨g, k * 12 + 4, none⟩ (.int .i64 x.1.val.kind)).setCell ⟨g, k * 12 + 5, none⟩ (.int .i64 x.1.val.int)).setCell ⟨g, k * 12 + 6, none⟩ (.int .i64 x.1.val.im)).setCell ⟨g, k * 12 + 7, none⟩ (.string x.1.val.text)).setCell ⟨g, k * 12 + 8, none⟩ x.2).setCell ⟨g, k * 12 + 9, none⟩ (.int .i64 x.1.off)).setCell ⟨g, k * 12 + 10, none⟩ (.int .i64 x.1.line)).setCell ⟨g, k * 12 + 11, none⟩ (.int .i64 x.1.col)) := by
  have s0 := hr.stored (k * 12) (.int .i64 x.1.kind)
  have s1 := s0.1.stored (k * 12 + 1) (.string (bsN x.1.proc))
  have s2 := s1.1.stored (k * 12 + 2) (.string (bsN x.1.obj))
  have s3 := s2.1.stored (k * 12 + 3) (.string (bsN x.1.op))
  have s4 := s3.1.stored (k * 12 + 4) (.int .i64 x.1.val.kind)
  have s5 := s4.1.stored (k * 12 + 5) (.int .i64 x.1.val.int)
  have s6 := s5.1.stored (k * 12 + 6) (.int .i64 x.1.val.im)
  have s7 := s6.1.stored (k * 12 + 7) (.string x.1.val.text)
  have s8 := s7.1.stored (k * 12 + 8) x.2
  have s9 := s8.1.stored (k * 12 + 9) (.int .i64 x.1.off)
  have s10 := s9.1.stored (k * 12 + 10) (.int .i64 x.1.line)
  have s11 := s10.1.stored (k * 12 + 11) (.int .i64 x.1.col)
  have e1 : (erow (E.take k)).length = k * 12 := by rw [erow_len, List.length_take]; congr 1; omega
  have one : ∀ (A M D : List Value) (i : Nat) (v : Value), A.length = k * 12 → i < M.length → (A ++ (M ++ D)).set (k * 12 + i) v = A ++ (M.set i v ++ D) := fun A M D i v hA hi => by
    rw [List.set_append_right _ _ (by omega), hA, Nat.add_sub_cancel_left, List.set_append_left _ _ hi]
  have hfin : ((((((((((((erow E).set (k * 12) (.int .i64 x.1.kind)).set (k * 12 + 1) (.string (bsN x.1.proc))).set (k * 12 + 2) (.string (bsN x.1.obj))).set (k * 12 + 3) (.string (bsN x.1.op))).set (k * 12 + 4) (.int .i64 x.1.val.kind)).set (k * 12 + 5) (.int .i64 x.1.val.int)).set (k * 12 + 6) (.int .i64 x.1.val.im)).set (k * 12 + 7) (.string x.1.val.text)).set (k * 12 + 8) x.2).set (k * 12 + 9) (.int .i64 x.1.off)).set (k * 12 + 10) (.int .i64 x.1.line)).set (k * 12 + 11) (.int .i64 x.1.col) = erow (E.set k x) := by
    rw [erow_split E k hk, erow_set E k hk x]
    have z : (erow (E.take k) ++ (evOf E[k] ++ erow (E.drop (k + 1)))).set (k * 12) (.int .i64 x.1.kind) = erow (E.take k) ++ ((evOf E[k]).set 0 (.int .i64 x.1.kind) ++ erow (E.drop (k + 1))) := one (erow (E.take k)) (evOf E[k]) (erow (E.drop (k + 1))) 0 (.int .i64 x.1.kind) e1 (by rw [evOf_len]; omega)
    rw [z]
    rw [one _ _ _ 1 _ e1 (by simp [evOf_len]), one _ _ _ 2 _ e1 (by simp [evOf_len]), one _ _ _ 3 _ e1 (by simp [evOf_len]), one _ _ _ 4 _ e1 (by simp [evOf_len]), one _ _ _ 5 _ e1 (by simp [evOf_len]), one _ _ _ 6 _ e1 (by simp [evOf_len]), one _ _ _ 7 _ e1 (by simp [evOf_len]), one _ _ _ 8 _ e1 (by simp [evOf_len]), one _ _ _ 9 _ e1 (by simp [evOf_len]), one _ _ _ 10 _ e1 (by simp [evOf_len]), one _ _ _ 11 _ e1 (by simp [evOf_len])]
    rfl
  have s12 := s11.1
  rw [hfin] at s12
  refine ⟨s12, ?_⟩
  have kk : ∀ {u v : World} {o : Nat} {y : Value}, Keeps (fun z => z = g) u v → Keeps (fun z => z = g) u (v.setCell ⟨g, o, none⟩ y) := fun {u v o y} h => h.trans (Keeps.set v g o y) (fun _ _ h => h)
  exact kk (kk (kk (kk (kk (kk (kk (kk (kk (kk (kk (Keeps.set w g _ _)))))))))))
set_option maxRecDepth 100000 in
set_option maxHeartbeats 2000000 in
theorem lay_k (w : World) (L g cap : Nat) (E : List EV) (hr : w.ownsRow L 46 12 (.slice (some ⟨g, 0, none⟩) E.length cap) E.length (erow E)) (i : Int) (x : EV) (hx : ∃ a m c, x.2 = .slice a m c) (_hE : E.length ≤ 1000000000) :
    Calls Tryd.prog 61 #[.slice (some ⟨g, 0, none⟩) E.length cap, .int .i64 i, .agg (evCells x.1 x.2)] w fun e w' => (match layM E i x with | none => e = .returned (.bool false) ∧ w'.ownsRow L 46 12 (.slice (some ⟨g, 0, none⟩) E.length cap) E.length (erow E) | some E' => e = .returned (.bool true) ∧ w'.ownsRow L 46 12 (.slice (some ⟨g, 0, none⟩) E.length cap) E.length (erow E')) ∧ Keeps (fun y => y = g) w w' := by
  obtain ⟨W, hW⟩ : ∃ W, w.alloc (.cells (evCells x.1 x.2) 46) = W := ⟨_, rfl⟩
  have bW : Below w.heap.size w W := by rw [← hW]; exact alloc_v (Below.refl _ _) _
  have e1 : W.heap[w.heap.size]? = some (.cells (evCells x.1 x.2) 46 (0, 0)) := by rw [← hW]; exact World.alloc_heap_new w _
  have kW := Keeps.below (M := fun y => y = g) bW
  have rW := (Keeps.below (M := fun _ => False) bW).row hr (fun _ _ h => h)
  obtain ⟨e, xs⟩ := x
  obtain ⟨xa, xm, xc, hxs⟩ := hx
  dsimp only at hxs
  subst hxs
  dsimp only at hW e1
  unfold layM
  by_cases hc : 0 ≤ i ∧ i < (E.length : Int)
  · rw [if_pos hc]
    obtain ⟨h0, h1⟩ := hc
    obtain ⟨k, rfl⟩ : ∃ k : Nat, i = (k : Int) := ⟨i.toNat, by omega⟩
    rw [Int.toNat_natCast]
    have hk : k < E.length := by omega
    have hn0 : ¬ ((k : Int) < 0) := by omega
    have hn1 : ¬ ((E.length : Int) ≤ (k : Int)) := by omega
    have hcell : ∀ j, j < 12 → ∃ v, W.cell? ⟨g, k * 12 + j, none⟩ = some v := fun j hj => by
      rw [rW.cellAt (k * 12 + j) (by have := Nat.mul_le_mul_right 12 (show k + 1 ≤ E.length by omega); omega), erow_get E k hk j hj]
      exact ⟨_, List.getElem?_eq_getElem (by rw [evOf_len]; exact hj)⟩
    have hfz : ∀ j, W.frozen? ⟨g, k * 12 + j, none⟩ = false := fun j => rW.frozenAt _
    obtain ⟨y0, d0⟩ := hcell 0 (by omega)
    obtain ⟨y1, d1⟩ := hcell 1 (by omega)
    obtain ⟨y2, d2⟩ := hcell 2 (by omega)
    obtain ⟨y3, d3⟩ := hcell 3 (by omega)
    obtain ⟨y4, d4⟩ := hcell 4 (by omega)
    obtain ⟨y5, d5⟩ := hcell 5 (by omega)
    obtain ⟨y6, d6⟩ := hcell 6 (by omega)
    obtain ⟨y7, d7⟩ := hcell 7 (by omega)
    obtain ⟨y8, d8⟩ := hcell 8 (by omega)
    obtain ⟨y9, d9⟩ := hcell 9 (by omega)
    obtain ⟨y10, d10⟩ := hcell 10 (by omega)
    obtain ⟨y11, d11⟩ := hcell 11 (by omega)
    rw [Nat.add_zero] at d0
    have z0 := hfz 0
    have z1 := hfz 1
    have z2 := hfz 2
    have z3 := hfz 3
    have z4 := hfz 4
    have z5 := hfz 5
    have z6 := hfz 6
    have z7 := hfz 7
    have z8 := hfz 8
    have z9 := hfz 9
    have z10 := hfz 10
    have z11 := hfz 11
    rw [Nat.add_zero] at z0
    have c0 := cells_at e1 0 _ rfl
    have c1 := cells_at e1 1 _ rfl
    have c2 := cells_at e1 2 _ rfl
    have c3 := cells_at e1 3 _ rfl
    have c4 := cells_at e1 4 _ rfl
    have c5 := cells_at e1 5 _ rfl
    have c6 := cells_at e1 6 _ rfl
    have c7 := cells_at e1 7 _ rfl
    have c8 := cells_at e1 8 _ rfl
    have c9 := cells_at e1 9 _ rfl
    have c10 := cells_at e1 10 _ rfl
    have c11 := cells_at e1 11 _ rfl
    have HR := hide rW
    have HKW := hide kW
    clear hcell hfz rW hr kW e1
    go_enter Tryd.func61, Tryd.ntmps61
    go_wp2
    go_ret
    obtain ⟨r1, k1⟩ := erow_put HR.out k hk (e, .slice xa xm xc)
    exact ⟨⟨rfl, r1⟩, HKW.out.trans k1 (fun _ _ h => h)⟩
  · rw [if_neg hc]
    by_cases h0 : i < 0
    · go_enter Tryd.func61, Tryd.ntmps61
      go_wp2
      go_ret
      exact ⟨⟨rfl, rW⟩, kW⟩
    · have h1 : (E.length : Int) ≤ i := by omega
      go_enter Tryd.func61, Tryd.ntmps61
      go_wp2
      go_ret
      exact ⟨⟨rfl, rW⟩, kW⟩
end Go.Proofs.YtooddjfkibbkeaaDoor
