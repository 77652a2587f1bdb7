/- The reference's read: names, rows of items, and all of it. -/
import Derived.Test.YtjbpodkhgdaopaaGreatDoorZVRefRead
import Derived.Test.YtjbpodkhgdaopaaGreatDoorZVReadM
namespace Go.Proofs.YtjbpodkhgdaopaaGreatDoor
open Go.RowKit

/-- The value is laid into the result, in any world. -/
theorem rd_fin {w X : World} {lb : Nat} (hr : X.heap[w.heap.size]? = some (.cells zcells 26 (0, 0))) (hg : w.grownBy X (some lb)) (x0 x1 x2 x3 x4 : Value) :
    (((((X.setCell ⟨w.heap.size, 0, none⟩ x0).setCell ⟨w.heap.size, 1, none⟩ x1).setCell ⟨w.heap.size, 2, none⟩ x2).setCell ⟨w.heap.size, 3, none⟩ x3).setCell ⟨w.heap.size, 4, none⟩ x4).heap[w.heap.size]? = some (.cells #[x0, x1, x2, x3, x4] 26 (0, 0)) ∧
    w.grownBy (((((X.setCell ⟨w.heap.size, 0, none⟩ x0).setCell ⟨w.heap.size, 1, none⟩ x1).setCell ⟨w.heap.size, 2, none⟩ x2).setCell ⟨w.heap.size, 3, none⟩ x3).setCell ⟨w.heap.size, 4, none⟩ x4) (some lb) ∧
    (∀ b, b ≠ w.heap.size → (((((X.setCell ⟨w.heap.size, 0, none⟩ x0).setCell ⟨w.heap.size, 1, none⟩ x1).setCell ⟨w.heap.size, 2, none⟩ x2).setCell ⟨w.heap.size, 3, none⟩ x3).setCell ⟨w.heap.size, 4, none⟩ x4).heap[b]? = X.heap[b]?) ∧
    (((((X.setCell ⟨w.heap.size, 0, none⟩ x0).setCell ⟨w.heap.size, 1, none⟩ x1).setCell ⟨w.heap.size, 2, none⟩ x2).setCell ⟨w.heap.size, 3, none⟩ x3).setCell ⟨w.heap.size, 4, none⟩ x4).heap.size = X.heap.size := by
  have g1 := heap_setCell_same _ _ 0 _ _ x0 hr
  have g2 := heap_setCell_same _ _ 1 _ _ x1 g1
  have g3 := heap_setCell_same _ _ 2 _ _ x2 g2
  have g4 := heap_setCell_same _ _ 3 _ _ x3 g3
  have g5 := heap_setCell_same _ _ 4 _ _ x4 g4
  refine ⟨g5, grown_far (grown_far (grown_far (grown_far (grown_far hg (Nat.le_refl _)) (Nat.le_refl _)) (Nat.le_refl _)) (Nat.le_refl _)) (Nat.le_refl _), fun b hb => ?_, by simp [World.setCell]⟩
  rw [Below.heap_setCell _ _ _ _ hb, Below.heap_setCell _ _ _ _ hb, Below.heap_setCell _ _ _ _ hb, Below.heap_setCell _ _ _ _ hb, Below.heap_setCell _ _ _ _ hb]
theorem headM_okL {l : List UInt8} {v : Vl} {k : Nat} {r : List UInt8} (h : headM l = some (v, k, r)) (hl : l.length ≤ 1048576) : v.ok ∧ v.items = [] ∧ r.length ≤ l.length ∧ k < 18446744073709551616 := by
  have e0 : (⟨#[]⟩ : ByteArray).size ≤ 1048576 := by decide
  cases l with
  | nil => simp [headM] at h
  | cons c t =>
    simp only [List.length_cons] at hl
    simp only [headM] at h
    have hf := front_lt t
    split at h
    · cases t with
      | nil => simp at h
      | cons x t =>
        simp only [Option.some.injEq, Prod.mk.injEq] at h
        obtain ⟨rfl, rfl, rfl⟩ := h
        have := x.toNat_lt
        exact ⟨ok_mk e0 ⟨by omega, by omega⟩ ⟨by omega, by omega⟩, rfl, by simp; omega, by omega⟩
    · split at h
      · split at h
        · simp only [Option.some.injEq, Prod.mk.injEq] at h
          obtain ⟨rfl, rfl, rfl⟩ := h
          exact ⟨ok_mk e0 (unz_ok _ hf) ⟨by omega, by omega⟩, rfl, by simp; omega, by omega⟩
        · cases h
      · split at h
        · split at h
          · split at h
            · simp only [Option.some.injEq, Prod.mk.injEq] at h
              obtain ⟨rfl, rfl, rfl⟩ := h
              exact ⟨ok_mk e0 (unz_ok _ hf) (unz_ok _ (front_lt _)), rfl, by simp; omega, by omega⟩
            · cases h
          · cases h
        · split at h
          · split at h
            · simp only [Option.some.injEq, Prod.mk.injEq] at h
              obtain ⟨rfl, rfl, rfl⟩ := h
              refine ⟨ok_mk ?_ ⟨by omega, by omega⟩ ⟨by omega, by omega⟩, rfl, by have := textRest_le t; simp; omega, by omega⟩
              have : (bytesOf (textOf t)).size = (textOf t).length := by unfold bytesOf; simp [ByteArray.size]
              show (bytesOf (textOf t)).size ≤ 1048576
              rw [this]
              unfold textOf
              split
              · simp; omega
              · simp
            · cases h
          · split at h
            · split at h
              · simp only [Option.some.injEq, Prod.mk.injEq] at h
                obtain ⟨rfl, rfl, rfl⟩ := h
                exact ⟨ok_mk e0 ⟨by omega, by omega⟩ ⟨by omega, by omega⟩, rfl, by simp; omega, hf⟩
              · cases h
            · simp only [Option.some.injEq, Prod.mk.injEq] at h
              obtain ⟨rfl, rfl, rfl⟩ := h
              exact ⟨ok_mk e0 ⟨by omega, by omega⟩ ⟨by omega, by omega⟩, rfl, by simp, by omega⟩
theorem itsM_okR {l : List UInt8} {g : Nat → Nat → Option (Vl × Nat × Nat)} (hg : ∀ {p q v p' q'}, p ≤ l.length → g p q = some (v, p', q') → v.ok ∧ p' ≤ l.length ∧ q < q' ∧ q' ≤ 4096) (n : Nat) {p q : Nat} {xs : List Vl} {p' q' : Nat} (hp : p ≤ l.length) (hq : q ≤ 4096) (h : itsM g n p q = some (xs, p', q')) : p' ≤ l.length ∧ q + n ≤ q' ∧ q' ≤ 4096 ∧ xs.length = n :=
  itsM_le (l := l) (fun hp h => (hg hp h).2) n hp hq h
theorem readM_ok (l : List UInt8) (hl : l.length ≤ 1048576) : ∀ (n : Nat) {p q : Nat} {v : Vl} {p' q' : Nat}, p ≤ l.length → readM l n p q = some (v, p', q') → v.ok ∧ p' ≤ l.length ∧ q < q' ∧ q' ≤ 4096
  | 0, _, _, _, _, _, _, h => by simp [readM] at h
  | n + 1, p, q, v, p', q', hp, h => by
    simp only [readM] at h
    split at h
    · cases h
    · rename_i hq
      cases e : headM (l.drop p) with
      | none => rw [e] at h; cases h
      | some t =>
        obtain ⟨u, k, r⟩ := t
        rw [e] at h
        simp only at h
        have hsz : (l.drop p).length = l.length - p := List.length_drop
        have ho := headM_okL e (by omega)
        split at h
        · cases h
        cases e2 : itsM (readM l n) k (p + ((l.drop p).length - r.length)) (q + 1) with
        | none => rw [e2] at h; cases h
        | some t =>
          obtain ⟨ys, p2, q2⟩ := t
          rw [e2] at h
          simp only [Option.some.injEq, Prod.mk.injEq] at h
          obtain ⟨rfl, rfl, rfl⟩ := h
          obtain ⟨k1, k2, k3, k4⟩ := itsM_okR (l := l) (fun hp h => readM_ok l hl n hp h) k (by omega) (by omega) e2
          exact ⟨ho.1, k1, by omega, k3⟩
/-- What read answers. -/
def RdR (w : World) (lb n : Nat) (R : Option (Vl × Nat × Nat)) (e : Ending) (w' : World) : Prop := match R with
  | none => RdNo w lb e w'
  | some (v, p', q') => RdYes w lb n v p' q' e w'
def ReadC (l : List UInt8) (n : Nat) : Prop := ∀ (w : World) (lb B q i : Nat) (sl : Value), LeftI w lb ((4096 : Int) - q) → BytesIn w 0 B sl l → B ≤ lb → i ≤ l.length → l.length ≤ 1048576 → q ≤ 4096 → n ≤ 16 →
  Calls Tryz.prog 19 #[sl, .int .i64 i, .int .i64 ((17 : Int) - n), .pointer (some ⟨lb, 0, none⟩)] w fun e w' => RdR w lb n (readM l n i q) e w'
def itsJ (xs : List Vl) : Option (List Vl × Nat × Nat) → Option (List Vl × Nat × Nat)
  | none => none
  | some (ys, t) => some (xs ++ ys, t)
/-- What is answered behind the items. -/
def RdI (w : World) (lb n : Nat) (k : Int) (R : Option (List Vl × Nat × Nat)) (e : Ending) (w' : World) : Prop := match R with
  | none => RdNo w lb e w'
  | some (xs, p', q') => RdYes w lb n ⟨k, 0, 0, ⟨#[]⟩, xs⟩ p' q' e w'
set_option maxRecDepth 100000 in
theorem slice_midL (w : World) (a : Option Addr) (c : Nat) {lo hi : Nat} {l : List UInt8} (h : BytesIn w lo hi (.slice a l.length c) l) (i j : Nat) (hij : i ≤ j) (hj : j ≤ l.length) :
    ∃ a' c', (∀ w' : World, (Instr.slice 22 (.slice a l.length c) (some (.int .i64 i)) (some (.int .i64 j)) none).run Tryz.prog w' = .ok (.slice a' (j - i) c') w') ∧
      BytesIn w lo hi (.slice a' (j - i) c') ((l.drop i).take (j - i)) := by
  obtain ⟨a', c', e, h1, h2, h3⟩ := id h
  simp only [Value.slice.injEq, true_and] at e
  obtain ⟨rfl, rfl⟩ := e
  have hd := h.drop (n := i) (by omega)
  simp only [sliced] at hd
  rw [← List.length_drop] at hd
  refine ⟨_, _, fun w' => ?_, hd.take (n := j - i) (by rw [List.length_drop]; omega)⟩
  rw [run_slice_lh (P := Tryz.prog) w' 22 a l.length c Tryz.underlying22 .i64 .i64 i j (by omega) (by omega) (by omega)]
  rfl
set_option maxRecDepth 100000 in
set_option maxHeartbeats 4000000 in
theorem read_sym (n : Nat) (w : World) (lb B q i : Nat) (sl : Value) (l : List UInt8) (hL : LeftI w lb ((4096 : Int) - q)) (hB : BytesIn w 0 B sl l) (hb : B ≤ lb) (hi : i < l.length) (hl : l.length ≤ 1048576) (hq : q + 1 ≤ 4096) (hn : n ≤ 15) (k : UInt8) (r : List UInt8) (hs : l.drop i = k :: r) (hk : k.toNat = 4) (hf : (front r).2.2 = 0) (hlong : (front r).1 ≤ r.length - (front r).2.1) :
    Calls Tryz.prog 19 #[sl, .int .i64 i, .int .i64 ((16 : Int) - n), .pointer (some ⟨lb, 0, none⟩)] w fun e w' => RdYes w lb (n + 1) ⟨4, 0, 0, bytesOf (textOf r), []⟩ (i + 1 + (front r).2.1 + (front r).1) (q + 1) e w' := by
  obtain ⟨a, c, rfl, _⟩ := id hB
  have hlb : lb < w.heap.size := (Array.getElem?_eq_some_iff.1 hL).1
  obtain ⟨z, hz⟩ : ∃ z : Int, (4096 : Int) - q = z := ⟨_, rfl⟩
  have hzq : ((4096 : Int) - ((q + 1 : Nat) : Int)) = z - 1 := by omega
  have hz0 : 1 ≤ z ∧ z ≤ 4096 := by omega
  rw [hz] at hL
  obtain ⟨W, hW⟩ : ∃ W, w.alloc (.cells zcells 26) = W := ⟨_, rfl⟩
  have bW : Below w.heap.size w W := by rw [← hW]; exact alloc_v (Below.refl _ _) _
  have zW : W.heap.size = w.heap.size + 1 := by rw [← hW]; simp
  have f1 : LeftI W lb z := (bW.block _ hlb).trans hL
  have x0 := cells_at f1 0 _ rfl
  have v0 := frozen_at f1 0
  have hsub : IntKind.i64.wrap (z - 1) = z - 1 := by rw [IntKind.wrap_i64]; omega
  have hzn : ¬ (z - 1 < 0) := by omega
  have hdn : ¬ ((16 : Int) < (16 : Int) - n) := by omega
  have hdl : (l.drop i).length = l.length - i := List.length_drop
  have hrl : r.length + 1 = l.length - i := by rw [hs] at hdl; simpa using hdl
  have hdc := List.drop_eq_getElem_cons hi
  rw [hs] at hdc
  obtain ⟨hk1, hr1⟩ := List.cons.inj hdc
  have HDR : Hid (l.drop (i + 1) = r) := hide hr1.symm
  have S := hide (rst_start w W lb z hL hW)
  have sz := (rst_start w W lb z hL hW).sz
  have GX : w.grownBy (W.setCell ⟨lb, 0, none⟩ (.int .i64 (z - 1))) (some lb) := grown_more (grown_of_below bW) (grown_set1 _ _ _ _)
  have HBX := hB.grownV GX hb (by omega)
  have hcell : ∃ b off, a = some ⟨b, off, none⟩ ∧ (W.setCell ⟨lb, 0, none⟩ (.int .i64 (z - 1))).cell? ⟨b, off + i, none⟩ = some (.int .u8 (k.toNat : Int)) := by
    rcases HBX.plain.elim with ⟨e, _⟩ | ⟨_, b, off, c', e, h7⟩
    · rw [e] at hi; simp at hi
    · simp only [Value.slice.injEq] at e
      refine ⟨b, off, e.1, ?_⟩
      have h8 := h7 i hi
      rw [← hk1] at h8
      exact h8
  obtain ⟨b, off, rfl, hcell⟩ := hcell
  have p0 : (0 : Int) ≤ (i : Int) := by omega
  have p1 : (i : Int) < (l.length : Int) := by omega
  have HTK := hide (take4_k ((W.setCell ⟨lb, 0, none⟩ (.int .i64 (z - 1))).alloc (.cells #[.int .i64 4, .int .i64 0, .int .i64 0, .string ⟨#[]⟩, .slice none 0 0] 26)) B (some ⟨b, off, none⟩) c l (i + 1) (hB.grownV (grown_more GX (grown_of_below (alloc_v (Below.refl _ _) _))) hb (by omega)) (by omega) (by omega))
  rw [HDR.out, show ((i + 1 : Nat) : Int) = (i : Int) + 1 by omega] at HTK
  rw [show tkI r (i + 1) = ((i + 1 + (front r).2.1 : Nat) : Int) from if_pos hf] at HTK
  have hfl := front_lt r
  have hff := front_fits r
  have hpp : i + 1 + (front r).2.1 + (front r).1 ≤ l.length := by omega
  obtain ⟨tx, htx⟩ : ∃ tx, bytesOf (textOf r) = tx := ⟨_, rfl⟩
  have htx2 : textOf r = (l.drop (i + 1 + (front r).2.1)).take (front r).1 := by
    unfold textOf
    rw [if_pos ⟨hf, hlong⟩, ← HDR.out, List.drop_drop]
  rw [htx]
  have HTX : Hid (bytesOf ((l.drop (i + 1 + (front r).2.1)).take (front r).1) = tx) := hide (by rw [← htx2, htx])
  clear htx htx2 hlong hf
  generalize (front r).1 = fv at *
  generalize hpq : i + 1 + (front r).2.1 = pq at *
  generalize hpq2 : pq + fv = pq2 at *
  have hB1 := hB.grownV (grown_more GX (grown_of_below (alloc_v (Below.refl _ (W.setCell ⟨lb, 0, none⟩ (.int .i64 (z - 1)))) (.cells #[.int .i64 4, .int .i64 0, .int .i64 0, .string ⟨#[]⟩, .slice none 0 0] 26)))) hb (by omega)
  obtain ⟨a1, c1, hs1, hb1⟩ := slice_midL _ (some ⟨b, off, none⟩) c hB1 pq pq2 (by omega) (by omega)
  rw [show pq2 - pq = fv by omega] at hs1 hb1
  have hcv := conv_bytes hb1.plain
  rw [HTX.out] at hcv
  have p4 : IntKind.u64.wrap ((l.length : Int) - (pq : Int)) = (l.length : Int) - (pq : Int) := by rw [IntKind.wrap_u64]; omega
  have p5 : ¬ ((l.length : Int) - (pq : Int) < (fv : Int)) := by omega
  have p6 : IntKind.i64.wrap (fv : Int) = (fv : Int) := by rw [IntKind.wrap_i64]; omega
  have p7 : (pq : Int) + (fv : Int) = (pq2 : Int) := by omega
  clear hb1 hB1
  rw [show (k.toNat : Int) = 4 by omega] at hcell
  clear hk
  have r0 := cells_at S.out.res 0 _ rfl
  have rz0 := frozen_at S.out.res 0
  have r1 := cells_at S.out.res 1 _ rfl
  have rz1 := frozen_at S.out.res 1
  have r2 := cells_at S.out.res 2 _ rfl
  have rz2 := frozen_at S.out.res 2
  have r3 := cells_at S.out.res 3 _ rfl
  have rz3 := frozen_at S.out.res 3
  have r4 := cells_at S.out.res 4 _ rfl
  have rz4 := frozen_at S.out.res 4
  have ZQ := hide hzq
  clear hL hB f1 GX hzq hdl hs hz HBX hdc hk1 hr1 hrl
  go_enter Tryz.func19, Tryz.ntmps19
  go_wp2_with (go_at_call 36; refine HTK.out.mono ?_; clear HTK; rintro e w2 ⟨rfl, rfl⟩)
  have D := RSt.done S.out (.int .i64 4) (.int .i64 0) (.int .i64 0) (.string tx) (.slice none 0 0) #[.int .i64 4, .int .i64 0, .int .i64 0, .string tx, .slice none 0 0]
  refine bodyPost_ret (results_struct_tmp rfl _ _ w.heap.size _ _ _ _ rfl D.1 Tryz.underlying26 rfl infoVal5) rfl ?_
  refine ⟨.slice none 0 0, rfl, itemsIn_nil _ _ _, ?_, D.2.2⟩
  rw [ZQ.out]
  exact D.2.1
set_option maxRecDepth 100000 in
set_option maxHeartbeats 4000000 in
theorem read_items5 (n : Nat) (w : World) (lb B q i : Nat) (sl : Value) (l : List UInt8) (hL : LeftI w lb ((4096 : Int) - q)) (hB : BytesIn w 0 B sl l) (hb : B ≤ lb) (hi : i < l.length) (hl : l.length ≤ 1048576) (hq : q + 1 ≤ 4096) (hn : n ≤ 15) (k : UInt8) (r : List UInt8) (hs : l.drop i = k :: r) (hC : ReadC l n) (hk : k.toNat = 5) (hf : (front r).2.2 = 0) :
    Calls Tryz.prog 19 #[sl, .int .i64 i, .int .i64 ((16 : Int) - n), .pointer (some ⟨lb, 0, none⟩)] w fun e w' => RdI w lb (n + 1) 5 (itsM (readM l n) (front r).1 (i + 1 + (front r).2.1) (q + 1)) e w' := by
  obtain ⟨a, c, rfl, _⟩ := id hB
  have hlb : lb < w.heap.size := (Array.getElem?_eq_some_iff.1 hL).1
  obtain ⟨z, hz⟩ : ∃ z : Int, (4096 : Int) - q = z := ⟨_, rfl⟩
  have hzq : ((4096 : Int) - ((q + 1 : Nat) : Int)) = z - 1 := by omega
  have hz0 : 1 ≤ z ∧ z ≤ 4096 := by omega
  rw [hz] at hL
  obtain ⟨W, hW⟩ : ∃ W, w.alloc (.cells zcells 26) = W := ⟨_, rfl⟩
  have bW : Below w.heap.size w W := by rw [← hW]; exact alloc_v (Below.refl _ _) _
  have zW : W.heap.size = w.heap.size + 1 := by rw [← hW]; simp
  have f1 : LeftI W lb z := (bW.block _ hlb).trans hL
  have x0 := cells_at f1 0 _ rfl
  have v0 := frozen_at f1 0
  have hsub : IntKind.i64.wrap (z - 1) = z - 1 := by rw [IntKind.wrap_i64]; omega
  have hzn : ¬ (z - 1 < 0) := by omega
  have hdn : ¬ ((16 : Int) < (16 : Int) - n) := by omega
  have hdl : (l.drop i).length = l.length - i := List.length_drop
  have hrl : r.length + 1 = l.length - i := by rw [hs] at hdl; simpa using hdl
  have hdc := List.drop_eq_getElem_cons hi
  rw [hs] at hdc
  obtain ⟨hk1, hr1⟩ := List.cons.inj hdc
  have HDR : Hid (l.drop (i + 1) = r) := hide hr1.symm
  have S := hide (rst_start w W lb z hL hW)
  have sz := (rst_start w W lb z hL hW).sz
  have GX : w.grownBy (W.setCell ⟨lb, 0, none⟩ (.int .i64 (z - 1))) (some lb) := grown_more (grown_of_below bW) (grown_set1 _ _ _ _)
  have HBX := hB.grownV GX hb (by omega)
  have hcell : ∃ b off, a = some ⟨b, off, none⟩ ∧ (W.setCell ⟨lb, 0, none⟩ (.int .i64 (z - 1))).cell? ⟨b, off + i, none⟩ = some (.int .u8 (k.toNat : Int)) := by
    rcases HBX.plain.elim with ⟨e, _⟩ | ⟨_, b, off, c', e, h7⟩
    · rw [e] at hi; simp at hi
    · simp only [Value.slice.injEq] at e
      refine ⟨b, off, e.1, ?_⟩
      have h8 := h7 i hi
      rw [← hk1] at h8
      exact h8
  obtain ⟨b, off, rfl, hcell⟩ := hcell
  have p0 : (0 : Int) ≤ (i : Int) := by omega
  have p1 : (i : Int) < (l.length : Int) := by omega
  have HTK := hide (take4_k ((W.setCell ⟨lb, 0, none⟩ (.int .i64 (z - 1))).alloc (.cells #[.int .i64 5, .int .i64 0, .int .i64 0, .string ⟨#[]⟩, .slice none 0 0] 26)) B (some ⟨b, off, none⟩) c l (i + 1) (hB.grownV (grown_more GX (grown_of_below (alloc_v (Below.refl _ _) _))) hb (by omega)) (by omega) (by omega))
  rw [HDR.out, show ((i + 1 : Nat) : Int) = (i : Int) + 1 by omega] at HTK
  rw [show tkI r (i + 1) = ((i + 1 + (front r).2.1 : Nat) : Int) from if_pos hf] at HTK
  have hfl := front_lt r
  have hff := front_fits r
  have hpp : i + 1 + (front r).2.1 ≤ l.length := by omega
  clear hf
  obtain ⟨T, hT⟩ : ∃ T, itsM (readM l n) (front r).1 (i + 1 + (front r).2.1) (q + 1) = T := ⟨_, rfl⟩
  rw [hT]
  have HTT := hide hT
  clear hT
  generalize (front r).1 = K at *
  generalize hpq : i + 1 + (front r).2.1 = pq at *
  have HGX := hide GX
  have HB := hide hB
  have HC := hide hC
  rw [show (k.toNat : Int) = 5 by omega] at hcell
  clear hk
  have r0 := cells_at S.out.res 0 _ rfl
  have rz0 := frozen_at S.out.res 0
  have r1 := cells_at S.out.res 1 _ rfl
  have rz1 := frozen_at S.out.res 1
  have r2 := cells_at S.out.res 2 _ rfl
  have rz2 := frozen_at S.out.res 2
  have r3 := cells_at S.out.res 3 _ rfl
  have rz3 := frozen_at S.out.res 3
  have r4 := cells_at S.out.res 4 _ rfl
  have rz4 := frozen_at S.out.res 4
  have ZQ := hide hzq
  clear hL hB f1 GX hzq hdl hs hz HBX hdc hk1 hr1 hrl
  go_enter Tryz.func19, Tryz.ntmps19
  go_wp2_with (go_at_call 36; refine HTK.out.mono ?_; clear HTK; rintro e w2 ⟨rfl, rfl⟩)
  clear hW x0 v0 hsub hcell sz p0 p1 r0 r1 r2 r3 r4 rz0 rz1 rz2 rz3 rz4
  obtain ⟨V0, hV0⟩ : ∃ V0, (W.setCell ⟨lb, 0, none⟩ (.int .i64 (z - 1))).alloc (.cells #[.int .i64 5, .int .i64 0, .int .i64 0, .string ⟨#[]⟩, .slice none 0 0] 26) = V0 := ⟨_, rfl⟩
  have HV0 : Hid (V0.heap[w.heap.size]? = some (.cells zcells 26 (0, 0)) ∧ V0.heap[w.heap.size + 1]? = some (.cells #[.int .i64 5, .int .i64 0, .int .i64 0, .string ⟨#[]⟩, .slice none 0 0] 26 (0, 0)) ∧ LeftI V0 lb (z - 1) ∧ w.grownBy V0 (some lb) ∧ V0.heap.size = w.heap.size + 2) := by
    rw [← hV0]
    have h1 := S.out
    have h2 := World.alloc_heap_new (W.setCell ⟨lb, 0, none⟩ (.int .i64 (z - 1))) (.cells #[.int .i64 5, .int .i64 0, .int .i64 0, .string ⟨#[]⟩, .slice none 0 0] 26)
    rw [h1.sz] at h2
    have h3 := h1.lt
    exact ⟨(Below.heap_alloc _ _ _ (by rw [h1.sz]; omega)).trans h1.res, h2, (Below.heap_alloc _ _ _ (by rw [h1.sz]; omega)).trans h1.lft, grown_more h1.gr (grown_of_below (alloc_v (Below.refl _ _) _)), by rw [World.size_alloc, h1.sz]⟩
  rw [hV0]
  clear hV0 S zW bW HGX
  go_loopw [1, 11] (fun iv nv wr => ∃ (m : Nat) (xs : List Vl) (pk qk : Nat) (o : Value), iv = .int .i64 (pk : Int) ∧ nv = .int .u64 (m : Int) ∧ m ≤ K ∧ pk ≤ l.length ∧ qk ≤ 4096 ∧ q + 1 + xs.length ≤ qk ∧ Hid (T = itsJ xs (itsM (readM l n) m pk qk)) ∧ wr.heap[w.heap.size + 1]? = some (.cells #[.int .i64 5, .int .i64 0, .int .i64 0, .string ⟨#[]⟩, o] 26 (0, 0)) ∧ OwnAt wr (w.heap.size + 2) n o xs ∧ LeftI wr lb ((4096 : Int) - qk) ∧ wr.heap[w.heap.size]? = some (.cells zcells 26 (0, 0)) ∧ w.grownBy wr (some lb) ∧ w.heap.size + 2 ≤ wr.heap.size)
    (fun _ nv _ => (intOf nv).toNat)
  case atStart =>
    refine ⟨K, [], pq, q + 1, .slice none 0 0, rfl, rfl, Nat.le_refl _, hpp, hq, Nat.le_refl _, hide ?_, HV0.out.2.1, OwnAt.nil _ _ _, ?_, HV0.out.1, HV0.out.2.2.2.1, by rw [HV0.out.2.2.2.2]; omega⟩
    · rw [HTT.out]
      cases T with
      | none => rfl
      | some t => obtain ⟨ys, t⟩ := t; rfl
    · rw [ZQ.out]
      exact HV0.out.2.2.1
  case round =>
    clear HV0 HTT
    obtain ⟨m, xs, pk, qk, o, rfl, rfl, hmK, hpk, hqk, hqq, HT, hvb, hO, hL, hrs, hgr, hsz⟩ := hrel
    cases m with
    | succ j =>
      have hm0 : (0 : Int) < ((j + 1 : Nat) : Int) := by omega
      have hwn : IntKind.u64.wrap (((j + 1 : Nat) : Int) - 1) = (j : Int) := by rw [IntKind.wrap_u64]; omega
      have hdd : (16 : Int) - n + 1 = (17 : Int) - n := by omega
      have hX := HC.out wr lb B qk pk _ hL (HB.out.grownV hgr hb (by omega)) hb hpk hl hqk (by omega)
      obtain ⟨oa, oc, rfl⟩ := hO.len
      have HV := hide (fun (U : World) (g : wr.grownBy U (some lb)) => (g.block (w.heap.size + 1) (by omega) (by simp; omega)).trans hvb)
      have HRS := hide (fun (U : World) (g : wr.grownBy U (some lb)) => (g.block w.heap.size (by omega) (by simp; omega)).trans hrs)
      have HGR := hide hgr
      simp only [itsM] at HT
      cases eg : readM l n pk qk with
      | none =>
        rw [eg] at hX HT
        have HX := hide hX
        have HTN : Hid (T = none) := HT
        clear hX hvb hO hL hrs hgr eg HT
        go_wp2_with (go_at_call 19; refine HX.out.mono ?_; clear HX; rintro e w4 ⟨xk, xi, xm, xt, xa, xn, xc, rfl, g4⟩; obtain ⟨w5, hw5⟩ : ∃ w5, w4.alloc (.cells #[.int .i64 xk, .int .i64 xi, .int .i64 xm, .string xt, .slice xa xn xc] 26) = w5 := ⟨_, rfl⟩; have g5 : wr.grownBy w5 (some lb) := (by rw [← hw5]; exact grown_more g4 (grown_of_below (alloc_v (Below.refl _ _) _))); have f4 := HV.out _ g5; have f5 := HRS.out _ g5; have v0 := cells_at f4 0 _ rfl; have v1 := cells_at f4 1 _ rfl; have v2 := cells_at f4 2 _ rfl; have v3 := cells_at f4 3 _ rfl; have v4 := cells_at f4 4 _ rfl; have r0 := cells_at f5 0 _ rfl; have rz0 := frozen_at f5 0; have r1 := cells_at f5 1 _ rfl; have rz1 := frozen_at f5 1; have r2 := cells_at f5 2 _ rfl; have rz2 := frozen_at f5 2; have r3 := cells_at f5 3 _ rfl; have rz3 := frozen_at f5 3; have r4 := cells_at f5 4 _ rfl; have rz4 := frozen_at f5 4; have F5 := hide f5; have G5 := hide g5; clear f4 f5 g4 g5)
        have D := rd_fin F5.out (grown_more HGR.out G5.out) (.int .i64 5) (.int .i64 0) (.int .i64 0) (.string ⟨#[]⟩) (.slice oa xs.length oc)
        refine bodyPost_ret (results_struct_tmp rfl _ _ w.heap.size _ _ _ _ rfl D.1 Tryz.underlying26 rfl infoVal5) rfl ?_
        rw [HTN.out]
        exact ⟨_, _, _, _, _, _, _, rfl, D.2.1⟩
      | some t =>
        obtain ⟨x, p3, q3⟩ := t
        rw [eg] at hX HT
        have hle := readM_ok l hl n hpk eg
        have HX := hide hX
        have hxl : xs.length + 1 ≤ 1000000000 := by omega
        have HP := hide (fun (U : World) (s : Value) (g : wr.grownBy U (some lb)) (i : ItemsIn U (fun b => wr.heap.size ≤ b ∧ b < U.heap.size) n s x.items) =>
          OwnAt.pushX (ty := 24) (x := x) (hO.far g.size (fun k h1 h2 => g.block k h2 (by simp; omega))) (by have := g.size; omega) (i.kept (fun _ _ _ => rfl) (fun b hb => ⟨by omega, hb.2, fun eq => by have := (hO.lt eq.symm).2; omega⟩)) hle.1 hxl)
        have HNX : Hid (T = itsJ (xs ++ [x]) (itsM (readM l n) j p3 q3)) := by
          have e : T = itsJ xs (match itsM (readM l n) j p3 q3 with | none => none | some (xs', r) => some (x :: xs', r)) := HT
          show T = _
          rw [e]
          generalize itsM (readM l n) j p3 q3 = R
          rcases R with _ | ⟨ys, t⟩
          · rfl
          · simp [itsJ]
        have HLE := hide hle
        have HQ := hide hqq
        have hp3 := hle.2.1
        clear hX hvb hO hL hrs hgr eg HT hle hxl hqq
        go_wp2_with (first
          | (go_at_call 19; refine HX.out.mono ?_; clear HX; rintro e w4 ⟨s4, rfl, i4, d4, g4⟩; obtain ⟨sa4, sc4, rfl, _⟩ := i4.len; obtain ⟨w6, hw6⟩ : ∃ w6, w4.alloc (.cells #[.int .i64 x.kind, .int .i64 x.int, .int .i64 x.im, .string x.text, .slice sa4 x.items.length sc4] 26) = w6 := ⟨_, rfl⟩; have b6 : Below w4.heap.size w4 w6 := (by rw [← hw6]; exact alloc_v (Below.refl _ _) _); have e6 : w6.heap[w4.heap.size]? = some (.cells #[.int .i64 x.kind, .int .i64 x.int, .int .i64 x.im, .string x.text, .slice sa4 x.items.length sc4] 26 (0, 0)) := (by rw [← hw6]; exact World.alloc_heap_new w4 _); have y0 := cells_at e6 0 _ rfl; have y1 := cells_at e6 1 _ rfl; have y2 := cells_at e6 2 _ rfl; have y3 := cells_at e6 3 _ rfl; have y4 := cells_at e6 4 _ rfl; have ga := grown_more g4 (grown_of_below (r := some lb) b6); have i5 := i4.kept (w' := w6) (S' := fun b => wr.heap.size ≤ b ∧ b < w6.heap.size) (fun b o hb => (bcellV b6).1 b o hb.2) (fun b hb => ⟨hb.1, by have := b6.size; omega⟩); obtain ⟨v5, w5, hrun, o5, b5⟩ := HP.out _ _ ga i5; obtain ⟨va, vc, rfl⟩ := o5.len; have k4 : w6.cell? ⟨w.heap.size + 1, 4, none⟩ = some (.slice oa xs.length oc) := cells_at (HV.out w6 ga) 4 _ rfl; have k4a := fun ob : Obj => (World.cell?_alloc_some w6 ⟨w.heap.size + 1, 4, none⟩ ob (by rw [k4]; rfl)).trans k4; have F4 := hide (HV.out _ ga); have R4 := hide (HRS.out _ ga); have lb4 : lb < w4.heap.size := (Array.getElem?_eq_some_iff.1 d4).1; have D4 := hide ((b6.block lb lb4).trans d4); have RN := hide hrun; have O5 := hide o5; have B5 := hide b5; have GA := hide ga; have f5 := (b5.block (w.heap.size + 1) (by omega)).trans F4.out; have z5 := frozen_at f5 4; have k5 := cells_at f5 4 _ rfl; have F5 := hide f5; clear hrun o5 b5 d4 g4 ga i4 i5 HP f5 b6 e6)
          | (at_builtin; refine Lib.wpList_append_run _ rfl (.tmp 145) (.tmp 147) 24 24 rfl _ _ rfl rfl _ _ RN.out ?_))
        go_roundw
        case rel =>
          have hL5 := B5.out.size
          have hL6 := GA.out.size
          have h1 : w.heap.size + 2 ≤ w6.heap.size := by omega
          have g5 := grown_L (grown_more HGR.out GA.out) B5.out (by omega) h1
          have hqq := HQ.out
          have hle := HLE.out
          refine ⟨j, xs ++ [x], p3, q3, .slice va (xs ++ [x]).length vc, by go_num, by go_num, by omega, hp3, hle.2.2.2, by rw [List.length_append, List.length_singleton]; have := hle.2.2.1; omega, HNX, ?_, ?_, ?_, ?_, grown_far g5 (by omega), ?_⟩
          · rw [List.length_append]
            exact heap_setCell_same _ _ 4 _ _ _ F5.out
          · exact O5.out.far (by simp [World.setCell]) (fun k h1 _ => Below.heap_setCell _ _ _ _ (by show k ≠ w.heap.size + 1; omega))
          · exact (Below.heap_setCell _ _ _ _ (by show lb ≠ w.heap.size + 1; omega)).trans ((B5.out.block lb (by omega)).trans D4.out)
          · exact (Below.heap_setCell _ _ _ _ (by show w.heap.size ≠ w.heap.size + 1; omega)).trans ((B5.out.block w.heap.size (by omega)).trans R4.out)
          · simp only [World.setCell]
            simpa using (show w.heap.size + 2 ≤ w5.heap.size by omega)
        case measure => simp [intOf]
    | zero =>
      have HTN : Hid (T = some (xs, pk, qk)) := by
        have e := HT.out
        simp [itsM, itsJ] at e
        exact e
      have hit := hO.items (by unfold maxLen; omega)
      obtain ⟨oa, oc, rfl⟩ := hO.len
      have v0 := cells_at hvb 0 _ rfl
      have v1 := cells_at hvb 1 _ rfl
      have v2 := cells_at hvb 2 _ rfl
      have v3 := cells_at hvb 3 _ rfl
      have v4 := cells_at hvb 4 _ rfl
      have r0 := cells_at hrs 0 _ rfl
      have rz0 := frozen_at hrs 0
      have r1 := cells_at hrs 1 _ rfl
      have rz1 := frozen_at hrs 1
      have r2 := cells_at hrs 2 _ rfl
      have rz2 := frozen_at hrs 2
      have r3 := cells_at hrs 3 _ rfl
      have rz3 := frozen_at hrs 3
      have r4 := cells_at hrs 4 _ rfl
      have rz4 := frozen_at hrs 4
      have F := hide (And.intro hvb (And.intro hL (And.intro hrs (And.intro hgr hit))))
      clear hvb hL hrs hgr hit hO HT
      go_wp2
      have D := rd_fin F.out.2.2.1 F.out.2.2.2.1 (.int .i64 5) (.int .i64 0) (.int .i64 0) (.string ⟨#[]⟩) (.slice oa xs.length oc)
      refine bodyPost_ret (results_struct_tmp rfl _ _ w.heap.size _ _ _ _ rfl D.1 Tryz.underlying26 rfl infoVal5) rfl ?_
      rw [HTN.out]
      refine ⟨.slice oa xs.length oc, rfl, F.out.2.2.2.2.kept (fun b o hb => World.cell?_of_block (D.2.2.1 b (by omega))) (fun b hb => ⟨by omega, by rw [D.2.2.2]; exact hb.2⟩), (D.2.2.1 lb (by omega)).trans F.out.2.1, D.2.1⟩
set_option maxRecDepth 100000 in
set_option maxHeartbeats 4000000 in
theorem read_items6 (n : Nat) (w : World) (lb B q i : Nat) (sl : Value) (l : List UInt8) (hL : LeftI w lb ((4096 : Int) - q)) (hB : BytesIn w 0 B sl l) (hb : B ≤ lb) (hi : i < l.length) (hl : l.length ≤ 1048576) (hq : q + 1 ≤ 4096) (hn : n ≤ 15) (k : UInt8) (r : List UInt8) (hs : l.drop i = k :: r) (hC : ReadC l n) (hk : k.toNat = 6) (hf : (front r).2.2 = 0) :
    Calls Tryz.prog 19 #[sl, .int .i64 i, .int .i64 ((16 : Int) - n), .pointer (some ⟨lb, 0, none⟩)] w fun e w' => RdI w lb (n + 1) 6 (itsM (readM l n) (front r).1 (i + 1 + (front r).2.1) (q + 1)) e w' := by
  obtain ⟨a, c, rfl, _⟩ := id hB
  have hlb : lb < w.heap.size := (Array.getElem?_eq_some_iff.1 hL).1
  obtain ⟨z, hz⟩ : ∃ z : Int, (4096 : Int) - q = z := ⟨_, rfl⟩
  have hzq : ((4096 : Int) - ((q + 1 : Nat) : Int)) = z - 1 := by omega
  have hz0 : 1 ≤ z ∧ z ≤ 4096 := by omega
  rw [hz] at hL
  obtain ⟨W, hW⟩ : ∃ W, w.alloc (.cells zcells 26) = W := ⟨_, rfl⟩
  have bW : Below w.heap.size w W := by rw [← hW]; exact alloc_v (Below.refl _ _) _
  have zW : W.heap.size = w.heap.size + 1 := by rw [← hW]; simp
  have f1 : LeftI W lb z := (bW.block _ hlb).trans hL
  have x0 := cells_at f1 0 _ rfl
  have v0 := frozen_at f1 0
  have hsub : IntKind.i64.wrap (z - 1) = z - 1 := by rw [IntKind.wrap_i64]; omega
  have hzn : ¬ (z - 1 < 0) := by omega
  have hdn : ¬ ((16 : Int) < (16 : Int) - n) := by omega
  have hdl : (l.drop i).length = l.length - i := List.length_drop
  have hrl : r.length + 1 = l.length - i := by rw [hs] at hdl; simpa using hdl
  have hdc := List.drop_eq_getElem_cons hi
  rw [hs] at hdc
  obtain ⟨hk1, hr1⟩ := List.cons.inj hdc
  have HDR : Hid (l.drop (i + 1) = r) := hide hr1.symm
  have S := hide (rst_start w W lb z hL hW)
  have sz := (rst_start w W lb z hL hW).sz
  have GX : w.grownBy (W.setCell ⟨lb, 0, none⟩ (.int .i64 (z - 1))) (some lb) := grown_more (grown_of_below bW) (grown_set1 _ _ _ _)
  have HBX := hB.grownV GX hb (by omega)
  have hcell : ∃ b off, a = some ⟨b, off, none⟩ ∧ (W.setCell ⟨lb, 0, none⟩ (.int .i64 (z - 1))).cell? ⟨b, off + i, none⟩ = some (.int .u8 (k.toNat : Int)) := by
    rcases HBX.plain.elim with ⟨e, _⟩ | ⟨_, b, off, c', e, h7⟩
    · rw [e] at hi; simp at hi
    · simp only [Value.slice.injEq] at e
      refine ⟨b, off, e.1, ?_⟩
      have h8 := h7 i hi
      rw [← hk1] at h8
      exact h8
  obtain ⟨b, off, rfl, hcell⟩ := hcell
  have p0 : (0 : Int) ≤ (i : Int) := by omega
  have p1 : (i : Int) < (l.length : Int) := by omega
  have HTK := hide (take4_k ((W.setCell ⟨lb, 0, none⟩ (.int .i64 (z - 1))).alloc (.cells #[.int .i64 6, .int .i64 0, .int .i64 0, .string ⟨#[]⟩, .slice none 0 0] 26)) B (some ⟨b, off, none⟩) c l (i + 1) (hB.grownV (grown_more GX (grown_of_below (alloc_v (Below.refl _ _) _))) hb (by omega)) (by omega) (by omega))
  rw [HDR.out, show ((i + 1 : Nat) : Int) = (i : Int) + 1 by omega] at HTK
  rw [show tkI r (i + 1) = ((i + 1 + (front r).2.1 : Nat) : Int) from if_pos hf] at HTK
  have hfl := front_lt r
  have hff := front_fits r
  have hpp : i + 1 + (front r).2.1 ≤ l.length := by omega
  clear hf
  obtain ⟨T, hT⟩ : ∃ T, itsM (readM l n) (front r).1 (i + 1 + (front r).2.1) (q + 1) = T := ⟨_, rfl⟩
  rw [hT]
  have HTT := hide hT
  clear hT
  generalize (front r).1 = K at *
  generalize hpq : i + 1 + (front r).2.1 = pq at *
  have HGX := hide GX
  have HB := hide hB
  have HC := hide hC
  rw [show (k.toNat : Int) = 6 by omega] at hcell
  clear hk
  have r0 := cells_at S.out.res 0 _ rfl
  have rz0 := frozen_at S.out.res 0
  have r1 := cells_at S.out.res 1 _ rfl
  have rz1 := frozen_at S.out.res 1
  have r2 := cells_at S.out.res 2 _ rfl
  have rz2 := frozen_at S.out.res 2
  have r3 := cells_at S.out.res 3 _ rfl
  have rz3 := frozen_at S.out.res 3
  have r4 := cells_at S.out.res 4 _ rfl
  have rz4 := frozen_at S.out.res 4
  have ZQ := hide hzq
  clear hL hB f1 GX hzq hdl hs hz HBX hdc hk1 hr1 hrl
  go_enter Tryz.func19, Tryz.ntmps19
  go_wp2_with (go_at_call 36; refine HTK.out.mono ?_; clear HTK; rintro e w2 ⟨rfl, rfl⟩)
  clear hW x0 v0 hsub hcell sz p0 p1 r0 r1 r2 r3 r4 rz0 rz1 rz2 rz3 rz4
  obtain ⟨V0, hV0⟩ : ∃ V0, (W.setCell ⟨lb, 0, none⟩ (.int .i64 (z - 1))).alloc (.cells #[.int .i64 6, .int .i64 0, .int .i64 0, .string ⟨#[]⟩, .slice none 0 0] 26) = V0 := ⟨_, rfl⟩
  have HV0 : Hid (V0.heap[w.heap.size]? = some (.cells zcells 26 (0, 0)) ∧ V0.heap[w.heap.size + 1]? = some (.cells #[.int .i64 6, .int .i64 0, .int .i64 0, .string ⟨#[]⟩, .slice none 0 0] 26 (0, 0)) ∧ LeftI V0 lb (z - 1) ∧ w.grownBy V0 (some lb) ∧ V0.heap.size = w.heap.size + 2) := by
    rw [← hV0]
    have h1 := S.out
    have h2 := World.alloc_heap_new (W.setCell ⟨lb, 0, none⟩ (.int .i64 (z - 1))) (.cells #[.int .i64 6, .int .i64 0, .int .i64 0, .string ⟨#[]⟩, .slice none 0 0] 26)
    rw [h1.sz] at h2
    have h3 := h1.lt
    exact ⟨(Below.heap_alloc _ _ _ (by rw [h1.sz]; omega)).trans h1.res, h2, (Below.heap_alloc _ _ _ (by rw [h1.sz]; omega)).trans h1.lft, grown_more h1.gr (grown_of_below (alloc_v (Below.refl _ _) _)), by rw [World.size_alloc, h1.sz]⟩
  rw [hV0]
  clear hV0 S zW bW HGX
  go_loopw [1, 11] (fun iv nv wr => ∃ (m : Nat) (xs : List Vl) (pk qk : Nat) (o : Value), iv = .int .i64 (pk : Int) ∧ nv = .int .u64 (m : Int) ∧ m ≤ K ∧ pk ≤ l.length ∧ qk ≤ 4096 ∧ q + 1 + xs.length ≤ qk ∧ Hid (T = itsJ xs (itsM (readM l n) m pk qk)) ∧ wr.heap[w.heap.size + 1]? = some (.cells #[.int .i64 6, .int .i64 0, .int .i64 0, .string ⟨#[]⟩, o] 26 (0, 0)) ∧ OwnAt wr (w.heap.size + 2) n o xs ∧ LeftI wr lb ((4096 : Int) - qk) ∧ wr.heap[w.heap.size]? = some (.cells zcells 26 (0, 0)) ∧ w.grownBy wr (some lb) ∧ w.heap.size + 2 ≤ wr.heap.size)
    (fun _ nv _ => (intOf nv).toNat)
  case atStart =>
    refine ⟨K, [], pq, q + 1, .slice none 0 0, rfl, rfl, Nat.le_refl _, hpp, hq, Nat.le_refl _, hide ?_, HV0.out.2.1, OwnAt.nil _ _ _, ?_, HV0.out.1, HV0.out.2.2.2.1, by rw [HV0.out.2.2.2.2]; omega⟩
    · rw [HTT.out]
      cases T with
      | none => rfl
      | some t => obtain ⟨ys, t⟩ := t; rfl
    · rw [ZQ.out]
      exact HV0.out.2.2.1
  case round =>
    clear HV0 HTT
    obtain ⟨m, xs, pk, qk, o, rfl, rfl, hmK, hpk, hqk, hqq, HT, hvb, hO, hL, hrs, hgr, hsz⟩ := hrel
    cases m with
    | succ j =>
      have hm0 : (0 : Int) < ((j + 1 : Nat) : Int) := by omega
      have hwn : IntKind.u64.wrap (((j + 1 : Nat) : Int) - 1) = (j : Int) := by rw [IntKind.wrap_u64]; omega
      have hdd : (16 : Int) - n + 1 = (17 : Int) - n := by omega
      have hX := HC.out wr lb B qk pk _ hL (HB.out.grownV hgr hb (by omega)) hb hpk hl hqk (by omega)
      obtain ⟨oa, oc, rfl⟩ := hO.len
      have HV := hide (fun (U : World) (g : wr.grownBy U (some lb)) => (g.block (w.heap.size + 1) (by omega) (by simp; omega)).trans hvb)
      have HRS := hide (fun (U : World) (g : wr.grownBy U (some lb)) => (g.block w.heap.size (by omega) (by simp; omega)).trans hrs)
      have HGR := hide hgr
      simp only [itsM] at HT
      cases eg : readM l n pk qk with
      | none =>
        rw [eg] at hX HT
        have HX := hide hX
        have HTN : Hid (T = none) := HT
        clear hX hvb hO hL hrs hgr eg HT
        go_wp2_with (go_at_call 19; refine HX.out.mono ?_; clear HX; rintro e w4 ⟨xk, xi, xm, xt, xa, xn, xc, rfl, g4⟩; obtain ⟨w5, hw5⟩ : ∃ w5, w4.alloc (.cells #[.int .i64 xk, .int .i64 xi, .int .i64 xm, .string xt, .slice xa xn xc] 26) = w5 := ⟨_, rfl⟩; have g5 : wr.grownBy w5 (some lb) := (by rw [← hw5]; exact grown_more g4 (grown_of_below (alloc_v (Below.refl _ _) _))); have f4 := HV.out _ g5; have f5 := HRS.out _ g5; have v0 := cells_at f4 0 _ rfl; have v1 := cells_at f4 1 _ rfl; have v2 := cells_at f4 2 _ rfl; have v3 := cells_at f4 3 _ rfl; have v4 := cells_at f4 4 _ rfl; have r0 := cells_at f5 0 _ rfl; have rz0 := frozen_at f5 0; have r1 := cells_at f5 1 _ rfl; have rz1 := frozen_at f5 1; have r2 := cells_at f5 2 _ rfl; have rz2 := frozen_at f5 2; have r3 := cells_at f5 3 _ rfl; have rz3 := frozen_at f5 3; have r4 := cells_at f5 4 _ rfl; have rz4 := frozen_at f5 4; have F5 := hide f5; have G5 := hide g5; clear f4 f5 g4 g5)
        have D := rd_fin F5.out (grown_more HGR.out G5.out) (.int .i64 6) (.int .i64 0) (.int .i64 0) (.string ⟨#[]⟩) (.slice oa xs.length oc)
        refine bodyPost_ret (results_struct_tmp rfl _ _ w.heap.size _ _ _ _ rfl D.1 Tryz.underlying26 rfl infoVal5) rfl ?_
        rw [HTN.out]
        exact ⟨_, _, _, _, _, _, _, rfl, D.2.1⟩
      | some t =>
        obtain ⟨x, p3, q3⟩ := t
        rw [eg] at hX HT
        have hle := readM_ok l hl n hpk eg
        have HX := hide hX
        have hxl : xs.length + 1 ≤ 1000000000 := by omega
        have HP := hide (fun (U : World) (s : Value) (g : wr.grownBy U (some lb)) (i : ItemsIn U (fun b => wr.heap.size ≤ b ∧ b < U.heap.size) n s x.items) =>
          OwnAt.pushX (ty := 24) (x := x) (hO.far g.size (fun k h1 h2 => g.block k h2 (by simp; omega))) (by have := g.size; omega) (i.kept (fun _ _ _ => rfl) (fun b hb => ⟨by omega, hb.2, fun eq => by have := (hO.lt eq.symm).2; omega⟩)) hle.1 hxl)
        have HNX : Hid (T = itsJ (xs ++ [x]) (itsM (readM l n) j p3 q3)) := by
          have e : T = itsJ xs (match itsM (readM l n) j p3 q3 with | none => none | some (xs', r) => some (x :: xs', r)) := HT
          show T = _
          rw [e]
          generalize itsM (readM l n) j p3 q3 = R
          rcases R with _ | ⟨ys, t⟩
          · rfl
          · simp [itsJ]
        have HLE := hide hle
        have HQ := hide hqq
        have hp3 := hle.2.1
        clear hX hvb hO hL hrs hgr eg HT hle hxl hqq
        go_wp2_with (first
          | (go_at_call 19; refine HX.out.mono ?_; clear HX; rintro e w4 ⟨s4, rfl, i4, d4, g4⟩; obtain ⟨sa4, sc4, rfl, _⟩ := i4.len; obtain ⟨w6, hw6⟩ : ∃ w6, w4.alloc (.cells #[.int .i64 x.kind, .int .i64 x.int, .int .i64 x.im, .string x.text, .slice sa4 x.items.length sc4] 26) = w6 := ⟨_, rfl⟩; have b6 : Below w4.heap.size w4 w6 := (by rw [← hw6]; exact alloc_v (Below.refl _ _) _); have e6 : w6.heap[w4.heap.size]? = some (.cells #[.int .i64 x.kind, .int .i64 x.int, .int .i64 x.im, .string x.text, .slice sa4 x.items.length sc4] 26 (0, 0)) := (by rw [← hw6]; exact World.alloc_heap_new w4 _); have y0 := cells_at e6 0 _ rfl; have y1 := cells_at e6 1 _ rfl; have y2 := cells_at e6 2 _ rfl; have y3 := cells_at e6 3 _ rfl; have y4 := cells_at e6 4 _ rfl; have ga := grown_more g4 (grown_of_below (r := some lb) b6); have i5 := i4.kept (w' := w6) (S' := fun b => wr.heap.size ≤ b ∧ b < w6.heap.size) (fun b o hb => (bcellV b6).1 b o hb.2) (fun b hb => ⟨hb.1, by have := b6.size; omega⟩); obtain ⟨v5, w5, hrun, o5, b5⟩ := HP.out _ _ ga i5; obtain ⟨va, vc, rfl⟩ := o5.len; have k4 : w6.cell? ⟨w.heap.size + 1, 4, none⟩ = some (.slice oa xs.length oc) := cells_at (HV.out w6 ga) 4 _ rfl; have k4a := fun ob : Obj => (World.cell?_alloc_some w6 ⟨w.heap.size + 1, 4, none⟩ ob (by rw [k4]; rfl)).trans k4; have F4 := hide (HV.out _ ga); have R4 := hide (HRS.out _ ga); have lb4 : lb < w4.heap.size := (Array.getElem?_eq_some_iff.1 d4).1; have D4 := hide ((b6.block lb lb4).trans d4); have RN := hide hrun; have O5 := hide o5; have B5 := hide b5; have GA := hide ga; have f5 := (b5.block (w.heap.size + 1) (by omega)).trans F4.out; have z5 := frozen_at f5 4; have k5 := cells_at f5 4 _ rfl; have F5 := hide f5; clear hrun o5 b5 d4 g4 ga i4 i5 HP f5 b6 e6)
          | (at_builtin; refine Lib.wpList_append_run _ rfl (.tmp 145) (.tmp 147) 24 24 rfl _ _ rfl rfl _ _ RN.out ?_))
        go_roundw
        case rel =>
          have hL5 := B5.out.size
          have hL6 := GA.out.size
          have h1 : w.heap.size + 2 ≤ w6.heap.size := by omega
          have g5 := grown_L (grown_more HGR.out GA.out) B5.out (by omega) h1
          have hqq := HQ.out
          have hle := HLE.out
          refine ⟨j, xs ++ [x], p3, q3, .slice va (xs ++ [x]).length vc, by go_num, by go_num, by omega, hp3, hle.2.2.2, by rw [List.length_append, List.length_singleton]; have := hle.2.2.1; omega, HNX, ?_, ?_, ?_, ?_, grown_far g5 (by omega), ?_⟩
          · rw [List.length_append]
            exact heap_setCell_same _ _ 4 _ _ _ F5.out
          · exact O5.out.far (by simp [World.setCell]) (fun k h1 _ => Below.heap_setCell _ _ _ _ (by show k ≠ w.heap.size + 1; omega))
          · exact (Below.heap_setCell _ _ _ _ (by show lb ≠ w.heap.size + 1; omega)).trans ((B5.out.block lb (by omega)).trans D4.out)
          · exact (Below.heap_setCell _ _ _ _ (by show w.heap.size ≠ w.heap.size + 1; omega)).trans ((B5.out.block w.heap.size (by omega)).trans R4.out)
          · simp only [World.setCell]
            simpa using (show w.heap.size + 2 ≤ w5.heap.size by omega)
        case measure => simp [intOf]
    | zero =>
      have HTN : Hid (T = some (xs, pk, qk)) := by
        have e := HT.out
        simp [itsM, itsJ] at e
        exact e
      have hit := hO.items (by unfold maxLen; omega)
      obtain ⟨oa, oc, rfl⟩ := hO.len
      have v0 := cells_at hvb 0 _ rfl
      have v1 := cells_at hvb 1 _ rfl
      have v2 := cells_at hvb 2 _ rfl
      have v3 := cells_at hvb 3 _ rfl
      have v4 := cells_at hvb 4 _ rfl
      have r0 := cells_at hrs 0 _ rfl
      have rz0 := frozen_at hrs 0
      have r1 := cells_at hrs 1 _ rfl
      have rz1 := frozen_at hrs 1
      have r2 := cells_at hrs 2 _ rfl
      have rz2 := frozen_at hrs 2
      have r3 := cells_at hrs 3 _ rfl
      have rz3 := frozen_at hrs 3
      have r4 := cells_at hrs 4 _ rfl
      have rz4 := frozen_at hrs 4
      have F := hide (And.intro hvb (And.intro hL (And.intro hrs (And.intro hgr hit))))
      clear hvb hL hrs hgr hit hO HT
      go_wp2
      have D := rd_fin F.out.2.2.1 F.out.2.2.2.1 (.int .i64 6) (.int .i64 0) (.int .i64 0) (.string ⟨#[]⟩) (.slice oa xs.length oc)
      refine bodyPost_ret (results_struct_tmp rfl _ _ w.heap.size _ _ _ _ rfl D.1 Tryz.underlying26 rfl infoVal5) rfl ?_
      rw [HTN.out]
      refine ⟨.slice oa xs.length oc, rfl, F.out.2.2.2.2.kept (fun b o hb => World.cell?_of_block (D.2.2.1 b (by omega))) (fun b hb => ⟨by omega, by rw [D.2.2.2]; exact hb.2⟩), (D.2.2.1 lb (by omega)).trans F.out.2.1, D.2.1⟩
set_option maxRecDepth 100000 in
set_option maxHeartbeats 4000000 in
theorem read_items7 (n : Nat) (w : World) (lb B q i : Nat) (sl : Value) (l : List UInt8) (hL : LeftI w lb ((4096 : Int) - q)) (hB : BytesIn w 0 B sl l) (hb : B ≤ lb) (hi : i < l.length) (hl : l.length ≤ 1048576) (hq : q + 1 ≤ 4096) (hn : n ≤ 15) (k : UInt8) (r : List UInt8) (hs : l.drop i = k :: r) (hC : ReadC l n) (hk : k.toNat = 7) (hf : (front r).2.2 = 0) :
    Calls Tryz.prog 19 #[sl, .int .i64 i, .int .i64 ((16 : Int) - n), .pointer (some ⟨lb, 0, none⟩)] w fun e w' => RdI w lb (n + 1) 7 (itsM (readM l n) (front r).1 (i + 1 + (front r).2.1) (q + 1)) e w' := by
  obtain ⟨a, c, rfl, _⟩ := id hB
  have hlb : lb < w.heap.size := (Array.getElem?_eq_some_iff.1 hL).1
  obtain ⟨z, hz⟩ : ∃ z : Int, (4096 : Int) - q = z := ⟨_, rfl⟩
  have hzq : ((4096 : Int) - ((q + 1 : Nat) : Int)) = z - 1 := by omega
  have hz0 : 1 ≤ z ∧ z ≤ 4096 := by omega
  rw [hz] at hL
  obtain ⟨W, hW⟩ : ∃ W, w.alloc (.cells zcells 26) = W := ⟨_, rfl⟩
  have bW : Below w.heap.size w W := by rw [← hW]; exact alloc_v (Below.refl _ _) _
  have zW : W.heap.size = w.heap.size + 1 := by rw [← hW]; simp
  have f1 : LeftI W lb z := (bW.block _ hlb).trans hL
  have x0 := cells_at f1 0 _ rfl
  have v0 := frozen_at f1 0
  have hsub : IntKind.i64.wrap (z - 1) = z - 1 := by rw [IntKind.wrap_i64]; omega
  have hzn : ¬ (z - 1 < 0) := by omega
  have hdn : ¬ ((16 : Int) < (16 : Int) - n) := by omega
  have hdl : (l.drop i).length = l.length - i := List.length_drop
  have hrl : r.length + 1 = l.length - i := by rw [hs] at hdl; simpa using hdl
  have hdc := List.drop_eq_getElem_cons hi
  rw [hs] at hdc
  obtain ⟨hk1, hr1⟩ := List.cons.inj hdc
  have HDR : Hid (l.drop (i + 1) = r) := hide hr1.symm
  have S := hide (rst_start w W lb z hL hW)
  have sz := (rst_start w W lb z hL hW).sz
  have GX : w.grownBy (W.setCell ⟨lb, 0, none⟩ (.int .i64 (z - 1))) (some lb) := grown_more (grown_of_below bW) (grown_set1 _ _ _ _)
  have HBX := hB.grownV GX hb (by omega)
  have hcell : ∃ b off, a = some ⟨b, off, none⟩ ∧ (W.setCell ⟨lb, 0, none⟩ (.int .i64 (z - 1))).cell? ⟨b, off + i, none⟩ = some (.int .u8 (k.toNat : Int)) := by
    rcases HBX.plain.elim with ⟨e, _⟩ | ⟨_, b, off, c', e, h7⟩
    · rw [e] at hi; simp at hi
    · simp only [Value.slice.injEq] at e
      refine ⟨b, off, e.1, ?_⟩
      have h8 := h7 i hi
      rw [← hk1] at h8
      exact h8
  obtain ⟨b, off, rfl, hcell⟩ := hcell
  have p0 : (0 : Int) ≤ (i : Int) := by omega
  have p1 : (i : Int) < (l.length : Int) := by omega
  have HTK := hide (take4_k ((W.setCell ⟨lb, 0, none⟩ (.int .i64 (z - 1))).alloc (.cells #[.int .i64 7, .int .i64 0, .int .i64 0, .string ⟨#[]⟩, .slice none 0 0] 26)) B (some ⟨b, off, none⟩) c l (i + 1) (hB.grownV (grown_more GX (grown_of_below (alloc_v (Below.refl _ _) _))) hb (by omega)) (by omega) (by omega))
  rw [HDR.out, show ((i + 1 : Nat) : Int) = (i : Int) + 1 by omega] at HTK
  rw [show tkI r (i + 1) = ((i + 1 + (front r).2.1 : Nat) : Int) from if_pos hf] at HTK
  have hfl := front_lt r
  have hff := front_fits r
  have hpp : i + 1 + (front r).2.1 ≤ l.length := by omega
  clear hf
  obtain ⟨T, hT⟩ : ∃ T, itsM (readM l n) (front r).1 (i + 1 + (front r).2.1) (q + 1) = T := ⟨_, rfl⟩
  rw [hT]
  have HTT := hide hT
  clear hT
  generalize (front r).1 = K at *
  generalize hpq : i + 1 + (front r).2.1 = pq at *
  have HGX := hide GX
  have HB := hide hB
  have HC := hide hC
  rw [show (k.toNat : Int) = 7 by omega] at hcell
  clear hk
  have r0 := cells_at S.out.res 0 _ rfl
  have rz0 := frozen_at S.out.res 0
  have r1 := cells_at S.out.res 1 _ rfl
  have rz1 := frozen_at S.out.res 1
  have r2 := cells_at S.out.res 2 _ rfl
  have rz2 := frozen_at S.out.res 2
  have r3 := cells_at S.out.res 3 _ rfl
  have rz3 := frozen_at S.out.res 3
  have r4 := cells_at S.out.res 4 _ rfl
  have rz4 := frozen_at S.out.res 4
  have ZQ := hide hzq
  clear hL hB f1 GX hzq hdl hs hz HBX hdc hk1 hr1 hrl
  go_enter Tryz.func19, Tryz.ntmps19
  go_wp2_with (go_at_call 36; refine HTK.out.mono ?_; clear HTK; rintro e w2 ⟨rfl, rfl⟩)
  clear hW x0 v0 hsub hcell sz p0 p1 r0 r1 r2 r3 r4 rz0 rz1 rz2 rz3 rz4
  obtain ⟨V0, hV0⟩ : ∃ V0, (W.setCell ⟨lb, 0, none⟩ (.int .i64 (z - 1))).alloc (.cells #[.int .i64 7, .int .i64 0, .int .i64 0, .string ⟨#[]⟩, .slice none 0 0] 26) = V0 := ⟨_, rfl⟩
  have HV0 : Hid (V0.heap[w.heap.size]? = some (.cells zcells 26 (0, 0)) ∧ V0.heap[w.heap.size + 1]? = some (.cells #[.int .i64 7, .int .i64 0, .int .i64 0, .string ⟨#[]⟩, .slice none 0 0] 26 (0, 0)) ∧ LeftI V0 lb (z - 1) ∧ w.grownBy V0 (some lb) ∧ V0.heap.size = w.heap.size + 2) := by
    rw [← hV0]
    have h1 := S.out
    have h2 := World.alloc_heap_new (W.setCell ⟨lb, 0, none⟩ (.int .i64 (z - 1))) (.cells #[.int .i64 7, .int .i64 0, .int .i64 0, .string ⟨#[]⟩, .slice none 0 0] 26)
    rw [h1.sz] at h2
    have h3 := h1.lt
    exact ⟨(Below.heap_alloc _ _ _ (by rw [h1.sz]; omega)).trans h1.res, h2, (Below.heap_alloc _ _ _ (by rw [h1.sz]; omega)).trans h1.lft, grown_more h1.gr (grown_of_below (alloc_v (Below.refl _ _) _)), by rw [World.size_alloc, h1.sz]⟩
  rw [hV0]
  clear hV0 S zW bW HGX
  go_loopw [1, 11] (fun iv nv wr => ∃ (m : Nat) (xs : List Vl) (pk qk : Nat) (o : Value), iv = .int .i64 (pk : Int) ∧ nv = .int .u64 (m : Int) ∧ m ≤ K ∧ pk ≤ l.length ∧ qk ≤ 4096 ∧ q + 1 + xs.length ≤ qk ∧ Hid (T = itsJ xs (itsM (readM l n) m pk qk)) ∧ wr.heap[w.heap.size + 1]? = some (.cells #[.int .i64 7, .int .i64 0, .int .i64 0, .string ⟨#[]⟩, o] 26 (0, 0)) ∧ OwnAt wr (w.heap.size + 2) n o xs ∧ LeftI wr lb ((4096 : Int) - qk) ∧ wr.heap[w.heap.size]? = some (.cells zcells 26 (0, 0)) ∧ w.grownBy wr (some lb) ∧ w.heap.size + 2 ≤ wr.heap.size)
    (fun _ nv _ => (intOf nv).toNat)
  case atStart =>
    refine ⟨K, [], pq, q + 1, .slice none 0 0, rfl, rfl, Nat.le_refl _, hpp, hq, Nat.le_refl _, hide ?_, HV0.out.2.1, OwnAt.nil _ _ _, ?_, HV0.out.1, HV0.out.2.2.2.1, by rw [HV0.out.2.2.2.2]; omega⟩
    · rw [HTT.out]
      cases T with
      | none => rfl
      | some t => obtain ⟨ys, t⟩ := t; rfl
    · rw [ZQ.out]
      exact HV0.out.2.2.1
  case round =>
    clear HV0 HTT
    obtain ⟨m, xs, pk, qk, o, rfl, rfl, hmK, hpk, hqk, hqq, HT, hvb, hO, hL, hrs, hgr, hsz⟩ := hrel
    cases m with
    | succ j =>
      have hm0 : (0 : Int) < ((j + 1 : Nat) : Int) := by omega
      have hwn : IntKind.u64.wrap (((j + 1 : Nat) : Int) - 1) = (j : Int) := by rw [IntKind.wrap_u64]; omega
      have hdd : (16 : Int) - n + 1 = (17 : Int) - n := by omega
      have hX := HC.out wr lb B qk pk _ hL (HB.out.grownV hgr hb (by omega)) hb hpk hl hqk (by omega)
      obtain ⟨oa, oc, rfl⟩ := hO.len
      have HV := hide (fun (U : World) (g : wr.grownBy U (some lb)) => (g.block (w.heap.size + 1) (by omega) (by simp; omega)).trans hvb)
      have HRS := hide (fun (U : World) (g : wr.grownBy U (some lb)) => (g.block w.heap.size (by omega) (by simp; omega)).trans hrs)
      have HGR := hide hgr
      simp only [itsM] at HT
      cases eg : readM l n pk qk with
      | none =>
        rw [eg] at hX HT
        have HX := hide hX
        have HTN : Hid (T = none) := HT
        clear hX hvb hO hL hrs hgr eg HT
        go_wp2_with (go_at_call 19; refine HX.out.mono ?_; clear HX; rintro e w4 ⟨xk, xi, xm, xt, xa, xn, xc, rfl, g4⟩; obtain ⟨w5, hw5⟩ : ∃ w5, w4.alloc (.cells #[.int .i64 xk, .int .i64 xi, .int .i64 xm, .string xt, .slice xa xn xc] 26) = w5 := ⟨_, rfl⟩; have g5 : wr.grownBy w5 (some lb) := (by rw [← hw5]; exact grown_more g4 (grown_of_below (alloc_v (Below.refl _ _) _))); have f4 := HV.out _ g5; have f5 := HRS.out _ g5; have v0 := cells_at f4 0 _ rfl; have v1 := cells_at f4 1 _ rfl; have v2 := cells_at f4 2 _ rfl; have v3 := cells_at f4 3 _ rfl; have v4 := cells_at f4 4 _ rfl; have r0 := cells_at f5 0 _ rfl; have rz0 := frozen_at f5 0; have r1 := cells_at f5 1 _ rfl; have rz1 := frozen_at f5 1; have r2 := cells_at f5 2 _ rfl; have rz2 := frozen_at f5 2; have r3 := cells_at f5 3 _ rfl; have rz3 := frozen_at f5 3; have r4 := cells_at f5 4 _ rfl; have rz4 := frozen_at f5 4; have F5 := hide f5; have G5 := hide g5; clear f4 f5 g4 g5)
        have D := rd_fin F5.out (grown_more HGR.out G5.out) (.int .i64 7) (.int .i64 0) (.int .i64 0) (.string ⟨#[]⟩) (.slice oa xs.length oc)
        refine bodyPost_ret (results_struct_tmp rfl _ _ w.heap.size _ _ _ _ rfl D.1 Tryz.underlying26 rfl infoVal5) rfl ?_
        rw [HTN.out]
        exact ⟨_, _, _, _, _, _, _, rfl, D.2.1⟩
      | some t =>
        obtain ⟨x, p3, q3⟩ := t
        rw [eg] at hX HT
        have hle := readM_ok l hl n hpk eg
        have HX := hide hX
        have hxl : xs.length + 1 ≤ 1000000000 := by omega
        have HP := hide (fun (U : World) (s : Value) (g : wr.grownBy U (some lb)) (i : ItemsIn U (fun b => wr.heap.size ≤ b ∧ b < U.heap.size) n s x.items) =>
          OwnAt.pushX (ty := 24) (x := x) (hO.far g.size (fun k h1 h2 => g.block k h2 (by simp; omega))) (by have := g.size; omega) (i.kept (fun _ _ _ => rfl) (fun b hb => ⟨by omega, hb.2, fun eq => by have := (hO.lt eq.symm).2; omega⟩)) hle.1 hxl)
        have HNX : Hid (T = itsJ (xs ++ [x]) (itsM (readM l n) j p3 q3)) := by
          have e : T = itsJ xs (match itsM (readM l n) j p3 q3 with | none => none | some (xs', r) => some (x :: xs', r)) := HT
          show T = _
          rw [e]
          generalize itsM (readM l n) j p3 q3 = R
          rcases R with _ | ⟨ys, t⟩
          · rfl
          · simp [itsJ]
        have HLE := hide hle
        have HQ := hide hqq
        have hp3 := hle.2.1
        clear hX hvb hO hL hrs hgr eg HT hle hxl hqq
        go_wp2_with (first
          | (go_at_call 19; refine HX.out.mono ?_; clear HX; rintro e w4 ⟨s4, rfl, i4, d4, g4⟩; obtain ⟨sa4, sc4, rfl, _⟩ := i4.len; obtain ⟨w6, hw6⟩ : ∃ w6, w4.alloc (.cells #[.int .i64 x.kind, .int .i64 x.int, .int .i64 x.im, .string x.text, .slice sa4 x.items.length sc4] 26) = w6 := ⟨_, rfl⟩; have b6 : Below w4.heap.size w4 w6 := (by rw [← hw6]; exact alloc_v (Below.refl _ _) _); have e6 : w6.heap[w4.heap.size]? = some (.cells #[.int .i64 x.kind, .int .i64 x.int, .int .i64 x.im, .string x.text, .slice sa4 x.items.length sc4] 26 (0, 0)) := (by rw [← hw6]; exact World.alloc_heap_new w4 _); have y0 := cells_at e6 0 _ rfl; have y1 := cells_at e6 1 _ rfl; have y2 := cells_at e6 2 _ rfl; have y3 := cells_at e6 3 _ rfl; have y4 := cells_at e6 4 _ rfl; have ga := grown_more g4 (grown_of_below (r := some lb) b6); have i5 := i4.kept (w' := w6) (S' := fun b => wr.heap.size ≤ b ∧ b < w6.heap.size) (fun b o hb => (bcellV b6).1 b o hb.2) (fun b hb => ⟨hb.1, by have := b6.size; omega⟩); obtain ⟨v5, w5, hrun, o5, b5⟩ := HP.out _ _ ga i5; obtain ⟨va, vc, rfl⟩ := o5.len; have k4 : w6.cell? ⟨w.heap.size + 1, 4, none⟩ = some (.slice oa xs.length oc) := cells_at (HV.out w6 ga) 4 _ rfl; have k4a := fun ob : Obj => (World.cell?_alloc_some w6 ⟨w.heap.size + 1, 4, none⟩ ob (by rw [k4]; rfl)).trans k4; have F4 := hide (HV.out _ ga); have R4 := hide (HRS.out _ ga); have lb4 : lb < w4.heap.size := (Array.getElem?_eq_some_iff.1 d4).1; have D4 := hide ((b6.block lb lb4).trans d4); have RN := hide hrun; have O5 := hide o5; have B5 := hide b5; have GA := hide ga; have f5 := (b5.block (w.heap.size + 1) (by omega)).trans F4.out; have z5 := frozen_at f5 4; have k5 := cells_at f5 4 _ rfl; have F5 := hide f5; clear hrun o5 b5 d4 g4 ga i4 i5 HP f5 b6 e6)
          | (at_builtin; refine Lib.wpList_append_run _ rfl (.tmp 145) (.tmp 147) 24 24 rfl _ _ rfl rfl _ _ RN.out ?_))
        go_roundw
        case rel =>
          have hL5 := B5.out.size
          have hL6 := GA.out.size
          have h1 : w.heap.size + 2 ≤ w6.heap.size := by omega
          have g5 := grown_L (grown_more HGR.out GA.out) B5.out (by omega) h1
          have hqq := HQ.out
          have hle := HLE.out
          refine ⟨j, xs ++ [x], p3, q3, .slice va (xs ++ [x]).length vc, by go_num, by go_num, by omega, hp3, hle.2.2.2, by rw [List.length_append, List.length_singleton]; have := hle.2.2.1; omega, HNX, ?_, ?_, ?_, ?_, grown_far g5 (by omega), ?_⟩
          · rw [List.length_append]
            exact heap_setCell_same _ _ 4 _ _ _ F5.out
          · exact O5.out.far (by simp [World.setCell]) (fun k h1 _ => Below.heap_setCell _ _ _ _ (by show k ≠ w.heap.size + 1; omega))
          · exact (Below.heap_setCell _ _ _ _ (by show lb ≠ w.heap.size + 1; omega)).trans ((B5.out.block lb (by omega)).trans D4.out)
          · exact (Below.heap_setCell _ _ _ _ (by show w.heap.size ≠ w.heap.size + 1; omega)).trans ((B5.out.block w.heap.size (by omega)).trans R4.out)
          · simp only [World.setCell]
            simpa using (show w.heap.size + 2 ≤ w5.heap.size by omega)
        case measure => simp [intOf]
    | zero =>
      have HTN : Hid (T = some (xs, pk, qk)) := by
        have e := HT.out
        simp [itsM, itsJ] at e
        exact e
      have hit := hO.items (by unfold maxLen; omega)
      obtain ⟨oa, oc, rfl⟩ := hO.len
      have v0 := cells_at hvb 0 _ rfl
      have v1 := cells_at hvb 1 _ rfl
      have v2 := cells_at hvb 2 _ rfl
      have v3 := cells_at hvb 3 _ rfl
      have v4 := cells_at hvb 4 _ rfl
      have r0 := cells_at hrs 0 _ rfl
      have rz0 := frozen_at hrs 0
      have r1 := cells_at hrs 1 _ rfl
      have rz1 := frozen_at hrs 1
      have r2 := cells_at hrs 2 _ rfl
      have rz2 := frozen_at hrs 2
      have r3 := cells_at hrs 3 _ rfl
      have rz3 := frozen_at hrs 3
      have r4 := cells_at hrs 4 _ rfl
      have rz4 := frozen_at hrs 4
      have F := hide (And.intro hvb (And.intro hL (And.intro hrs (And.intro hgr hit))))
      clear hvb hL hrs hgr hit hO HT
      go_wp2
      have D := rd_fin F.out.2.2.1 F.out.2.2.2.1 (.int .i64 7) (.int .i64 0) (.int .i64 0) (.string ⟨#[]⟩) (.slice oa xs.length oc)
      refine bodyPost_ret (results_struct_tmp rfl _ _ w.heap.size _ _ _ _ rfl D.1 Tryz.underlying26 rfl infoVal5) rfl ?_
      rw [HTN.out]
      refine ⟨.slice oa xs.length oc, rfl, F.out.2.2.2.2.kept (fun b o hb => World.cell?_of_block (D.2.2.1 b (by omega))) (fun b hb => ⟨by omega, by rw [D.2.2.2]; exact hb.2⟩), (D.2.2.1 lb (by omega)).trans F.out.2.1, D.2.1⟩
set_option maxRecDepth 100000 in
set_option maxHeartbeats 4000000 in
/-- read, where nothing more may come. -/
theorem read_stop (w : World) (lb B q i : Nat) (sl : Value) (l : List UInt8) (d : Int) (hL : LeftI w lb ((4096 : Int) - q)) (hB : BytesIn w 0 B sl l) (_hl : l.length ≤ 1000000000000) (hq : q ≤ 4096) (h : l.length ≤ i ∨ 4096 < q + 1 ∨ 16 < d) :
    Calls Tryz.prog 19 #[sl, .int .i64 i, .int .i64 d, .pointer (some ⟨lb, 0, none⟩)] w fun e w' => RdNo w lb e w' := by
  obtain ⟨a, c, rfl, _⟩ := id hB
  have hlb : lb < w.heap.size := (Array.getElem?_eq_some_iff.1 hL).1
  obtain ⟨z, hz⟩ : ∃ z : Int, (4096 : Int) - q = z := ⟨_, rfl⟩
  rw [hz] at hL
  obtain ⟨W, hW⟩ : ∃ W, w.alloc (.cells zcells 26) = W := ⟨_, rfl⟩
  have bW : Below w.heap.size w W := by rw [← hW]; exact alloc_v (Below.refl _ _) _
  have zW : W.heap.size = w.heap.size + 1 := by rw [← hW]; simp
  have f1 : LeftI W lb z := (bW.block _ hlb).trans hL
  have x0 := cells_at f1 0 _ rfl
  have v0 := frozen_at f1 0
  have hsub : IntKind.i64.wrap (z - 1) = z - 1 := by rw [IntKind.wrap_i64]; omega
  have S := hide (rst_start w W lb z hL hW)
  have r0 := cells_at S.out.res 0 _ rfl
  have rz0 := frozen_at S.out.res 0
  have r1 := cells_at S.out.res 1 _ rfl
  have rz1 := frozen_at S.out.res 1
  have r2 := cells_at S.out.res 2 _ rfl
  have rz2 := frozen_at S.out.res 2
  have r3 := cells_at S.out.res 3 _ rfl
  have rz3 := frozen_at S.out.res 3
  have r4 := cells_at S.out.res 4 _ rfl
  have rz4 := frozen_at S.out.res 4
  clear hL hB f1
  by_cases h1 : (l.length : Int) ≤ (i : Int)
  · clear h
    go_enter Tryz.func19, Tryz.ntmps19
    go_wp2
    have D := rd_fin S.out.res S.out.gr (.int .i64 0) (.int .i64 0) (.int .i64 0) (.string ⟨#[]⟩) (.slice none 0 0)
    refine bodyPost_ret (results_struct_tmp rfl _ _ w.heap.size _ _ _ _ rfl D.1 Tryz.underlying26 rfl infoVal5) rfl ?_
    exact ⟨_, _, _, _, _, _, _, rfl, D.2.1⟩
  by_cases h2 : z - 1 < 0
  · clear h
    go_enter Tryz.func19, Tryz.ntmps19
    go_wp2
    have D := rd_fin S.out.res S.out.gr (.int .i64 0) (.int .i64 0) (.int .i64 0) (.string ⟨#[]⟩) (.slice none 0 0)
    refine bodyPost_ret (results_struct_tmp rfl _ _ w.heap.size _ _ _ _ rfl D.1 Tryz.underlying26 rfl infoVal5) rfl ?_
    exact ⟨_, _, _, _, _, _, _, rfl, D.2.1⟩
  · have h3 : (16 : Int) < d := by omega
    clear h
    go_enter Tryz.func19, Tryz.ntmps19
    go_wp2
    have D := rd_fin S.out.res S.out.gr (.int .i64 0) (.int .i64 0) (.int .i64 0) (.string ⟨#[]⟩) (.slice none 0 0)
    refine bodyPost_ret (results_struct_tmp rfl _ _ w.heap.size _ _ _ _ rfl D.1 Tryz.underlying26 rfl infoVal5) rfl ?_
    exact ⟨_, _, _, _, _, _, _, rfl, D.2.1⟩
end Go.Proofs.YtjbpodkhgdaopaaGreatDoor
