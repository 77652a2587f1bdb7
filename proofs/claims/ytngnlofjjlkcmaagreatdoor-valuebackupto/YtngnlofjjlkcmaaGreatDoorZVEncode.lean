/- encoded and Encode: the bytes of a value. -/
import Derived.Test.YtngnlofjjlkcmaaGreatDoorZVCopied
import Derived.Test.YtngnlofjjlkcmaaGreatDoorGVFO
import Derived.Test.YtngnlofjjlkcmaaGreatDoorGOctet
namespace Go.Proofs.YtngnlofjjlkcmaaGreatDoor
open Go.RowKit
open Go.Lib (uvarint uvarint_pos)

/-- The bytes of a value; n bounds how deep. -/
def encF : Nat → Vl → List UInt8
  | 0, _ => []
  | n + 1, v => UInt8.ofNat v.kind.toNat :: (if v.kind = 1 then [UInt8.ofNat v.int.toNat] else if v.kind = 2 then uvarint (zz v.int) else if v.kind = 3 then uvarint (zz v.int) ++ uvarint (zz v.im) else if v.kind = 4 then txt v.text
      else uvarint v.items.length ++ (v.items.map (encF n)).flatten)
def encV (v : Vl) : List UInt8 := encF v.size v
theorem encF_more (n : Nat) : ∀ (m : Nat) (v : Vl), v.size ≤ n → n ≤ m → encF m v = encF n v := by
  induction n with
  | zero => intro m v h _; have := v.size_pos; omega
  | succ n ih =>
    intro m v h hm
    cases m with
    | zero => omega
    | succ m =>
      have e : v.items.map (encF m) = v.items.map (encF n) := List.map_congr_left fun x hx => ih m x (by have := Vl.size_item hx; omega) (by omega)
      rw [encF, encF, e]
theorem encV_eq (v : Vl) : encV v = UInt8.ofNat v.kind.toNat :: (if v.kind = 1 then [UInt8.ofNat v.int.toNat] else if v.kind = 2 then uvarint (zz v.int) else if v.kind = 3 then uvarint (zz v.int) ++ uvarint (zz v.im) else if v.kind = 4 then txt v.text
      else uvarint v.items.length ++ (v.items.map encV).flatten) := by
  have h0 := v.size_pos
  unfold encV
  obtain ⟨n, hn⟩ : ∃ n, v.size = n + 1 := ⟨v.size - 1, by omega⟩
  have e : v.items.map (encF n) = v.items.map (fun v => encF v.size v) := List.map_congr_left fun x hx => encF_more x.size n x (Nat.le_refl _) (by have := Vl.size_item hx; omega)
  rw [hn, encF, e]

/-- A row of bytes of one's own, put together since the world X. -/
structure RowB (X : World) (L : Nat) (g0 : Option Nat) (w : World) (v : Value) (bs : List UInt8) : Prop where
  row : w.ownsRow L 5 1 v bs.length (cellsOf bs)
  gr : X.grownBy w g0
  own : v.ownBlock = g0 ∨ ∀ k, v.ownBlock = some k → X.heap.size ≤ k
theorem RowB.start {X : World} {L : Nat} {v : Value} {bs : List UInt8} (h : X.ownsRow L 5 1 v bs.length (cellsOf bs)) : RowB X L v.ownBlock X v bs := ⟨h, grown_self _ _, .inl rfl⟩
theorem RowB.below {X w w' : World} {L : Nat} {g0 : Option Nat} {v : Value} {bs : List UInt8} (h : RowB X L g0 w v bs) (hb : Below w.heap.size w w') : RowB X L g0 w' v bs :=
  ⟨h.row.kept (grown_of_below (r := none) hb) (by cases v.ownBlock <;> simp), grown_more h.gr (grown_of_below hb), h.own⟩
/-- Two such ways, one behind the other. -/
theorem RowB.more {X w w' : World} {L : Nat} {g0 : Option Nat} {v v' : Value} {bs cs : List UInt8} (h : RowB X L g0 w v bs) (k : RowB w L v.ownBlock w' v' cs) : RowB X L g0 w' v' cs := by
  have hz := h.gr.size
  refine ⟨k.row, ⟨k.gr.os.trans h.gr.os, k.gr.tape.trans h.gr.tape, k.gr.output.trans h.gr.output, Nat.le_trans hz k.gr.size, fun j hj hne => ?_⟩, ?_⟩
  · refine (k.gr.block j (by omega) (fun e => ?_)).trans (h.gr.block j hj hne)
    rcases h.own with o | o
    · exact hne (e.trans o)
    · have := o j e.symm
      omega
  · rcases k.own with o | o
    · rw [o]
      exact h.own
    · exact .inr fun j hj => by have := o j hj; omega
/-- Bytes that lie in memory are laid behind. -/
theorem RowB.push {X w : World} {L : Nat} {g0 : Option Nat} {v : Value} {bs : List UInt8} (h : RowB X L g0 w v bs) (hL : L ≤ X.heap.size) (ad : Addr) (c : Nat) (cs : List UInt8) (hcs : ∀ j u, (cellsOf cs)[j]? = some u → w.cell? (ad.add j) = some u) (h0 : 0 < cs.length) (hb : bs.length + cs.length ≤ 1000000000000) (ty : TypeId) :
    ∃ v' w', (Builtin.append_ #[22, 22] ty #[v, .slice (some ad) cs.length c]).run Tryz.prog w = .ok v' w' ∧ RowB X L g0 w' v' (bs ++ cs) := by
  obtain ⟨i0, hi, hz0, hz1, hz2⟩ := info_parts info_u8
  have hz := h.gr.size
  obtain ⟨g, cap, w', hrun, A1, A2, A3, A4⟩ := run_append_lies (P := Tryz.prog) w 22 ty L 5 i0 (.int .u8 0) 1 1 Tryz.underlying22 hi hz0 hz1 hz2 rfl (by decide) v bs.length (cellsOf bs) h.row ad cs.length c (cellsOf cs) (by rw [cellsOf_length]; omega) hcs (cellsOf_one cs) h0 (by unfold maxLen; omega) (by omega) (by omega) w.heap.size rfl
  refine ⟨_, w', hrun, h.more ⟨?_, A2, ?_⟩⟩
  · rw [List.length_append, show cellsOf (bs ++ cs) = cellsOf bs ++ cellsOf cs from List.map_append]
    exact A1
  · rcases A3 with A3 | A3
    · exact .inl A3.symm
    · exact .inr fun k hk => by simp only [Value.ownBlock, Option.some.injEq] at hk; omega
/-- A row that a callee made is laid behind. -/
theorem RowB.pushRow {X w w2 : World} {L : Nat} {g0 : Option Nat} {v u : Value} {bs cs : List UInt8} (h : RowB X L g0 w v bs) (hL : L ≤ X.heap.size) (hu : w2.ownsRow w.heap.size 5 1 u cs.length (cellsOf cs)) (hb : Below w.heap.size w w2) (h0 : 0 < cs.length) (hl : bs.length + cs.length ≤ 1000000000000) (ty : TypeId) :
    ∃ v' w', (Builtin.append_ #[22, 22] ty #[v, u]).run Tryz.prog w2 = .ok v' w' ∧ RowB X L g0 w' v' (bs ++ cs) := by
  obtain ⟨g, cap, rfl, _, _⟩ := hu.form h0
  refine (h.below hb).push hL ⟨g, 0, none⟩ cap cs (fun j u hj => ?_) h0 hl ty
  have hj' : j < cs.length := by have := (List.getElem?_eq_some_iff.1 hj).1; rwa [cellsOf_length] at this
  rw [Addr.add_lit, Nat.zero_add, hu.cellAt j (by omega), hj]
/-- A byte is laid behind. -/
theorem RowB.pushByte {X w : World} {L : Nat} {g0 : Option Nat} {v : Value} {bs : List UInt8} (h : RowB X L g0 w v bs) (hL : L ≤ X.heap.size) (x : UInt8) (y : Int) (hy : (x.toNat : Int) = y) (hl : bs.length + 1 ≤ 1000000000000) (ty : TypeId) :
    ∃ v' w', (Builtin.append_ #[22, 22] ty #[v, .slice (some ⟨w.heap.size, 0, none⟩) 1 1]).run Tryz.prog (w.alloc (.cells #[.int .u8 y] 5)) = .ok v' w' ∧ RowB X L g0 w' v' (bs ++ [x]) := by
  subst hy
  have e := World.alloc_heap_new w (.cells #[.int .u8 (x.toNat : Int)] 5)
  refine (h.below (alloc_v (Below.refl _ _) _)).push hL ⟨w.heap.size, 0, none⟩ 1 [x] (fun j u hj => ?_) (by simp) (by simpa using hl) ty
  rw [Addr.add_lit, Nat.zero_add]
  exact cells_at e j u (by simpa [cellsOf] using hj)
theorem ItemsAt.grownO {w w' : World} {B n : Nat} {r : Option Nat} {sl : Value} {its : List Vl} (h : ItemsAt w B n sl its) (hg : w.grownBy w' r) (hB : ∀ k, r = some k → B ≤ k) (hw : B ≤ w.heap.size) : ItemsAt w' B n sl its :=
  h.kept fun b o hb => World.cell?_of_block (hg.block b (by omega) (fun e => by have := hB b e.symm; omega))
theorem flat_take (l : List Vl) (k : Nat) (hk : k < l.length) : ((l.take (k + 1)).map encV).flatten = ((l.take k).map encV).flatten ++ encV l[k] := by
  rw [List.take_succ_eq_append_getElem hk, List.map_append, List.flatten_append]
  simp
theorem flat_le (l : List Vl) (k : Nat) : ((l.take k).map encV).flatten.length ≤ (l.map encV).flatten.length := by
  have e : l = l.take k ++ l.drop k := (List.take_append_drop k l).symm
  have : (l.map encV).flatten = ((l.take k).map encV).flatten ++ ((l.drop k).map encV).flatten := by
    rw [← List.flatten_append, ← List.map_append, List.take_append_drop]
  rw [this, List.length_append]
  omega
def EncC (n : Nat) : Prop := ∀ (v : Vl) (w : World) (B L : Nat) (sl bv : Value) (bs : List UInt8), formV v = true → v.ok → v.size ≤ 1000000000 → B ≤ L → L ≤ w.heap.size → ItemsAt w B n sl v.items → w.ownsRow L 5 1 bv bs.length (cellsOf bs) → bs.length + (encV v).length ≤ 1000000000000 →
  Calls Tryz.prog 27 #[bv, .agg (vcells v sl)] w fun e w' => ∃ v', e = .returned v' ∧ RowB w L bv.ownBlock w' v' (bs ++ encV v)
set_option maxRecDepth 100000 in
set_option maxHeartbeats 1000000 in
theorem enc_bool (i m : Int) (t : ByteArray) (l : List Vl) (hi : i = 0 ∨ i = 1) (a : Option Addr) (c : Nat) (w : World) (L : Nat) (bv : Value) (bs : List UInt8) (hok : (⟨1, i, m, t, l⟩ : Vl).ok) (hL : L ≤ w.heap.size) (hr : w.ownsRow L 5 1 bv bs.length (cellsOf bs)) (hn : bs.length + (encV ⟨1, i, m, t, l⟩).length ≤ 1000000000000) :
    Calls Tryz.prog 27 #[bv, .agg (vcells ⟨1, i, m, t, l⟩ (.slice a l.length c))] w fun e w' => ∃ v', e = .returned v' ∧ RowB w L bv.ownBlock w' v' (bs ++ encV ⟨1, i, m, t, l⟩) := by
  obtain ⟨W, hW⟩ : ∃ W, w.alloc (.cells (vcells ⟨1, i, m, t, l⟩ (.slice a l.length c)) 26) = W := ⟨_, rfl⟩
  have bW : Below w.heap.size w W := by rw [← hW]; exact alloc_v (Below.refl _ _) _
  have e1 : W.heap[w.heap.size]? = some (.cells (vcells ⟨1, i, m, t, l⟩ (.slice a l.length c)) 26 (0, 0)) := by rw [← hW]; exact World.alloc_heap_new w _
  have zW : w.heap.size < W.heap.size := (Array.getElem?_eq_some_iff.1 e1).1
  have x0 := cells_at e1 0 _ rfl
  have hne : some w.heap.size ≠ bv.ownBlock := fun e => by have := (hr.lt _ e.symm).2; omega
  have HB := hide (fun (U : World) (g : W.grownBy U bv.ownBlock) => (g.block _ zW hne).trans e1)
  have R0 := (RowB.start hr).below bW
  have RW : RowB W L bv.ownBlock W bv bs := RowB.start (R0.row)
  have hLW : L ≤ W.heap.size := by omega
  have HE := hide (encV_eq ⟨1, i, m, t, l⟩)
  simp only at HE
  have hlen := congrArg List.length HE.out
  obtain ⟨ok1, ⟨ok2, ok3⟩, ok4, ok5⟩ := hok
  simp only at ok1 ok2 ok3 ok4 ok5
  have HEND := hide (fun (U : World) (v' : Value) (cs : List UInt8) (k : RowB W L bv.ownBlock U v' cs) => R0.more k)
  simp at hlen
  obtain ⟨v1, w1, hrun1, R1⟩ := RW.pushByte hLW (UInt8.ofNat 1) 1 rfl (by omega) 22
  have b1 := HB.out w1 R1.gr
  have y0 := cells_at b1 0 _ rfl
  have y1 := cells_at b1 1 _ rfl
  have y2 := cells_at b1 2 _ rfl
  have y3 := cells_at b1 3 _ rfl
  have y4 := cells_at b1 4 _ rfl
  have zw1 : w.heap.size < w1.heap.size := (Array.getElem?_eq_some_iff.1 b1).1
  have HR1 := hide hrun1
  obtain ⟨v2, w2, hrun2, R2⟩ := R1.pushByte hLW (UInt8.ofNat i.toNat) i (by rcases hi with rfl | rfl <;> rfl) (by simp; omega) 22
  have HR2 := hide hrun2
  have HR := hide (HEND.out _ _ _ R2)
  have hib : 0 ≤ i := by omega
  have hic : i ≤ 1 := by omega
  clear hrun1 hrun2 R1 R2 RW R0 e1 b1 hr hlen HEND HB
  go_enter Tryz.func27, Tryz.ntmps27
  go_wp2_with (first | (at_builtin; refine Lib.wpList_append_run _ rfl (.tmp 7) (.tmp 11) 22 22 rfl _ _ rfl rfl _ _ HR1.out ?_; clear HR1) | (at_builtin; refine Lib.wpList_append_run _ rfl (.tmp 17) (.tmp 21) 22 22 rfl _ _ rfl rfl _ _ HR2.out ?_; clear HR2))
  go_ret
  refine ⟨_, rfl, ?_⟩
  rw [HE.out]
  simpa using HR.out
set_option maxRecDepth 100000 in
set_option maxHeartbeats 1000000 in
theorem enc_int (i m : Int) (t : ByteArray) (l : List Vl) (a : Option Addr) (c : Nat) (w : World) (L : Nat) (bv : Value) (bs : List UInt8) (hok : (⟨2, i, m, t, l⟩ : Vl).ok) (hL : L ≤ w.heap.size) (hr : w.ownsRow L 5 1 bv bs.length (cellsOf bs)) (hn : bs.length + (encV ⟨2, i, m, t, l⟩).length ≤ 1000000000000) :
    Calls Tryz.prog 27 #[bv, .agg (vcells ⟨2, i, m, t, l⟩ (.slice a l.length c))] w fun e w' => ∃ v', e = .returned v' ∧ RowB w L bv.ownBlock w' v' (bs ++ encV ⟨2, i, m, t, l⟩) := by
  obtain ⟨W, hW⟩ : ∃ W, w.alloc (.cells (vcells ⟨2, i, m, t, l⟩ (.slice a l.length c)) 26) = W := ⟨_, rfl⟩
  have bW : Below w.heap.size w W := by rw [← hW]; exact alloc_v (Below.refl _ _) _
  have e1 : W.heap[w.heap.size]? = some (.cells (vcells ⟨2, i, m, t, l⟩ (.slice a l.length c)) 26 (0, 0)) := by rw [← hW]; exact World.alloc_heap_new w _
  have zW : w.heap.size < W.heap.size := (Array.getElem?_eq_some_iff.1 e1).1
  have x0 := cells_at e1 0 _ rfl
  have hne : some w.heap.size ≠ bv.ownBlock := fun e => by have := (hr.lt _ e.symm).2; omega
  have HB := hide (fun (U : World) (g : W.grownBy U bv.ownBlock) => (g.block _ zW hne).trans e1)
  have R0 := (RowB.start hr).below bW
  have RW : RowB W L bv.ownBlock W bv bs := RowB.start (R0.row)
  have hLW : L ≤ W.heap.size := by omega
  have HE := hide (encV_eq ⟨2, i, m, t, l⟩)
  simp only at HE
  have hlen := congrArg List.length HE.out
  obtain ⟨ok1, ⟨ok2, ok3⟩, ok4, ok5⟩ := hok
  simp only at ok1 ok2 ok3 ok4 ok5
  have HEND := hide (fun (U : World) (v' : Value) (cs : List UInt8) (k : RowB W L bv.ownBlock U v' cs) => R0.more k)
  simp at hlen
  obtain ⟨v1, w1, hrun1, R1⟩ := RW.pushByte hLW (UInt8.ofNat 2) 2 rfl (by omega) 22
  have b1 := HB.out w1 R1.gr
  have y0 := cells_at b1 0 _ rfl
  have y1 := cells_at b1 1 _ rfl
  have y2 := cells_at b1 2 _ rfl
  have y3 := cells_at b1 3 _ rfl
  have y4 := cells_at b1 4 _ rfl
  have zw1 : w.heap.size < w1.heap.size := (Array.getElem?_eq_some_iff.1 b1).1
  have HR1 := hide hrun1
  have HV := hide (varint_any i ok2 ok3 w1)
  have HP := hide (fun (w2 : World) (u : Value) (hu : w2.ownsRow w1.heap.size 5 1 u (uvarint (zz i)).length (cellsOf (uvarint (zz i)))) (hb : Below w1.heap.size w1 w2) => R1.pushRow hLW hu hb (uvarint_pos _) (by simp; omega) 22)
  clear hrun1 R1 RW R0 e1 b1 hr hlen HB
  go_enter Tryz.func27, Tryz.ntmps27
  go_wp2_with (first
    | (at_builtin; refine Lib.wpList_append_run _ rfl (.tmp 7) (.tmp 11) 22 22 rfl _ _ rfl rfl _ _ HR1.out ?_; clear HR1)
    | (go_at_call 44; refine HV.out.mono ?_; clear HV; rintro e w2 ⟨u, rfl, A1, A2⟩; obtain ⟨v3, w3, hrun, R3⟩ := HP.out _ _ A1 A2; have HR2 := hide hrun; have HR := hide (HEND.out _ _ _ R3); clear hrun R3 A1 A2 HP)
    | (at_builtin; refine Lib.wpList_append_run _ rfl (.tmp 25) (.tmp 28) 22 22 rfl _ _ rfl rfl _ _ HR2.out ?_; clear HR2))
  go_ret
  refine ⟨_, rfl, ?_⟩
  rw [HE.out]
  simpa using HR.out
set_option maxRecDepth 100000 in
set_option maxHeartbeats 1000000 in
theorem enc_gauss (i m : Int) (t : ByteArray) (l : List Vl) (a : Option Addr) (c : Nat) (w : World) (L : Nat) (bv : Value) (bs : List UInt8) (hok : (⟨3, i, m, t, l⟩ : Vl).ok) (hL : L ≤ w.heap.size) (hr : w.ownsRow L 5 1 bv bs.length (cellsOf bs)) (hn : bs.length + (encV ⟨3, i, m, t, l⟩).length ≤ 1000000000000) :
    Calls Tryz.prog 27 #[bv, .agg (vcells ⟨3, i, m, t, l⟩ (.slice a l.length c))] w fun e w' => ∃ v', e = .returned v' ∧ RowB w L bv.ownBlock w' v' (bs ++ encV ⟨3, i, m, t, l⟩) := by
  obtain ⟨W, hW⟩ : ∃ W, w.alloc (.cells (vcells ⟨3, i, m, t, l⟩ (.slice a l.length c)) 26) = W := ⟨_, rfl⟩
  have bW : Below w.heap.size w W := by rw [← hW]; exact alloc_v (Below.refl _ _) _
  have e1 : W.heap[w.heap.size]? = some (.cells (vcells ⟨3, i, m, t, l⟩ (.slice a l.length c)) 26 (0, 0)) := by rw [← hW]; exact World.alloc_heap_new w _
  have zW : w.heap.size < W.heap.size := (Array.getElem?_eq_some_iff.1 e1).1
  have x0 := cells_at e1 0 _ rfl
  have hne : some w.heap.size ≠ bv.ownBlock := fun e => by have := (hr.lt _ e.symm).2; omega
  have HB := hide (fun (U : World) (g : W.grownBy U bv.ownBlock) => (g.block _ zW hne).trans e1)
  have R0 := (RowB.start hr).below bW
  have RW : RowB W L bv.ownBlock W bv bs := RowB.start (R0.row)
  have hLW : L ≤ W.heap.size := by omega
  have HE := hide (encV_eq ⟨3, i, m, t, l⟩)
  simp only at HE
  have hlen := congrArg List.length HE.out
  obtain ⟨ok1, ⟨ok2, ok3⟩, ok4, ok5⟩ := hok
  simp only at ok1 ok2 ok3 ok4 ok5
  have HEND := hide (fun (U : World) (v' : Value) (cs : List UInt8) (k : RowB W L bv.ownBlock U v' cs) => R0.more k)
  simp at hlen
  obtain ⟨v1, w1, hrun1, R1⟩ := RW.pushByte hLW (UInt8.ofNat 3) 3 rfl (by omega) 22
  have b1 := HB.out w1 R1.gr
  have y0 := cells_at b1 0 _ rfl
  have y1 := cells_at b1 1 _ rfl
  have y2 := cells_at b1 2 _ rfl
  have y3 := cells_at b1 3 _ rfl
  have y4 := cells_at b1 4 _ rfl
  have zw1 : w.heap.size < w1.heap.size := (Array.getElem?_eq_some_iff.1 b1).1
  have HR1 := hide hrun1
  have HV := hide (varint_any i ok2 ok3 w1)
  have HM := hide (fun U => varint_any m ok4 ok5 U)
  have HP := hide (fun (w2 : World) (u : Value) (hu : w2.ownsRow w1.heap.size 5 1 u (uvarint (zz i)).length (cellsOf (uvarint (zz i)))) (hb : Below w1.heap.size w1 w2) => R1.pushRow hLW hu hb (uvarint_pos _) (by simp; omega) 22)
  have HQ := hide (fun (w3 w4 : World) (v3 u : Value) (R3 : RowB W L bv.ownBlock w3 v3 (bs ++ [UInt8.ofNat 3] ++ uvarint (zz i))) (hu : w4.ownsRow w3.heap.size 5 1 u (uvarint (zz m)).length (cellsOf (uvarint (zz m)))) (hb : Below w3.heap.size w3 w4) => R3.pushRow hLW hu hb (uvarint_pos _) (by simp; omega) 22)
  clear hrun1 R1 RW R0 e1 b1 hr hlen
  go_enter Tryz.func27, Tryz.ntmps27
  go_wp2_with (first
    | (at_builtin; refine Lib.wpList_append_run _ rfl (.tmp 7) (.tmp 11) 22 22 rfl _ _ rfl rfl _ _ HR1.out ?_; clear HR1)
    | (go_at_call 44; refine HV.out.mono ?_; clear HV; rintro e w2 ⟨u, rfl, A1, A2⟩; obtain ⟨v3, w3, hrun, R3⟩ := HP.out _ _ A1 A2; have HR2 := hide hrun; have HR3 := hide R3; have u2 := cells_at (HB.out w3 R3.gr) 2 _ rfl; clear hrun R3 A1 A2 HP)
    | (at_builtin; refine Lib.wpList_append_run _ rfl (.tmp 32) (.tmp 35) 22 22 rfl _ _ rfl rfl _ _ HR2.out ?_; clear HR2)
    | (go_at_call 44; refine (HM.out _).mono ?_; clear HM; rintro e w4 ⟨u4, rfl, A1, A2⟩; obtain ⟨v5, w5, hrun, R5⟩ := HQ.out _ _ _ _ HR3.out A1 A2; have HR4 := hide hrun; have HR := hide (HEND.out _ _ _ R5); clear hrun R5 A1 A2 HQ)
    | (at_builtin; refine Lib.wpList_append_run _ rfl (.tmp 37) (.tmp 40) 22 22 rfl _ _ rfl rfl _ _ HR4.out ?_; clear HR4))
  go_ret
  refine ⟨_, rfl, ?_⟩
  rw [HE.out]
  simpa using HR.out
set_option maxRecDepth 100000 in
set_option maxHeartbeats 1000000 in
theorem enc_sym (i m : Int) (t : ByteArray) (l : List Vl) (a : Option Addr) (c : Nat) (w : World) (L : Nat) (bv : Value) (bs : List UInt8) (hok : (⟨4, i, m, t, l⟩ : Vl).ok) (hL : L ≤ w.heap.size) (hr : w.ownsRow L 5 1 bv bs.length (cellsOf bs)) (hn : bs.length + (encV ⟨4, i, m, t, l⟩).length ≤ 1000000000000) :
    Calls Tryz.prog 27 #[bv, .agg (vcells ⟨4, i, m, t, l⟩ (.slice a l.length c))] w fun e w' => ∃ v', e = .returned v' ∧ RowB w L bv.ownBlock w' v' (bs ++ encV ⟨4, i, m, t, l⟩) := by
  obtain ⟨W, hW⟩ : ∃ W, w.alloc (.cells (vcells ⟨4, i, m, t, l⟩ (.slice a l.length c)) 26) = W := ⟨_, rfl⟩
  have bW : Below w.heap.size w W := by rw [← hW]; exact alloc_v (Below.refl _ _) _
  have e1 : W.heap[w.heap.size]? = some (.cells (vcells ⟨4, i, m, t, l⟩ (.slice a l.length c)) 26 (0, 0)) := by rw [← hW]; exact World.alloc_heap_new w _
  have zW : w.heap.size < W.heap.size := (Array.getElem?_eq_some_iff.1 e1).1
  have x0 := cells_at e1 0 _ rfl
  have hne : some w.heap.size ≠ bv.ownBlock := fun e => by have := (hr.lt _ e.symm).2; omega
  have HB := hide (fun (U : World) (g : W.grownBy U bv.ownBlock) => (g.block _ zW hne).trans e1)
  have R0 := (RowB.start hr).below bW
  have RW : RowB W L bv.ownBlock W bv bs := RowB.start (R0.row)
  have hLW : L ≤ W.heap.size := by omega
  have HE := hide (encV_eq ⟨4, i, m, t, l⟩)
  simp only at HE
  have hlen := congrArg List.length HE.out
  obtain ⟨ok1, ⟨ok2, ok3⟩, ok4, ok5⟩ := hok
  simp only at ok1 ok2 ok3 ok4 ok5
  have HEND := hide (fun (U : World) (v' : Value) (cs : List UInt8) (k : RowB W L bv.ownBlock U v' cs) => R0.more k)
  simp at hlen
  obtain ⟨v1, w1, hrun1, R1⟩ := RW.pushByte hLW (UInt8.ofNat 4) 4 rfl (by omega) 22
  have b1 := HB.out w1 R1.gr
  have y0 := cells_at b1 0 _ rfl
  have y1 := cells_at b1 1 _ rfl
  have y2 := cells_at b1 2 _ rfl
  have y3 := cells_at b1 3 _ rfl
  have y4 := cells_at b1 4 _ rfl
  have zw1 : w.heap.size < w1.heap.size := (Array.getElem?_eq_some_iff.1 b1).1
  have HR1 := hide hrun1
  have HV := hide (text_any t (by omega) w1)
  have ht0 : 0 < (txt t).length := by unfold txt; have := uvarint_pos t.size; rw [List.length_append]; omega
  have HP := hide (fun (w2 : World) (u : Value) (hu : w2.ownsRow w1.heap.size 5 1 u (txt t).length (cellsOf (txt t))) (hb : Below w1.heap.size w1 w2) => R1.pushRow hLW hu hb ht0 (by simp; omega) 22)
  clear hrun1 R1 RW R0 e1 b1 hr hlen HB ht0
  go_enter Tryz.func27, Tryz.ntmps27
  go_wp2_with (first
    | (at_builtin; refine Lib.wpList_append_run _ rfl (.tmp 7) (.tmp 11) 22 22 rfl _ _ rfl rfl _ _ HR1.out ?_; clear HR1)
    | (go_at_call 45; refine HV.out.mono ?_; clear HV; rintro e w2 ⟨u, rfl, A1, A2⟩; obtain ⟨v3, w3, hrun, R3⟩ := HP.out _ _ A1 A2; have HR2 := hide hrun; have HR := hide (HEND.out _ _ _ R3); clear hrun R3 A1 A2 HP)
    | (at_builtin; refine Lib.wpList_append_run _ rfl (.tmp 44) (.tmp 47) 22 22 rfl _ _ rfl rfl _ _ HR2.out ?_; clear HR2))
  go_ret
  refine ⟨_, rfl, ?_⟩
  rw [HE.out]
  simpa using HR.out
set_option maxRecDepth 100000 in
set_option maxHeartbeats 1000000 in
theorem enc_list5 (a : Option Addr) (c : Nat) (w : World) (L : Nat) (i m : Int) (t : ByteArray) (l : List Vl) {n B : Nat} (hC : EncC n) (hBL : B ≤ L) (hi : ItemsAt w B (n + 1) (.slice a l.length c) l) (hf : ∀ x ∈ l, formV x = true) (hz : ∀ x ∈ l, x.size ≤ 1000000000) (hll : l.length ≤ 1000000000) (bv : Value) (bs : List UInt8) (hok : (⟨5, i, m, t, l⟩ : Vl).ok) (hL : L ≤ w.heap.size) (hr : w.ownsRow L 5 1 bv bs.length (cellsOf bs)) (hn : bs.length + (encV ⟨5, i, m, t, l⟩).length ≤ 1000000000000) :
    Calls Tryz.prog 27 #[bv, .agg (vcells ⟨5, i, m, t, l⟩ (.slice a l.length c))] w fun e w' => ∃ v', e = .returned v' ∧ RowB w L bv.ownBlock w' v' (bs ++ encV ⟨5, i, m, t, l⟩) := by
  obtain ⟨W, hW⟩ : ∃ W, w.alloc (.cells (vcells ⟨5, i, m, t, l⟩ (.slice a l.length c)) 26) = W := ⟨_, rfl⟩
  have bW : Below w.heap.size w W := by rw [← hW]; exact alloc_v (Below.refl _ _) _
  have e1 : W.heap[w.heap.size]? = some (.cells (vcells ⟨5, i, m, t, l⟩ (.slice a l.length c)) 26 (0, 0)) := by rw [← hW]; exact World.alloc_heap_new w _
  have zW : w.heap.size < W.heap.size := (Array.getElem?_eq_some_iff.1 e1).1
  have x0 := cells_at e1 0 _ rfl
  have hne : some w.heap.size ≠ bv.ownBlock := fun e => by have := (hr.lt _ e.symm).2; omega
  have HB := hide (fun (U : World) (g : W.grownBy U bv.ownBlock) => (g.block _ zW hne).trans e1)
  have R0 := (RowB.start hr).below bW
  have RW : RowB W L bv.ownBlock W bv bs := RowB.start (R0.row)
  have hLW : L ≤ W.heap.size := by omega
  have HE := hide (encV_eq ⟨5, i, m, t, l⟩)
  simp only at HE
  have hlen := congrArg List.length HE.out
  obtain ⟨ok1, ⟨ok2, ok3⟩, ok4, ok5⟩ := hok
  simp only at ok1 ok2 ok3 ok4 ok5
  have HEND := hide (fun (U : World) (v' : Value) (cs : List UInt8) (k : RowB W L bv.ownBlock U v' cs) => R0.more k)
  simp at hlen
  obtain ⟨v1, w1, hrun1, R1⟩ := RW.pushByte hLW (UInt8.ofNat 5) 5 rfl (by omega) 22
  have b1 := HB.out w1 R1.gr
  have y0 := cells_at b1 0 _ rfl
  have y1 := cells_at b1 1 _ rfl
  have y2 := cells_at b1 2 _ rfl
  have y3 := cells_at b1 3 _ rfl
  have y4 := cells_at b1 4 _ rfl
  have zw1 : w.heap.size < w1.heap.size := (Array.getElem?_eq_some_iff.1 b1).1
  have HR1 := hide hrun1
  have HU := hide (uvarint_at ((l.length : Nat) : Int) l.length rfl (by omega) w1)
  have HP := hide (fun (w2 : World) (u : Value) (hu : w2.ownsRow w1.heap.size 5 1 u (uvarint l.length).length (cellsOf (uvarint l.length))) (hb : Below w1.heap.size w1 w2) => R1.pushRow hLW hu hb (uvarint_pos _) (by simp; omega) 22)
  have HI := hide (hi.below (bW.mono (show B ≤ w.heap.size by omega)))
  have hbv : ∀ k, bv.ownBlock = some k → B ≤ k := fun k e => by have := (hr.lt k e).1; omega
  have HLEN : Hid (∀ k, (bs ++ UInt8.ofNat 5 :: (uvarint l.length ++ ((l.take k).map encV).flatten)).length ≤ 1000000000000) := hide (fun k => by have := flat_le l k; simp at this ⊢; omega)
  have HCC := hide hC
  have HF := hide hf
  have HZ := hide hz
  clear hrun1 R1 RW R0 e1 b1 hr hlen hi hC hf hz
  go_enter Tryz.func27, Tryz.ntmps27
  go_wp2_with (first
    | (at_builtin; refine Lib.wpList_append_run _ rfl (.tmp 7) (.tmp 11) 22 22 rfl _ _ rfl rfl _ _ HR1.out ?_; clear HR1)
    | (go_at_call 46; refine HU.out.mono ?_; clear HU; rintro e w2 ⟨u, rfl, A1, A2⟩; obtain ⟨v3, w3, hrun, R3⟩ := HP.out _ _ A1 A2; have HR2 := hide hrun; have HR3 := hide R3; have u4 := cells_at (HB.out w3 R3.gr) 4 _ rfl; clear hrun R3 A1 A2 HP)
    | (at_builtin; refine Lib.wpList_append_run _ rfl (.tmp 49) (.tmp 54) 22 22 rfl _ _ rfl rfl _ _ HR2.out ?_; clear HR2))
  clear x0 y0 y1 y2 y3 y4 u4 hW
  go_loopw [0, 59] (fun b i wr => ∃ k : Nat, k ≤ l.length ∧ i = .int .i64 k ∧ RowB W L bv.ownBlock wr b (bs ++ UInt8.ofNat 5 :: (uvarint l.length ++ ((l.take k).map encV).flatten))) (fun _ i _ => l.length - (intOf i).toNat)
  case atStart => exact ⟨0, Nat.zero_le _, rfl, by simpa using HR3.out⟩
  case round =>
    obtain ⟨k, hk, rfl, hR⟩ := hrel
    by_cases hlt : k < l.length
    · obtain ⟨b1, o1, s1, rfl, g1, p0, p1, p2, p3, p4, p5, p6⟩ := (HI.out.grownO hR.gr hbv (by omega)).item k hlt
      have gz := hR.gr.size
      have l1 : b1 < wr.heap.size := by omega
      have HC := hide (fun (U : World) (b : Below wr.heap.size wr U) => HCC.out l[k] U B L s1 _ _ (HF.out _ (List.getElem_mem hlt)) p6 (HZ.out _ (List.getElem_mem hlt)) hBL (by have := b.size; omega) (p5.below (b.mono (by omega))) (hR.below b).row (by have := HLEN.out (k + 1); rw [flat_take l k hlt] at this; simp at this ⊢; omega))
      have HM := hide (fun (U U' : World) (v' : Value) (b : Below wr.heap.size wr U) (r : RowB U L _ U' v' (bs ++ UInt8.ofNat 5 :: (uvarint l.length ++ ((l.take k).map encV).flatten) ++ encV l[k])) => (show RowB W L bv.ownBlock U' v' (bs ++ UInt8.ofNat 5 :: (uvarint l.length ++ ((l.take (k + 1)).map encV).flatten)) from by rw [flat_take l k hlt]; have := (hR.below b).more r; simpa using this))
      obtain ⟨xx1, yy1, rfl, _⟩ := p5.len
      clear p5 p6 g1 hR gz
      generalize l[k].items = xi at *
      generalize l[k] = x at *
      go_wp2_with (go_at_call 27; refine (HC.out _ (alloc_v (Below.refl _ _) _)).mono ?_; clear HC; rintro e w5 ⟨v5, rfl, r5⟩; have R5 := hide (HM.out _ _ _ (alloc_v (Below.refl _ _) _) r5); clear r5 HM)
      go_roundw
      case rel => exact ⟨k + 1, by omega, by go_num, R5.out⟩
      case measure => simp [intOf]; omega
    · rw [List.take_of_length_le (by omega)] at hR
      have HR := hide (HEND.out _ _ _ hR)
      clear hR
      go_wp2
      go_ret
      refine ⟨_, rfl, ?_⟩
      rw [HE.out]
      simpa using HR.out
set_option maxRecDepth 100000 in
set_option maxHeartbeats 1000000 in
theorem enc_list6 (a : Option Addr) (c : Nat) (w : World) (L : Nat) (i m : Int) (t : ByteArray) (l : List Vl) {n B : Nat} (hC : EncC n) (hBL : B ≤ L) (hi : ItemsAt w B (n + 1) (.slice a l.length c) l) (hf : ∀ x ∈ l, formV x = true) (hz : ∀ x ∈ l, x.size ≤ 1000000000) (hll : l.length ≤ 1000000000) (bv : Value) (bs : List UInt8) (hok : (⟨6, i, m, t, l⟩ : Vl).ok) (hL : L ≤ w.heap.size) (hr : w.ownsRow L 5 1 bv bs.length (cellsOf bs)) (hn : bs.length + (encV ⟨6, i, m, t, l⟩).length ≤ 1000000000000) :
    Calls Tryz.prog 27 #[bv, .agg (vcells ⟨6, i, m, t, l⟩ (.slice a l.length c))] w fun e w' => ∃ v', e = .returned v' ∧ RowB w L bv.ownBlock w' v' (bs ++ encV ⟨6, i, m, t, l⟩) := by
  obtain ⟨W, hW⟩ : ∃ W, w.alloc (.cells (vcells ⟨6, i, m, t, l⟩ (.slice a l.length c)) 26) = W := ⟨_, rfl⟩
  have bW : Below w.heap.size w W := by rw [← hW]; exact alloc_v (Below.refl _ _) _
  have e1 : W.heap[w.heap.size]? = some (.cells (vcells ⟨6, i, m, t, l⟩ (.slice a l.length c)) 26 (0, 0)) := by rw [← hW]; exact World.alloc_heap_new w _
  have zW : w.heap.size < W.heap.size := (Array.getElem?_eq_some_iff.1 e1).1
  have x0 := cells_at e1 0 _ rfl
  have hne : some w.heap.size ≠ bv.ownBlock := fun e => by have := (hr.lt _ e.symm).2; omega
  have HB := hide (fun (U : World) (g : W.grownBy U bv.ownBlock) => (g.block _ zW hne).trans e1)
  have R0 := (RowB.start hr).below bW
  have RW : RowB W L bv.ownBlock W bv bs := RowB.start (R0.row)
  have hLW : L ≤ W.heap.size := by omega
  have HE := hide (encV_eq ⟨6, i, m, t, l⟩)
  simp only at HE
  have hlen := congrArg List.length HE.out
  obtain ⟨ok1, ⟨ok2, ok3⟩, ok4, ok5⟩ := hok
  simp only at ok1 ok2 ok3 ok4 ok5
  have HEND := hide (fun (U : World) (v' : Value) (cs : List UInt8) (k : RowB W L bv.ownBlock U v' cs) => R0.more k)
  simp at hlen
  obtain ⟨v1, w1, hrun1, R1⟩ := RW.pushByte hLW (UInt8.ofNat 6) 6 rfl (by omega) 22
  have b1 := HB.out w1 R1.gr
  have y0 := cells_at b1 0 _ rfl
  have y1 := cells_at b1 1 _ rfl
  have y2 := cells_at b1 2 _ rfl
  have y3 := cells_at b1 3 _ rfl
  have y4 := cells_at b1 4 _ rfl
  have zw1 : w.heap.size < w1.heap.size := (Array.getElem?_eq_some_iff.1 b1).1
  have HR1 := hide hrun1
  have HU := hide (uvarint_at ((l.length : Nat) : Int) l.length rfl (by omega) w1)
  have HP := hide (fun (w2 : World) (u : Value) (hu : w2.ownsRow w1.heap.size 5 1 u (uvarint l.length).length (cellsOf (uvarint l.length))) (hb : Below w1.heap.size w1 w2) => R1.pushRow hLW hu hb (uvarint_pos _) (by simp; omega) 22)
  have HI := hide (hi.below (bW.mono (show B ≤ w.heap.size by omega)))
  have hbv : ∀ k, bv.ownBlock = some k → B ≤ k := fun k e => by have := (hr.lt k e).1; omega
  have HLEN : Hid (∀ k, (bs ++ UInt8.ofNat 6 :: (uvarint l.length ++ ((l.take k).map encV).flatten)).length ≤ 1000000000000) := hide (fun k => by have := flat_le l k; simp at this ⊢; omega)
  have HCC := hide hC
  have HF := hide hf
  have HZ := hide hz
  clear hrun1 R1 RW R0 e1 b1 hr hlen hi hC hf hz
  go_enter Tryz.func27, Tryz.ntmps27
  go_wp2_with (first
    | (at_builtin; refine Lib.wpList_append_run _ rfl (.tmp 7) (.tmp 11) 22 22 rfl _ _ rfl rfl _ _ HR1.out ?_; clear HR1)
    | (go_at_call 46; refine HU.out.mono ?_; clear HU; rintro e w2 ⟨u, rfl, A1, A2⟩; obtain ⟨v3, w3, hrun, R3⟩ := HP.out _ _ A1 A2; have HR2 := hide hrun; have HR3 := hide R3; have u4 := cells_at (HB.out w3 R3.gr) 4 _ rfl; clear hrun R3 A1 A2 HP)
    | (at_builtin; refine Lib.wpList_append_run _ rfl (.tmp 49) (.tmp 54) 22 22 rfl _ _ rfl rfl _ _ HR2.out ?_; clear HR2))
  clear x0 y0 y1 y2 y3 y4 u4 hW
  go_loopw [0, 59] (fun b i wr => ∃ k : Nat, k ≤ l.length ∧ i = .int .i64 k ∧ RowB W L bv.ownBlock wr b (bs ++ UInt8.ofNat 6 :: (uvarint l.length ++ ((l.take k).map encV).flatten))) (fun _ i _ => l.length - (intOf i).toNat)
  case atStart => exact ⟨0, Nat.zero_le _, rfl, by simpa using HR3.out⟩
  case round =>
    obtain ⟨k, hk, rfl, hR⟩ := hrel
    by_cases hlt : k < l.length
    · obtain ⟨b1, o1, s1, rfl, g1, p0, p1, p2, p3, p4, p5, p6⟩ := (HI.out.grownO hR.gr hbv (by omega)).item k hlt
      have gz := hR.gr.size
      have l1 : b1 < wr.heap.size := by omega
      have HC := hide (fun (U : World) (b : Below wr.heap.size wr U) => HCC.out l[k] U B L s1 _ _ (HF.out _ (List.getElem_mem hlt)) p6 (HZ.out _ (List.getElem_mem hlt)) hBL (by have := b.size; omega) (p5.below (b.mono (by omega))) (hR.below b).row (by have := HLEN.out (k + 1); rw [flat_take l k hlt] at this; simp at this ⊢; omega))
      have HM := hide (fun (U U' : World) (v' : Value) (b : Below wr.heap.size wr U) (r : RowB U L _ U' v' (bs ++ UInt8.ofNat 6 :: (uvarint l.length ++ ((l.take k).map encV).flatten) ++ encV l[k])) => (show RowB W L bv.ownBlock U' v' (bs ++ UInt8.ofNat 6 :: (uvarint l.length ++ ((l.take (k + 1)).map encV).flatten)) from by rw [flat_take l k hlt]; have := (hR.below b).more r; simpa using this))
      obtain ⟨xx1, yy1, rfl, _⟩ := p5.len
      clear p5 p6 g1 hR gz
      generalize l[k].items = xi at *
      generalize l[k] = x at *
      go_wp2_with (go_at_call 27; refine (HC.out _ (alloc_v (Below.refl _ _) _)).mono ?_; clear HC; rintro e w5 ⟨v5, rfl, r5⟩; have R5 := hide (HM.out _ _ _ (alloc_v (Below.refl _ _) _) r5); clear r5 HM)
      go_roundw
      case rel => exact ⟨k + 1, by omega, by go_num, R5.out⟩
      case measure => simp [intOf]; omega
    · rw [List.take_of_length_le (by omega)] at hR
      have HR := hide (HEND.out _ _ _ hR)
      clear hR
      go_wp2
      go_ret
      refine ⟨_, rfl, ?_⟩
      rw [HE.out]
      simpa using HR.out
set_option maxRecDepth 100000 in
set_option maxHeartbeats 1000000 in
theorem enc_list7 (a : Option Addr) (c : Nat) (w : World) (L : Nat) (i m : Int) (t : ByteArray) (l : List Vl) {n B : Nat} (hC : EncC n) (hBL : B ≤ L) (hi : ItemsAt w B (n + 1) (.slice a l.length c) l) (hf : ∀ x ∈ l, formV x = true) (hz : ∀ x ∈ l, x.size ≤ 1000000000) (hll : l.length ≤ 1000000000) (bv : Value) (bs : List UInt8) (hok : (⟨7, i, m, t, l⟩ : Vl).ok) (hL : L ≤ w.heap.size) (hr : w.ownsRow L 5 1 bv bs.length (cellsOf bs)) (hn : bs.length + (encV ⟨7, i, m, t, l⟩).length ≤ 1000000000000) :
    Calls Tryz.prog 27 #[bv, .agg (vcells ⟨7, i, m, t, l⟩ (.slice a l.length c))] w fun e w' => ∃ v', e = .returned v' ∧ RowB w L bv.ownBlock w' v' (bs ++ encV ⟨7, i, m, t, l⟩) := by
  obtain ⟨W, hW⟩ : ∃ W, w.alloc (.cells (vcells ⟨7, i, m, t, l⟩ (.slice a l.length c)) 26) = W := ⟨_, rfl⟩
  have bW : Below w.heap.size w W := by rw [← hW]; exact alloc_v (Below.refl _ _) _
  have e1 : W.heap[w.heap.size]? = some (.cells (vcells ⟨7, i, m, t, l⟩ (.slice a l.length c)) 26 (0, 0)) := by rw [← hW]; exact World.alloc_heap_new w _
  have zW : w.heap.size < W.heap.size := (Array.getElem?_eq_some_iff.1 e1).1
  have x0 := cells_at e1 0 _ rfl
  have hne : some w.heap.size ≠ bv.ownBlock := fun e => by have := (hr.lt _ e.symm).2; omega
  have HB := hide (fun (U : World) (g : W.grownBy U bv.ownBlock) => (g.block _ zW hne).trans e1)
  have R0 := (RowB.start hr).below bW
  have RW : RowB W L bv.ownBlock W bv bs := RowB.start (R0.row)
  have hLW : L ≤ W.heap.size := by omega
  have HE := hide (encV_eq ⟨7, i, m, t, l⟩)
  simp only at HE
  have hlen := congrArg List.length HE.out
  obtain ⟨ok1, ⟨ok2, ok3⟩, ok4, ok5⟩ := hok
  simp only at ok1 ok2 ok3 ok4 ok5
  have HEND := hide (fun (U : World) (v' : Value) (cs : List UInt8) (k : RowB W L bv.ownBlock U v' cs) => R0.more k)
  simp at hlen
  obtain ⟨v1, w1, hrun1, R1⟩ := RW.pushByte hLW (UInt8.ofNat 7) 7 rfl (by omega) 22
  have b1 := HB.out w1 R1.gr
  have y0 := cells_at b1 0 _ rfl
  have y1 := cells_at b1 1 _ rfl
  have y2 := cells_at b1 2 _ rfl
  have y3 := cells_at b1 3 _ rfl
  have y4 := cells_at b1 4 _ rfl
  have zw1 : w.heap.size < w1.heap.size := (Array.getElem?_eq_some_iff.1 b1).1
  have HR1 := hide hrun1
  have HU := hide (uvarint_at ((l.length : Nat) : Int) l.length rfl (by omega) w1)
  have HP := hide (fun (w2 : World) (u : Value) (hu : w2.ownsRow w1.heap.size 5 1 u (uvarint l.length).length (cellsOf (uvarint l.length))) (hb : Below w1.heap.size w1 w2) => R1.pushRow hLW hu hb (uvarint_pos _) (by simp; omega) 22)
  have HI := hide (hi.below (bW.mono (show B ≤ w.heap.size by omega)))
  have hbv : ∀ k, bv.ownBlock = some k → B ≤ k := fun k e => by have := (hr.lt k e).1; omega
  have HLEN : Hid (∀ k, (bs ++ UInt8.ofNat 7 :: (uvarint l.length ++ ((l.take k).map encV).flatten)).length ≤ 1000000000000) := hide (fun k => by have := flat_le l k; simp at this ⊢; omega)
  have HCC := hide hC
  have HF := hide hf
  have HZ := hide hz
  clear hrun1 R1 RW R0 e1 b1 hr hlen hi hC hf hz
  go_enter Tryz.func27, Tryz.ntmps27
  go_wp2_with (first
    | (at_builtin; refine Lib.wpList_append_run _ rfl (.tmp 7) (.tmp 11) 22 22 rfl _ _ rfl rfl _ _ HR1.out ?_; clear HR1)
    | (go_at_call 46; refine HU.out.mono ?_; clear HU; rintro e w2 ⟨u, rfl, A1, A2⟩; obtain ⟨v3, w3, hrun, R3⟩ := HP.out _ _ A1 A2; have HR2 := hide hrun; have HR3 := hide R3; have u4 := cells_at (HB.out w3 R3.gr) 4 _ rfl; clear hrun R3 A1 A2 HP)
    | (at_builtin; refine Lib.wpList_append_run _ rfl (.tmp 49) (.tmp 54) 22 22 rfl _ _ rfl rfl _ _ HR2.out ?_; clear HR2))
  clear x0 y0 y1 y2 y3 y4 u4 hW
  go_loopw [0, 59] (fun b i wr => ∃ k : Nat, k ≤ l.length ∧ i = .int .i64 k ∧ RowB W L bv.ownBlock wr b (bs ++ UInt8.ofNat 7 :: (uvarint l.length ++ ((l.take k).map encV).flatten))) (fun _ i _ => l.length - (intOf i).toNat)
  case atStart => exact ⟨0, Nat.zero_le _, rfl, by simpa using HR3.out⟩
  case round =>
    obtain ⟨k, hk, rfl, hR⟩ := hrel
    by_cases hlt : k < l.length
    · obtain ⟨b1, o1, s1, rfl, g1, p0, p1, p2, p3, p4, p5, p6⟩ := (HI.out.grownO hR.gr hbv (by omega)).item k hlt
      have gz := hR.gr.size
      have l1 : b1 < wr.heap.size := by omega
      have HC := hide (fun (U : World) (b : Below wr.heap.size wr U) => HCC.out l[k] U B L s1 _ _ (HF.out _ (List.getElem_mem hlt)) p6 (HZ.out _ (List.getElem_mem hlt)) hBL (by have := b.size; omega) (p5.below (b.mono (by omega))) (hR.below b).row (by have := HLEN.out (k + 1); rw [flat_take l k hlt] at this; simp at this ⊢; omega))
      have HM := hide (fun (U U' : World) (v' : Value) (b : Below wr.heap.size wr U) (r : RowB U L _ U' v' (bs ++ UInt8.ofNat 7 :: (uvarint l.length ++ ((l.take k).map encV).flatten) ++ encV l[k])) => (show RowB W L bv.ownBlock U' v' (bs ++ UInt8.ofNat 7 :: (uvarint l.length ++ ((l.take (k + 1)).map encV).flatten)) from by rw [flat_take l k hlt]; have := (hR.below b).more r; simpa using this))
      obtain ⟨xx1, yy1, rfl, _⟩ := p5.len
      clear p5 p6 g1 hR gz
      generalize l[k].items = xi at *
      generalize l[k] = x at *
      go_wp2_with (go_at_call 27; refine (HC.out _ (alloc_v (Below.refl _ _) _)).mono ?_; clear HC; rintro e w5 ⟨v5, rfl, r5⟩; have R5 := hide (HM.out _ _ _ (alloc_v (Below.refl _ _) _) r5); clear r5 HM)
      go_roundw
      case rel => exact ⟨k + 1, by omega, by go_num, R5.out⟩
      case measure => simp [intOf]; omega
    · rw [List.take_of_length_le (by omega)] at hR
      have HR := hide (HEND.out _ _ _ hR)
      clear hR
      go_wp2
      go_ret
      refine ⟨_, rfl, ?_⟩
      rw [HE.out]
      simpa using HR.out
theorem form_parts {v : Vl} (h : formV v = true) : (usedB v = true ∧ goodB v = true) ∧ ∀ x ∈ v.items, formV x = true := by
  rw [formV_eq, Bool.and_eq_true, Bool.and_eq_true, Bool.and_eq_true] at h
  exact ⟨h.1, fun x hx => List.all_eq_true.1 h.2.1 x hx⟩
theorem enc_k : ∀ n, EncC n
  | 0 => fun _ _ _ _ _ _ _ _ _ _ _ _ h _ _ => h.elim
  | n + 1 => fun v w B L sl bv bs hf hok hz hBL hL hi hr hn => by
    obtain ⟨⟨hu, hg⟩, hall⟩ := form_parts hf
    obtain ⟨a, c, rfl, _⟩ := hi.len
    have hsz : ∀ x ∈ v.items, x.size ≤ 1000000000 := fun x hx => by have := Vl.size_item hx; omega
    have hll : v.items.length ≤ 1000000000 := by have := size_len v; omega
    obtain ⟨k, i, m, t, l⟩ := v
    unfold goodB at hg
    simp only at *
    split at hg
    · rename_i h
      rcases h with rfl | rfl | rfl | rfl
      · exact enc_int i m t l a c w L bv bs hok hL hr hn
      · exact enc_list5 a c w L i m t l (enc_k n) hBL hi hall hsz hll bv bs hok hL hr hn
      · exact enc_list6 a c w L i m t l (enc_k n) hBL hi hall hsz hll bv bs hok hL hr hn
      · exact enc_list7 a c w L i m t l (enc_k n) hBL hi hall hsz hll bv bs hok hL hr hn
    · split at hg
      · rename_i h
        subst h
        exact enc_bool i m t l (by simpa using hg) a c w L bv bs hok hL hr hn
      · split at hg
        · rename_i h
          subst h
          exact enc_sym i m t l a c w L bv bs hok hL hr hn
        · split at hg
          · rename_i h
            subst h
            exact enc_gauss i m t l a c w L bv bs hok hL hr hn
          · cases hg
end Go.Proofs.YtngnlofjjlkcmaaGreatDoor
