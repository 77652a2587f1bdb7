/- encoded and Encode: the bytes of a value. -/
import Derived.Test.YthmhcpghfbifiaaGreatDoorZVCopied
import Derived.Test.YthmhcpghfbifiaaGreatDoorGVFO
import Derived.Test.YthmhcpghfbifiaaGreatDoorGOctet
import Derived.Laws.Concat
namespace Go.Proofs.YthmhcpghfbifiaaGreatDoor
open Go.RowKit
open Go.Lib (uvarint uvarint_pos)

/-- The bytes of a value; n bounds how deep. -/
def encF : Nat → Vl → List UInt8
  | 0, _ => []
  | n + 1, v => UInt8.ofNat v.kind.toNat :: (if v.kind = 1 then [UInt8.ofNat v.int.toNat] else if v.kind = 2 then uvarint (zz v.int) else if v.kind = 3 then uvarint (zz v.int) ++ uvarint (zz v.im) else if v.kind = 4 then txt v.text
      else uvarint v.items.length ++ (v.items.map (encF n)).flatten)
def encV (v : Vl) : List UInt8 := encF v.size v
theorem encF_more (n : Nat) : ∀ (m : Nat) (v : Vl), v.size ≤ n → n ≤ m → encF m v = encF n v := by
  induction n with
  | zero => intro m v h _; have := v.size_pos; omega
  | succ n ih =>
    intro m v h hm
    cases m with
    | zero => omega
    | succ m =>
      have e : v.items.map (encF m) = v.items.map (encF n) := List.map_congr_left fun x hx => ih m x (by have := Vl.size_item hx; omega) (by omega)
      rw [encF, encF, e]
theorem encV_eq (v : Vl) : encV v = UInt8.ofNat v.kind.toNat :: (if v.kind = 1 then [UInt8.ofNat v.int.toNat] else if v.kind = 2 then uvarint (zz v.int) else if v.kind = 3 then uvarint (zz v.int) ++ uvarint (zz v.im) else if v.kind = 4 then txt v.text
      else uvarint v.items.length ++ (v.items.map encV).flatten) := by
  have h0 := v.size_pos
  unfold encV
  obtain ⟨n, hn⟩ : ∃ n, v.size = n + 1 := ⟨v.size - 1, by omega⟩
  have e : v.items.map (encF n) = v.items.map (fun v => encF v.size v) := List.map_congr_left fun x hx => encF_more x.size n x (Nat.le_refl _) (by have := Vl.size_item hx; omega)
  rw [hn, encF, e]

/-- A row of bytes of one's own, put together since the world X. -/
structure RowB (X : World) (L : Nat) (g0 : Option Nat) (w : World) (v : Value) (bs : List UInt8) : Prop where
  row : w.ownsRow L 5 1 v bs.length (cellsOf bs)
  gr : X.grownBy w g0
  own : v.ownBlock = g0 ∨ ∀ k, v.ownBlock = some k → X.heap.size ≤ k
theorem RowB.start {X : World} {L : Nat} {v : Value} {bs : List UInt8} (h : X.ownsRow L 5 1 v bs.length (cellsOf bs)) : RowB X L v.ownBlock X v bs := ⟨h, grown_self _ _, .inl rfl⟩
theorem RowB.below {X w w' : World} {L : Nat} {g0 : Option Nat} {v : Value} {bs : List UInt8} (h : RowB X L g0 w v bs) (hb : Below w.heap.size w w') : RowB X L g0 w' v bs :=
  ⟨h.row.kept (grown_of_below (r := none) hb) (by cases v.ownBlock <;> simp), grown_more h.gr (grown_of_below hb), h.own⟩
/-- Two such ways, one behind the other. -/
theorem RowB.more {X w w' : World} {L : Nat} {g0 : Option Nat} {v v' : Value} {bs cs : List UInt8} (h : RowB X L g0 w v bs) (k : RowB w L v.ownBlock w' v' cs) : RowB X L g0 w' v' cs := by
  have hz := h.gr.size
  refine ⟨k.row, ⟨k.gr.os.trans h.gr.os, k.gr.tape.trans h.gr.tape, k.gr.output.trans h.gr.output, Nat.le_trans hz k.gr.size, fun j hj hne => ?_⟩, ?_⟩
  · refine (k.gr.block j (by omega) (fun e => ?_)).trans (h.gr.block j hj hne)
    rcases h.own with o | o
    · exact hne (e.trans o)
    · have := o j e.symm
      omega
  · rcases k.own with o | o
    · rw [o]
      exact h.own
    · exact .inr fun j hj => by have := o j hj; omega
/-- Bytes that lie in memory are laid behind. -/
theorem RowB.push {X w : World} {L : Nat} {g0 : Option Nat} {v : Value} {bs : List UInt8} (h : RowB X L g0 w v bs) (hL : L ≤ X.heap.size) (ad : Addr) (c : Nat) (cs : List UInt8) (hcs : ∀ j u, (cellsOf cs)[j]? = some u → w.cell? (ad.add j) = some u) (h0 : 0 < cs.length) (hb : bs.length + cs.length ≤ 1000000000000) (ty : TypeId) :
    ∃ v' w', (Builtin.append_ #[23, 23] ty #[v, .slice (some ad) cs.length c]).run Tryz.prog w = .ok v' w' ∧ RowB X L g0 w' v' (bs ++ cs) := by
  obtain ⟨i0, hi, hz0, hz1, hz2⟩ := info_parts info_u8
  have hz := h.gr.size
  obtain ⟨g, cap, w', hrun, A1, A2, A3, A4⟩ := run_append_lies (P := Tryz.prog) w 23 ty L 5 i0 (.int .u8 0) 1 1 Tryz.underlying23 hi hz0 hz1 hz2 rfl (by decide) v bs.length (cellsOf bs) h.row ad cs.length c (cellsOf cs) (by rw [cellsOf_length]; omega) hcs (cellsOf_one cs) h0 (by unfold maxLen; omega) (by omega) (by omega) w.heap.size rfl
  refine ⟨_, w', hrun, h.more ⟨?_, A2, ?_⟩⟩
  · rw [List.length_append, show cellsOf (bs ++ cs) = cellsOf bs ++ cellsOf cs from List.map_append]
    exact A1
  · rcases A3 with A3 | A3
    · exact .inl A3.symm
    · exact .inr fun k hk => by simp only [Value.ownBlock, Option.some.injEq] at hk; omega
/-- A row that a callee made is laid behind. -/
theorem RowB.pushRow {X w w2 : World} {L : Nat} {g0 : Option Nat} {v u : Value} {bs cs : List UInt8} (h : RowB X L g0 w v bs) (hL : L ≤ X.heap.size) (hu : w2.ownsRow w.heap.size 5 1 u cs.length (cellsOf cs)) (hb : Below w.heap.size w w2) (h0 : 0 < cs.length) (hl : bs.length + cs.length ≤ 1000000000000) (ty : TypeId) :
    ∃ v' w', (Builtin.append_ #[23, 23] ty #[v, u]).run Tryz.prog w2 = .ok v' w' ∧ RowB X L g0 w' v' (bs ++ cs) := by
  obtain ⟨g, cap, rfl, _, _⟩ := hu.form h0
  refine (h.below hb).push hL ⟨g, 0, none⟩ cap cs (fun j u hj => ?_) h0 hl ty
  have hj' : j < cs.length := by have := (List.getElem?_eq_some_iff.1 hj).1; rwa [cellsOf_length] at this
  rw [Addr.add_lit, Nat.zero_add, hu.cellAt j (by omega), hj]
/-- A byte is laid behind. -/
theorem RowB.pushByte {X w : World} {L : Nat} {g0 : Option Nat} {v : Value} {bs : List UInt8} (h : RowB X L g0 w v bs) (hL : L ≤ X.heap.size) (x : UInt8) (y : Int) (hy : (x.toNat : Int) = y) (hl : bs.length + 1 ≤ 1000000000000) (ty : TypeId) :
    ∃ v' w', (Builtin.append_ #[23, 23] ty #[v, .slice (some ⟨w.heap.size, 0, none⟩) 1 1]).run Tryz.prog (w.alloc (.cells #[.int .u8 y] 5)) = .ok v' w' ∧ RowB X L g0 w' v' (bs ++ [x]) := by
  subst hy
  have e := World.alloc_heap_new w (.cells #[.int .u8 (x.toNat : Int)] 5)
  refine (h.below (alloc_v (Below.refl _ _) _)).push hL ⟨w.heap.size, 0, none⟩ 1 [x] (fun j u hj => ?_) (by simp) (by simpa using hl) ty
  rw [Addr.add_lit, Nat.zero_add]
  exact cells_at e j u (by simpa [cellsOf] using hj)
theorem ItemsAt.grownO {w w' : World} {B n : Nat} {r : Option Nat} {sl : Value} {its : List Vl} (h : ItemsAt w B n sl its) (hg : w.grownBy w' r) (hB : ∀ k, r = some k → B ≤ k) (hw : B ≤ w.heap.size) : ItemsAt w' B n sl its :=
  h.kept fun b o hb => World.cell?_of_block (hg.block b (by omega) (fun e => by have := hB b e.symm; omega))
theorem flat_take (l : List Vl) (k : Nat) (hk : k < l.length) : ((l.take (k + 1)).map encV).flatten = ((l.take k).map encV).flatten ++ encV l[k] := by
  rw [List.take_succ_eq_append_getElem hk, List.map_append, List.flatten_append]
  simp
theorem flat_le (l : List Vl) (k : Nat) : ((l.take k).map encV).flatten.length ≤ (l.map encV).flatten.length := by
  have e : l = l.take k ++ l.drop k := (List.take_append_drop k l).symm
  have : (l.map encV).flatten = ((l.take k).map encV).flatten ++ ((l.drop k).map encV).flatten := by
    rw [← List.flatten_append, ← List.map_append, List.take_append_drop]
  rw [this, List.length_append]
  omega
def EncC (n : Nat) : Prop := ∀ (v : Vl) (w : World) (B L : Nat) (sl bv : Value) (bs : List UInt8), formV v = true → v.ok → v.size ≤ 1000000000 → B ≤ L → L ≤ w.heap.size → ItemsAt w B n sl v.items → w.ownsRow L 5 1 bv bs.length (cellsOf bs) → bs.length + (encV v).length ≤ 1000000000000 →
  Calls Tryz.prog 57 #[bv, .agg (vcells v sl)] w fun e w' => ∃ v', e = .returned v' ∧ RowB w L bv.ownBlock w' v' (bs ++ encV v)
set_option maxRecDepth 100000 in
set_option maxHeartbeats 1000000 in
theorem enc_bool (i m : Int) (t : ByteArray) (l : List Vl) (hi : i = 0 ∨ i = 1) (a : Option Addr) (c : Nat) (w : World) (L : Nat) (bv : Value) (bs : List UInt8) (hok : (⟨1, i, m, t, l⟩ : Vl).ok) (hL : L ≤ w.heap.size) (hr : w.ownsRow L 5 1 bv bs.length (cellsOf bs)) (hn : bs.length + (encV ⟨1, i, m, t, l⟩).length ≤ 1000000000000) :
    Calls Tryz.prog 57 #[bv, .agg (vcells ⟨1, i, m, t, l⟩ (.slice a l.length c))] w fun e w' => ∃ v', e = .returned v' ∧ RowB w L bv.ownBlock w' v' (bs ++ encV ⟨1, i, m, t, l⟩) := by
  obtain ⟨W, hW⟩ : ∃ W, w.alloc (.cells (vcells ⟨1, i, m, t, l⟩ (.slice a l.length c)) 46) = W := ⟨_, rfl⟩
  have bW : Below w.heap.size w W := by rw [← hW]; exact alloc_v (Below.refl _ _) _
  have e1 : W.heap[w.heap.size]? = some (.cells (vcells ⟨1, i, m, t, l⟩ (.slice a l.length c)) 46 (0, 0)) := by rw [← hW]; exact World.alloc_heap_new w _
  have zW : w.heap.size < W.heap.size := (Array.getElem?_eq_some_iff.1 e1).1
  have x0 := cells_at e1 0 _ rfl
  have hne : some w.heap.size ≠ bv.ownBlock := fun e => by have := (hr.lt _ e.symm).2; omega
  have HB := hide (fun (U : World) (g : W.grownBy U bv.ownBlock) => (g.block _ zW hne).trans e1)
  have R0 := (RowB.start hr).below bW
  have RW : RowB W L bv.ownBlock W bv bs := RowB.start (R0.row)
  have hLW : L ≤ W.heap.size := by omega
  have HE := hide (encV_eq ⟨1, i, m, t, l⟩)
  simp only at HE
  have hlen := congrArg List.length HE.out
  obtain ⟨ok1, ⟨ok2, ok3⟩, ok4, ok5⟩ := hok
  simp only at ok1 ok2 ok3 ok4 ok5
  have HEND := hide (fun (U : World) (v' : Value) (cs : List UInt8) (k : RowB W L bv.ownBlock U v' cs) => R0.more k)
  simp at hlen
  obtain ⟨v1, w1, hrun1, R1⟩ := RW.pushByte hLW (UInt8.ofNat 1) 1 rfl (by omega) 23
  have b1 := HB.out w1 R1.gr
  have y0 := cells_at b1 0 _ rfl
  have y1 := cells_at b1 1 _ rfl
  have y2 := cells_at b1 2 _ rfl
  have y3 := cells_at b1 3 _ rfl
  have y4 := cells_at b1 4 _ rfl
  have zw1 : w.heap.size < w1.heap.size := (Array.getElem?_eq_some_iff.1 b1).1
  have HR1 := hide hrun1
  obtain ⟨v2, w2, hrun2, R2⟩ := R1.pushByte hLW (UInt8.ofNat i.toNat) i (by rcases hi with rfl | rfl <;> rfl) (by simp; omega) 23
  have HR2 := hide hrun2
  have HR := hide (HEND.out _ _ _ R2)
  have hib : 0 ≤ i := by omega
  have hic : i ≤ 1 := by omega
  clear hrun1 hrun2 R1 R2 RW R0 e1 b1 hr hlen HEND HB
  go_enter Tryz.func57, Tryz.ntmps57
  go_wp2_with (first | (at_builtin; refine Lib.wpList_append_run _ rfl (.tmp 7) (.tmp 11) 23 23 rfl _ _ rfl rfl _ _ HR1.out ?_; clear HR1) | (at_builtin; refine Lib.wpList_append_run _ rfl (.tmp 17) (.tmp 21) 23 23 rfl _ _ rfl rfl _ _ HR2.out ?_; clear HR2))
  go_ret
  refine ⟨_, rfl, ?_⟩
  rw [HE.out]
  simpa using HR.out
set_option maxRecDepth 100000 in
set_option maxHeartbeats 1000000 in
theorem enc_int (i m : Int) (t : ByteArray) (l : List Vl) (a : Option Addr) (c : Nat) (w : World) (L : Nat) (bv : Value) (bs : List UInt8) (hok : (⟨2, i, m, t, l⟩ : Vl).ok) (hL : L ≤ w.heap.size) (hr : w.ownsRow L 5 1 bv bs.length (cellsOf bs)) (hn : bs.length + (encV ⟨2, i, m, t, l⟩).length ≤ 1000000000000) :
    Calls Tryz.prog 57 #[bv, .agg (vcells ⟨2, i, m, t, l⟩ (.slice a l.length c))] w fun e w' => ∃ v', e = .returned v' ∧ RowB w L bv.ownBlock w' v' (bs ++ encV ⟨2, i, m, t, l⟩) := by
  obtain ⟨W, hW⟩ : ∃ W, w.alloc (.cells (vcells ⟨2, i, m, t, l⟩ (.slice a l.length c)) 46) = W := ⟨_, rfl⟩
  have bW : Below w.heap.size w W := by rw [← hW]; exact alloc_v (Below.refl _ _) _
  have e1 : W.heap[w.heap.size]? = some (.cells (vcells ⟨2, i, m, t, l⟩ (.slice a l.length c)) 46 (0, 0)) := by rw [← hW]; exact World.alloc_heap_new w _
  have zW : w.heap.size < W.heap.size := (Array.getElem?_eq_some_iff.1 e1).1
  have x0 := cells_at e1 0 _ rfl
  have hne : some w.heap.size ≠ bv.ownBlock := fun e => by have := (hr.lt _ e.symm).2; omega
  have HB := hide (fun (U : World) (g : W.grownBy U bv.ownBlock) => (g.block _ zW hne).trans e1)
  have R0 := (RowB.start hr).below bW
  have RW : RowB W L bv.ownBlock W bv bs := RowB.start (R0.row)
  have hLW : L ≤ W.heap.size := by omega
  have HE := hide (encV_eq ⟨2, i, m, t, l⟩)
  simp only at HE
  have hlen := congrArg List.length HE.out
  obtain ⟨ok1, ⟨ok2, ok3⟩, ok4, ok5⟩ := hok
  simp only at ok1 ok2 ok3 ok4 ok5
  have HEND := hide (fun (U : World) (v' : Value) (cs : List UInt8) (k : RowB W L bv.ownBlock U v' cs) => R0.more k)
  simp at hlen
  obtain ⟨v1, w1, hrun1, R1⟩ := RW.pushByte hLW (UInt8.ofNat 2) 2 rfl (by omega) 23
  have b1 := HB.out w1 R1.gr
  have y0 := cells_at b1 0 _ rfl
  have y1 := cells_at b1 1 _ rfl
  have y2 := cells_at b1 2 _ rfl
  have y3 := cells_at b1 3 _ rfl
  have y4 := cells_at b1 4 _ rfl
  have zw1 : w.heap.size < w1.heap.size := (Array.getElem?_eq_some_iff.1 b1).1
  have HR1 := hide hrun1
  have HV := hide (varint_any i ok2 ok3 w1)
  have HP := hide (fun (w2 : World) (u : Value) (hu : w2.ownsRow w1.heap.size 5 1 u (uvarint (zz i)).length (cellsOf (uvarint (zz i)))) (hb : Below w1.heap.size w1 w2) => R1.pushRow hLW hu hb (uvarint_pos _) (by simp; omega) 23)
  clear hrun1 R1 RW R0 e1 b1 hr hlen HB
  go_enter Tryz.func57, Tryz.ntmps57
  go_wp2_with (first
    | (at_builtin; refine Lib.wpList_append_run _ rfl (.tmp 7) (.tmp 11) 23 23 rfl _ _ rfl rfl _ _ HR1.out ?_; clear HR1)
    | (go_at_call 78; refine HV.out.mono ?_; clear HV; rintro e w2 ⟨u, rfl, A1, A2⟩; obtain ⟨v3, w3, hrun, R3⟩ := HP.out _ _ A1 A2; have HR2 := hide hrun; have HR := hide (HEND.out _ _ _ R3); clear hrun R3 A1 A2 HP)
    | (at_builtin; refine Lib.wpList_append_run _ rfl (.tmp 25) (.tmp 28) 23 23 rfl _ _ rfl rfl _ _ HR2.out ?_; clear HR2))
  go_ret
  refine ⟨_, rfl, ?_⟩
  rw [HE.out]
  simpa using HR.out
set_option maxRecDepth 100000 in
set_option maxHeartbeats 1000000 in
theorem enc_gauss (i m : Int) (t : ByteArray) (l : List Vl) (a : Option Addr) (c : Nat) (w : World) (L : Nat) (bv : Value) (bs : List UInt8) (hok : (⟨3, i, m, t, l⟩ : Vl).ok) (hL : L ≤ w.heap.size) (hr : w.ownsRow L 5 1 bv bs.length (cellsOf bs)) (hn : bs.length + (encV ⟨3, i, m, t, l⟩).length ≤ 1000000000000) :
    Calls Tryz.prog 57 #[bv, .agg (vcells ⟨3, i, m, t, l⟩ (.slice a l.length c))] w fun e w' => ∃ v', e = .returned v' ∧ RowB w L bv.ownBlock w' v' (bs ++ encV ⟨3, i, m, t, l⟩) := by
  obtain ⟨W, hW⟩ : ∃ W, w.alloc (.cells (vcells ⟨3, i, m, t, l⟩ (.slice a l.length c)) 46) = W := ⟨_, rfl⟩
  have bW : Below w.heap.size w W := by rw [← hW]; exact alloc_v (Below.refl _ _) _
  have e1 : W.heap[w.heap.size]? = some (.cells (vcells ⟨3, i, m, t, l⟩ (.slice a l.length c)) 46 (0, 0)) := by rw [← hW]; exact World.alloc_heap_new w _
  have zW : w.heap.size < W.heap.size := (Array.getElem?_eq_some_iff.1 e1).1
  have x0 := cells_at e1 0 _ rfl
  have hne : some w.heap.size ≠ bv.ownBlock := fun e => by have := (hr.lt _ e.symm).2; omega
  have HB := hide (fun (U : World) (g : W.grownBy U bv.ownBlock) => (g.block _ zW hne).trans e1)
  have R0 := (RowB.start hr).below bW
  have RW : RowB W L bv.ownBlock W bv bs := RowB.start (R0.row)
  have hLW : L ≤ W.heap.size := by omega
  have HE := hide (encV_eq ⟨3, i, m, t, l⟩)
  simp only at HE
  have hlen := congrArg List.length HE.out
  obtain ⟨ok1, ⟨ok2, ok3⟩, ok4, ok5⟩ := hok
  simp only at ok1 ok2 ok3 ok4 ok5
  have HEND := hide (fun (U : World) (v' : Value) (cs : List UInt8) (k : RowB W L bv.ownBlock U v' cs) => R0.more k)
  simp at hlen
  obtain ⟨v1, w1, hrun1, R1⟩ := RW.pushByte hLW (UInt8.ofNat 3) 3 rfl (by omega) 23
  have b1 := HB.out w1 R1.gr
  have y0 := cells_at b1 0 _ rfl
  have y1 := cells_at b1 1 _ rfl
  have y2 := cells_at b1 2 _ rfl
  have y3 := cells_at b1 3 _ rfl
  have y4 := cells_at b1 4 _ rfl
  have zw1 : w.heap.size < w1.heap.size := (Array.getElem?_eq_some_iff.1 b1).1
  have HR1 := hide hrun1
  have HV := hide (varint_any i ok2 ok3 w1)
  have HM := hide (fun U => varint_any m ok4 ok5 U)
  have HP := hide (fun (w2 : World) (u : Value) (hu : w2.ownsRow w1.heap.size 5 1 u (uvarint (zz i)).length (cellsOf (uvarint (zz i)))) (hb : Below w1.heap.size w1 w2) => R1.pushRow hLW hu hb (uvarint_pos _) (by simp; omega) 23)
  have HQ := hide (fun (w3 w4 : World) (v3 u : Value) (R3 : RowB W L bv.ownBlock w3 v3 (bs ++ [UInt8.ofNat 3] ++ uvarint (zz i))) (hu : w4.ownsRow w3.heap.size 5 1 u (uvarint (zz m)).length (cellsOf (uvarint (zz m)))) (hb : Below w3.heap.size w3 w4) => R3.pushRow hLW hu hb (uvarint_pos _) (by simp; omega) 23)
  clear hrun1 R1 RW R0 e1 b1 hr hlen
  go_enter Tryz.func57, Tryz.ntmps57
  go_wp2_with (first
    | (at_builtin; refine Lib.wpList_append_run _ rfl (.tmp 7) (.tmp 11) 23 23 rfl _ _ rfl rfl _ _ HR1.out ?_; clear HR1)
    | (go_at_call 78; refine HV.out.mono ?_; clear HV; rintro e w2 ⟨u, rfl, A1, A2⟩; obtain ⟨v3, w3, hrun, R3⟩ := HP.out _ _ A1 A2; have HR2 := hide hrun; have HR3 := hide R3; have u2 := cells_at (HB.out w3 R3.gr) 2 _ rfl; clear hrun R3 A1 A2 HP)
    | (at_builtin; refine Lib.wpList_append_run _ rfl (.tmp 32) (.tmp 35) 23 23 rfl _ _ rfl rfl _ _ HR2.out ?_; clear HR2)
    | (go_at_call 78; refine (HM.out _).mono ?_; clear HM; rintro e w4 ⟨u4, rfl, A1, A2⟩; obtain ⟨v5, w5, hrun, R5⟩ := HQ.out _ _ _ _ HR3.out A1 A2; have HR4 := hide hrun; have HR := hide (HEND.out _ _ _ R5); clear hrun R5 A1 A2 HQ)
    | (at_builtin; refine Lib.wpList_append_run _ rfl (.tmp 37) (.tmp 40) 23 23 rfl _ _ rfl rfl _ _ HR4.out ?_; clear HR4))
  go_ret
  refine ⟨_, rfl, ?_⟩
  rw [HE.out]
  simpa using HR.out
set_option maxRecDepth 100000 in
set_option maxHeartbeats 1000000 in
theorem enc_sym (i m : Int) (t : ByteArray) (l : List Vl) (a : Option Addr) (c : Nat) (w : World) (L : Nat) (bv : Value) (bs : List UInt8) (hok : (⟨4, i, m, t, l⟩ : Vl).ok) (hL : L ≤ w.heap.size) (hr : w.ownsRow L 5 1 bv bs.length (cellsOf bs)) (hn : bs.length + (encV ⟨4, i, m, t, l⟩).length ≤ 1000000000000) :
    Calls Tryz.prog 57 #[bv, .agg (vcells ⟨4, i, m, t, l⟩ (.slice a l.length c))] w fun e w' => ∃ v', e = .returned v' ∧ RowB w L bv.ownBlock w' v' (bs ++ encV ⟨4, i, m, t, l⟩) := by
  obtain ⟨W, hW⟩ : ∃ W, w.alloc (.cells (vcells ⟨4, i, m, t, l⟩ (.slice a l.length c)) 46) = W := ⟨_, rfl⟩
  have bW : Below w.heap.size w W := by rw [← hW]; exact alloc_v (Below.refl _ _) _
  have e1 : W.heap[w.heap.size]? = some (.cells (vcells ⟨4, i, m, t, l⟩ (.slice a l.length c)) 46 (0, 0)) := by rw [← hW]; exact World.alloc_heap_new w _
  have zW : w.heap.size < W.heap.size := (Array.getElem?_eq_some_iff.1 e1).1
  have x0 := cells_at e1 0 _ rfl
  have hne : some w.heap.size ≠ bv.ownBlock := fun e => by have := (hr.lt _ e.symm).2; omega
  have HB := hide (fun (U : World) (g : W.grownBy U bv.ownBlock) => (g.block _ zW hne).trans e1)
  have R0 := (RowB.start hr).below bW
  have RW : RowB W L bv.ownBlock W bv bs := RowB.start (R0.row)
  have hLW : L ≤ W.heap.size := by omega
  have HE := hide (encV_eq ⟨4, i, m, t, l⟩)
  simp only at HE
  have hlen := congrArg List.length HE.out
  obtain ⟨ok1, ⟨ok2, ok3⟩, ok4, ok5⟩ := hok
  simp only at ok1 ok2 ok3 ok4 ok5
  have HEND := hide (fun (U : World) (v' : Value) (cs : List UInt8) (k : RowB W L bv.ownBlock U v' cs) => R0.more k)
  simp at hlen
  obtain ⟨v1, w1, hrun1, R1⟩ := RW.pushByte hLW (UInt8.ofNat 4) 4 rfl (by omega) 23
  have b1 := HB.out w1 R1.gr
  have y0 := cells_at b1 0 _ rfl
  have y1 := cells_at b1 1 _ rfl
  have y2 := cells_at b1 2 _ rfl
  have y3 := cells_at b1 3 _ rfl
  have y4 := cells_at b1 4 _ rfl
  have zw1 : w.heap.size < w1.heap.size := (Array.getElem?_eq_some_iff.1 b1).1
  have HR1 := hide hrun1
  have HV := hide (text_any t (by omega) w1)
  have ht0 : 0 < (txt t).length := by unfold txt; have := uvarint_pos t.size; rw [List.length_append]; omega
  have HP := hide (fun (w2 : World) (u : Value) (hu : w2.ownsRow w1.heap.size 5 1 u (txt t).length (cellsOf (txt t))) (hb : Below w1.heap.size w1 w2) => R1.pushRow hLW hu hb ht0 (by simp; omega) 23)
  clear hrun1 R1 RW R0 e1 b1 hr hlen HB ht0
  go_enter Tryz.func57, Tryz.ntmps57
  go_wp2_with (first
    | (at_builtin; refine Lib.wpList_append_run _ rfl (.tmp 7) (.tmp 11) 23 23 rfl _ _ rfl rfl _ _ HR1.out ?_; clear HR1)
    | (go_at_call 34; refine HV.out.mono ?_; clear HV; rintro e w2 ⟨u, rfl, A1, A2⟩; obtain ⟨v3, w3, hrun, R3⟩ := HP.out _ _ A1 A2; have HR2 := hide hrun; have HR := hide (HEND.out _ _ _ R3); clear hrun R3 A1 A2 HP)
    | (at_builtin; refine Lib.wpList_append_run _ rfl (.tmp 44) (.tmp 47) 23 23 rfl _ _ rfl rfl _ _ HR2.out ?_; clear HR2))
  go_ret
  refine ⟨_, rfl, ?_⟩
  rw [HE.out]
  simpa using HR.out
set_option maxRecDepth 100000 in
set_option maxHeartbeats 1000000 in
theorem enc_list5 (a : Option Addr) (c : Nat) (w : World) (L : Nat) (i m : Int) (t : ByteArray) (l : List Vl) {n B : Nat} (hC : EncC n) (hBL : B ≤ L) (hi : ItemsAt w B (n + 1) (.slice a l.length c) l) (hf : ∀ x ∈ l, formV x = true) (hz : ∀ x ∈ l, x.size ≤ 1000000000) (hll : l.length ≤ 1000000000) (bv : Value) (bs : List UInt8) (hok : (⟨5, i, m, t, l⟩ : Vl).ok) (hL : L ≤ w.heap.size) (hr : w.ownsRow L 5 1 bv bs.length (cellsOf bs)) (hn : bs.length + (encV ⟨5, i, m, t, l⟩).length ≤ 1000000000000) :
    Calls Tryz.prog 57 #[bv, .agg (vcells ⟨5, i, m, t, l⟩ (.slice a l.length c))] w fun e w' => ∃ v', e = .returned v' ∧ RowB w L bv.ownBlock w' v' (bs ++ encV ⟨5, i, m, t, l⟩) := by
  obtain ⟨W, hW⟩ : ∃ W, w.alloc (.cells (vcells ⟨5, i, m, t, l⟩ (.slice a l.length c)) 46) = W := ⟨_, rfl⟩
  have bW : Below w.heap.size w W := by rw [← hW]; exact alloc_v (Below.refl _ _) _
  have e1 : W.heap[w.heap.size]? = some (.cells (vcells ⟨5, i, m, t, l⟩ (.slice a l.length c)) 46 (0, 0)) := by rw [← hW]; exact World.alloc_heap_new w _
  have zW : w.heap.size < W.heap.size := (Array.getElem?_eq_some_iff.1 e1).1
  have x0 := cells_at e1 0 _ rfl
  have hne : some w.heap.size ≠ bv.ownBlock := fun e => by have := (hr.lt _ e.symm).2; omega
  have HB := hide (fun (U : World) (g : W.grownBy U bv.ownBlock) => (g.block _ zW hne).trans e1)
  have R0 := (RowB.start hr).below bW
  have RW : RowB W L bv.ownBlock W bv bs := RowB.start (R0.row)
  have hLW : L ≤ W.heap.size := by omega
  have HE := hide (encV_eq ⟨5, i, m, t, l⟩)
  simp only at HE
  have hlen := congrArg List.length HE.out
  obtain ⟨ok1, ⟨ok2, ok3⟩, ok4, ok5⟩ := hok
  simp only at ok1 ok2 ok3 ok4 ok5
  have HEND := hide (fun (U : World) (v' : Value) (cs : List UInt8) (k : RowB W L bv.ownBlock U v' cs) => R0.more k)
  simp at hlen
  obtain ⟨v1, w1, hrun1, R1⟩ := RW.pushByte hLW (UInt8.ofNat 5) 5 rfl (by omega) 23
  have b1 := HB.out w1 R1.gr
  have y0 := cells_at b1 0 _ rfl
  have y1 := cells_at b1 1 _ rfl
  have y2 := cells_at b1 2 _ rfl
  have y3 := cells_at b1 3 _ rfl
  have y4 := cells_at b1 4 _ rfl
  have zw1 : w.heap.size < w1.heap.size := (Array.getElem?_eq_some_iff.1 b1).1
  have HR1 := hide hrun1
  have HU := hide (uvarint_at ((l.length : Nat) : Int) l.length rfl (by omega) w1)
  have HP := hide (fun (w2 : World) (u : Value) (hu : w2.ownsRow w1.heap.size 5 1 u (uvarint l.length).length (cellsOf (uvarint l.length))) (hb : Below w1.heap.size w1 w2) => R1.pushRow hLW hu hb (uvarint_pos _) (by simp; omega) 23)
  have HI := hide (hi.below (bW.mono (show B ≤ w.heap.size by omega)))
  have hbv : ∀ k, bv.ownBlock = some k → B ≤ k := fun k e => by have := (hr.lt k e).1; omega
  have HLEN : Hid (∀ k, (bs ++ UInt8.ofNat 5 :: (uvarint l.length ++ ((l.take k).map encV).flatten)).length ≤ 1000000000000) := hide (fun k => by have := flat_le l k; simp at this ⊢; omega)
  have HCC := hide hC
  have HF := hide hf
  have HZ := hide hz
  clear hrun1 R1 RW R0 e1 b1 hr hlen hi hC hf hz
  go_enter Tryz.func57, Tryz.ntmps57
  go_wp2_with (first
    | (at_builtin; refine Lib.wpList_append_run _ rfl (.tmp 7) (.tmp 11) 23 23 rfl _ _ rfl rfl _ _ HR1.out ?_; clear HR1)
    | (go_at_call 32; refine HU.out.mono ?_; clear HU; rintro e w2 ⟨u, rfl, A1, A2⟩; obtain ⟨v3, w3, hrun, R3⟩ := HP.out _ _ A1 A2; have HR2 := hide hrun; have HR3 := hide R3; have u4 := cells_at (HB.out w3 R3.gr) 4 _ rfl; clear hrun R3 A1 A2 HP)
    | (at_builtin; refine Lib.wpList_append_run _ rfl (.tmp 49) (.tmp 54) 23 23 rfl _ _ rfl rfl _ _ HR2.out ?_; clear HR2))
  clear x0 y0 y1 y2 y3 y4 u4 hW
  go_loopw [0, 59] (fun b i wr => ∃ k : Nat, k ≤ l.length ∧ i = .int .i64 k ∧ RowB W L bv.ownBlock wr b (bs ++ UInt8.ofNat 5 :: (uvarint l.length ++ ((l.take k).map encV).flatten))) (fun _ i _ => l.length - (intOf i).toNat)
  case atStart => exact ⟨0, Nat.zero_le _, rfl, by simpa using HR3.out⟩
  case round =>
    obtain ⟨k, hk, rfl, hR⟩ := hrel
    by_cases hlt : k < l.length
    · obtain ⟨b1, o1, s1, rfl, g1, p0, p1, p2, p3, p4, p5, p6⟩ := (HI.out.grownO hR.gr hbv (by omega)).item k hlt
      have gz := hR.gr.size
      have l1 : b1 < wr.heap.size := by omega
      have HC := hide (fun (U : World) (b : Below wr.heap.size wr U) => HCC.out l[k] U B L s1 _ _ (HF.out _ (List.getElem_mem hlt)) p6 (HZ.out _ (List.getElem_mem hlt)) hBL (by have := b.size; omega) (p5.below (b.mono (by omega))) (hR.below b).row (by have := HLEN.out (k + 1); rw [flat_take l k hlt] at this; simp at this ⊢; omega))
      have HM := hide (fun (U U' : World) (v' : Value) (b : Below wr.heap.size wr U) (r : RowB U L _ U' v' (bs ++ UInt8.ofNat 5 :: (uvarint l.length ++ ((l.take k).map encV).flatten) ++ encV l[k])) => (show RowB W L bv.ownBlock U' v' (bs ++ UInt8.ofNat 5 :: (uvarint l.length ++ ((l.take (k + 1)).map encV).flatten)) from by rw [flat_take l k hlt]; have := (hR.below b).more r; simpa using this))
      obtain ⟨xx1, yy1, rfl, _⟩ := p5.len
      clear p5 p6 g1 hR gz
      generalize l[k].items = xi at *
      generalize l[k] = x at *
      go_wp2_with (go_at_call 57; refine (HC.out _ (alloc_v (Below.refl _ _) _)).mono ?_; clear HC; rintro e w5 ⟨v5, rfl, r5⟩; have R5 := hide (HM.out _ _ _ (alloc_v (Below.refl _ _) _) r5); clear r5 HM)
      go_roundw
      case rel => exact ⟨k + 1, by omega, by go_num, R5.out⟩
      case measure => simp [intOf]; omega
    · rw [List.take_of_length_le (by omega)] at hR
      have HR := hide (HEND.out _ _ _ hR)
      clear hR
      go_wp2
      go_ret
      refine ⟨_, rfl, ?_⟩
      rw [HE.out]
      simpa using HR.out
set_option maxRecDepth 100000 in
set_option maxHeartbeats 1000000 in
theorem enc_list6 (a : Option Addr) (c : Nat) (w : World) (L : Nat) (i m : Int) (t : ByteArray) (l : List Vl) {n B : Nat} (hC : EncC n) (hBL : B ≤ L) (hi : ItemsAt w B (n + 1) (.slice a l.length c) l) (hf : ∀ x ∈ l, formV x = true) (hz : ∀ x ∈ l, x.size ≤ 1000000000) (hll : l.length ≤ 1000000000) (bv : Value) (bs : List UInt8) (hok : (⟨6, i, m, t, l⟩ : Vl).ok) (hL : L ≤ w.heap.size) (hr : w.ownsRow L 5 1 bv bs.length (cellsOf bs)) (hn : bs.length + (encV ⟨6, i, m, t, l⟩).length ≤ 1000000000000) :
    Calls Tryz.prog 57 #[bv, .agg (vcells ⟨6, i, m, t, l⟩ (.slice a l.length c))] w fun e w' => ∃ v', e = .returned v' ∧ RowB w L bv.ownBlock w' v' (bs ++ encV ⟨6, i, m, t, l⟩) := by
  obtain ⟨W, hW⟩ : ∃ W, w.alloc (.cells (vcells ⟨6, i, m, t, l⟩ (.slice a l.length c)) 46) = W := ⟨_, rfl⟩
  have bW : Below w.heap.size w W := by rw [← hW]; exact alloc_v (Below.refl _ _) _
  have e1 : W.heap[w.heap.size]? = some (.cells (vcells ⟨6, i, m, t, l⟩ (.slice a l.length c)) 46 (0, 0)) := by rw [← hW]; exact World.alloc_heap_new w _
  have zW : w.heap.size < W.heap.size := (Array.getElem?_eq_some_iff.1 e1).1
  have x0 := cells_at e1 0 _ rfl
  have hne : some w.heap.size ≠ bv.ownBlock := fun e => by have := (hr.lt _ e.symm).2; omega
  have HB := hide (fun (U : World) (g : W.grownBy U bv.ownBlock) => (g.block _ zW hne).trans e1)
  have R0 := (RowB.start hr).below bW
  have RW : RowB W L bv.ownBlock W bv bs := RowB.start (R0.row)
  have hLW : L ≤ W.heap.size := by omega
  have HE := hide (encV_eq ⟨6, i, m, t, l⟩)
  simp only at HE
  have hlen := congrArg List.length HE.out
  obtain ⟨ok1, ⟨ok2, ok3⟩, ok4, ok5⟩ := hok
  simp only at ok1 ok2 ok3 ok4 ok5
  have HEND := hide (fun (U : World) (v' : Value) (cs : List UInt8) (k : RowB W L bv.ownBlock U v' cs) => R0.more k)
  simp at hlen
  obtain ⟨v1, w1, hrun1, R1⟩ := RW.pushByte hLW (UInt8.ofNat 6) 6 rfl (by omega) 23
  have b1 := HB.out w1 R1.gr
  have y0 := cells_at b1 0 _ rfl
  have y1 := cells_at b1 1 _ rfl
  have y2 := cells_at b1 2 _ rfl
  have y3 := cells_at b1 3 _ rfl
  have y4 := cells_at b1 4 _ rfl
  have zw1 : w.heap.size < w1.heap.size := (Array.getElem?_eq_some_iff.1 b1).1
  have HR1 := hide hrun1
  have HU := hide (uvarint_at ((l.length : Nat) : Int) l.length rfl (by omega) w1)
  have HP := hide (fun (w2 : World) (u : Value) (hu : w2.ownsRow w1.heap.size 5 1 u (uvarint l.length).length (cellsOf (uvarint l.length))) (hb : Below w1.heap.size w1 w2) => R1.pushRow hLW hu hb (uvarint_pos _) (by simp; omega) 23)
  have HI := hide (hi.below (bW.mono (show B ≤ w.heap.size by omega)))
  have hbv : ∀ k, bv.ownBlock = some k → B ≤ k := fun k e => by have := (hr.lt k e).1; omega
  have HLEN : Hid (∀ k, (bs ++ UInt8.ofNat 6 :: (uvarint l.length ++ ((l.take k).map encV).flatten)).length ≤ 1000000000000) := hide (fun k => by have := flat_le l k; simp at this ⊢; omega)
  have HCC := hide hC
  have HF := hide hf
  have HZ := hide hz
  clear hrun1 R1 RW R0 e1 b1 hr hlen hi hC hf hz
  go_enter Tryz.func57, Tryz.ntmps57
  go_wp2_with (first
    | (at_builtin; refine Lib.wpList_append_run _ rfl (.tmp 7) (.tmp 11) 23 23 rfl _ _ rfl rfl _ _ HR1.out ?_; clear HR1)
    | (go_at_call 32; refine HU.out.mono ?_; clear HU; rintro e w2 ⟨u, rfl, A1, A2⟩; obtain ⟨v3, w3, hrun, R3⟩ := HP.out _ _ A1 A2; have HR2 := hide hrun; have HR3 := hide R3; have u4 := cells_at (HB.out w3 R3.gr) 4 _ rfl; clear hrun R3 A1 A2 HP)
    | (at_builtin; refine Lib.wpList_append_run _ rfl (.tmp 49) (.tmp 54) 23 23 rfl _ _ rfl rfl _ _ HR2.out ?_; clear HR2))
  clear x0 y0 y1 y2 y3 y4 u4 hW
  go_loopw [0, 59] (fun b i wr => ∃ k : Nat, k ≤ l.length ∧ i = .int .i64 k ∧ RowB W L bv.ownBlock wr b (bs ++ UInt8.ofNat 6 :: (uvarint l.length ++ ((l.take k).map encV).flatten))) (fun _ i _ => l.length - (intOf i).toNat)
  case atStart => exact ⟨0, Nat.zero_le _, rfl, by simpa using HR3.out⟩
  case round =>
    obtain ⟨k, hk, rfl, hR⟩ := hrel
    by_cases hlt : k < l.length
    · obtain ⟨b1, o1, s1, rfl, g1, p0, p1, p2, p3, p4, p5, p6⟩ := (HI.out.grownO hR.gr hbv (by omega)).item k hlt
      have gz := hR.gr.size
      have l1 : b1 < wr.heap.size := by omega
      have HC := hide (fun (U : World) (b : Below wr.heap.size wr U) => HCC.out l[k] U B L s1 _ _ (HF.out _ (List.getElem_mem hlt)) p6 (HZ.out _ (List.getElem_mem hlt)) hBL (by have := b.size; omega) (p5.below (b.mono (by omega))) (hR.below b).row (by have := HLEN.out (k + 1); rw [flat_take l k hlt] at this; simp at this ⊢; omega))
      have HM := hide (fun (U U' : World) (v' : Value) (b : Below wr.heap.size wr U) (r : RowB U L _ U' v' (bs ++ UInt8.ofNat 6 :: (uvarint l.length ++ ((l.take k).map encV).flatten) ++ encV l[k])) => (show RowB W L bv.ownBlock U' v' (bs ++ UInt8.ofNat 6 :: (uvarint l.length ++ ((l.take (k + 1)).map encV).flatten)) from by rw [flat_take l k hlt]; have := (hR.below b).more r; simpa using this))
      obtain ⟨xx1, yy1, rfl, _⟩ := p5.len
      clear p5 p6 g1 hR gz
      generalize l[k].items = xi at *
      generalize l[k] = x at *
      go_wp2_with (go_at_call 57; refine (HC.out _ (alloc_v (Below.refl _ _) _)).mono ?_; clear HC; rintro e w5 ⟨v5, rfl, r5⟩; have R5 := hide (HM.out _ _ _ (alloc_v (Below.refl _ _) _) r5); clear r5 HM)
      go_roundw
      case rel => exact ⟨k + 1, by omega, by go_num, R5.out⟩
      case measure => simp [intOf]; omega
    · rw [List.take_of_length_le (by omega)] at hR
      have HR := hide (HEND.out _ _ _ hR)
      clear hR
      go_wp2
      go_ret
      refine ⟨_, rfl, ?_⟩
      rw [HE.out]
      simpa using HR.out
set_option maxRecDepth 100000 in
set_option maxHeartbeats 1000000 in
theorem enc_list7 (a : Option Addr) (c : Nat) (w : World) (L : Nat) (i m : Int) (t : ByteArray) (l : List Vl) {n B : Nat} (hC : EncC n) (hBL : B ≤ L) (hi : ItemsAt w B (n + 1) (.slice a l.length c) l) (hf : ∀ x ∈ l, formV x = true) (hz : ∀ x ∈ l, x.size ≤ 1000000000) (hll : l.length ≤ 1000000000) (bv : Value) (bs : List UInt8) (hok : (⟨7, i, m, t, l⟩ : Vl).ok) (hL : L ≤ w.heap.size) (hr : w.ownsRow L 5 1 bv bs.length (cellsOf bs)) (hn : bs.length + (encV ⟨7, i, m, t, l⟩).length ≤ 1000000000000) :
    Calls Tryz.prog 57 #[bv, .agg (vcells ⟨7, i, m, t, l⟩ (.slice a l.length c))] w fun e w' => ∃ v', e = .returned v' ∧ RowB w L bv.ownBlock w' v' (bs ++ encV ⟨7, i, m, t, l⟩) := by
  obtain ⟨W, hW⟩ : ∃ W, w.alloc (.cells (vcells ⟨7, i, m, t, l⟩ (.slice a l.length c)) 46) = W := ⟨_, rfl⟩
  have bW : Below w.heap.size w W := by rw [← hW]; exact alloc_v (Below.refl _ _) _
  have e1 : W.heap[w.heap.size]? = some (.cells (vcells ⟨7, i, m, t, l⟩ (.slice a l.length c)) 46 (0, 0)) := by rw [← hW]; exact World.alloc_heap_new w _
  have zW : w.heap.size < W.heap.size := (Array.getElem?_eq_some_iff.1 e1).1
  have x0 := cells_at e1 0 _ rfl
  have hne : some w.heap.size ≠ bv.ownBlock := fun e => by have := (hr.lt _ e.symm).2; omega
  have HB := hide (fun (U : World) (g : W.grownBy U bv.ownBlock) => (g.block _ zW hne).trans e1)
  have R0 := (RowB.start hr).below bW
  have RW : RowB W L bv.ownBlock W bv bs := RowB.start (R0.row)
  have hLW : L ≤ W.heap.size := by omega
  have HE := hide (encV_eq ⟨7, i, m, t, l⟩)
  simp only at HE
  have hlen := congrArg List.length HE.out
  obtain ⟨ok1, ⟨ok2, ok3⟩, ok4, ok5⟩ := hok
  simp only at ok1 ok2 ok3 ok4 ok5
  have HEND := hide (fun (U : World) (v' : Value) (cs : List UInt8) (k : RowB W L bv.ownBlock U v' cs) => R0.more k)
  simp at hlen
  obtain ⟨v1, w1, hrun1, R1⟩ := RW.pushByte hLW (UInt8.ofNat 7) 7 rfl (by omega) 23
  have b1 := HB.out w1 R1.gr
  have y0 := cells_at b1 0 _ rfl
  have y1 := cells_at b1 1 _ rfl
  have y2 := cells_at b1 2 _ rfl
  have y3 := cells_at b1 3 _ rfl
  have y4 := cells_at b1 4 _ rfl
  have zw1 : w.heap.size < w1.heap.size := (Array.getElem?_eq_some_iff.1 b1).1
  have HR1 := hide hrun1
  have HU := hide (uvarint_at ((l.length : Nat) : Int) l.length rfl (by omega) w1)
  have HP := hide (fun (w2 : World) (u : Value) (hu : w2.ownsRow w1.heap.size 5 1 u (uvarint l.length).length (cellsOf (uvarint l.length))) (hb : Below w1.heap.size w1 w2) => R1.pushRow hLW hu hb (uvarint_pos _) (by simp; omega) 23)
  have HI := hide (hi.below (bW.mono (show B ≤ w.heap.size by omega)))
  have hbv : ∀ k, bv.ownBlock = some k → B ≤ k := fun k e => by have := (hr.lt k e).1; omega
  have HLEN : Hid (∀ k, (bs ++ UInt8.ofNat 7 :: (uvarint l.length ++ ((l.take k).map encV).flatten)).length ≤ 1000000000000) := hide (fun k => by have := flat_le l k; simp at this ⊢; omega)
  have HCC := hide hC
  have HF := hide hf
  have HZ := hide hz
  clear hrun1 R1 RW R0 e1 b1 hr hlen hi hC hf hz
  go_enter Tryz.func57, Tryz.ntmps57
  go_wp2_with (first
    | (at_builtin; refine Lib.wpList_append_run _ rfl (.tmp 7) (.tmp 11) 23 23 rfl _ _ rfl rfl _ _ HR1.out ?_; clear HR1)
    | (go_at_call 32; refine HU.out.mono ?_; clear HU; rintro e w2 ⟨u, rfl, A1, A2⟩; obtain ⟨v3, w3, hrun, R3⟩ := HP.out _ _ A1 A2; have HR2 := hide hrun; have HR3 := hide R3; have u4 := cells_at (HB.out w3 R3.gr) 4 _ rfl; clear hrun R3 A1 A2 HP)
    | (at_builtin; refine Lib.wpList_append_run _ rfl (.tmp 49) (.tmp 54) 23 23 rfl _ _ rfl rfl _ _ HR2.out ?_; clear HR2))
  clear x0 y0 y1 y2 y3 y4 u4 hW
  go_loopw [0, 59] (fun b i wr => ∃ k : Nat, k ≤ l.length ∧ i = .int .i64 k ∧ RowB W L bv.ownBlock wr b (bs ++ UInt8.ofNat 7 :: (uvarint l.length ++ ((l.take k).map encV).flatten))) (fun _ i _ => l.length - (intOf i).toNat)
  case atStart => exact ⟨0, Nat.zero_le _, rfl, by simpa using HR3.out⟩
  case round =>
    obtain ⟨k, hk, rfl, hR⟩ := hrel
    by_cases hlt : k < l.length
    · obtain ⟨b1, o1, s1, rfl, g1, p0, p1, p2, p3, p4, p5, p6⟩ := (HI.out.grownO hR.gr hbv (by omega)).item k hlt
      have gz := hR.gr.size
      have l1 : b1 < wr.heap.size := by omega
      have HC := hide (fun (U : World) (b : Below wr.heap.size wr U) => HCC.out l[k] U B L s1 _ _ (HF.out _ (List.getElem_mem hlt)) p6 (HZ.out _ (List.getElem_mem hlt)) hBL (by have := b.size; omega) (p5.below (b.mono (by omega))) (hR.below b).row (by have := HLEN.out (k + 1); rw [flat_take l k hlt] at this; simp at this ⊢; omega))
      have HM := hide (fun (U U' : World) (v' : Value) (b : Below wr.heap.size wr U) (r : RowB U L _ U' v' (bs ++ UInt8.ofNat 7 :: (uvarint l.length ++ ((l.take k).map encV).flatten) ++ encV l[k])) => (show RowB W L bv.ownBlock U' v' (bs ++ UInt8.ofNat 7 :: (uvarint l.length ++ ((l.take (k + 1)).map encV).flatten)) from by rw [flat_take l k hlt]; have := (hR.below b).more r; simpa using this))
      obtain ⟨xx1, yy1, rfl, _⟩ := p5.len
      clear p5 p6 g1 hR gz
      generalize l[k].items = xi at *
      generalize l[k] = x at *
      go_wp2_with (go_at_call 57; refine (HC.out _ (alloc_v (Below.refl _ _) _)).mono ?_; clear HC; rintro e w5 ⟨v5, rfl, r5⟩; have R5 := hide (HM.out _ _ _ (alloc_v (Below.refl _ _) _) r5); clear r5 HM)
      go_roundw
      case rel => exact ⟨k + 1, by omega, by go_num, R5.out⟩
      case measure => simp [intOf]; omega
    · rw [List.take_of_length_le (by omega)] at hR
      have HR := hide (HEND.out _ _ _ hR)
      clear hR
      go_wp2
      go_ret
      refine ⟨_, rfl, ?_⟩
      rw [HE.out]
      simpa using HR.out
theorem form_parts {v : Vl} (h : formV v = true) : (usedB v = true ∧ goodB v = true) ∧ ∀ x ∈ v.items, formV x = true := by
  rw [formV_eq, Bool.and_eq_true, Bool.and_eq_true, Bool.and_eq_true] at h
  exact ⟨h.1, fun x hx => List.all_eq_true.1 h.2.1 x hx⟩
theorem enc_k : ∀ n, EncC n
  | 0 => fun _ _ _ _ _ _ _ _ _ _ _ _ h _ _ => h.elim
  | n + 1 => fun v w B L sl bv bs hf hok hz hBL hL hi hr hn => by
    obtain ⟨⟨hu, hg⟩, hall⟩ := form_parts hf
    obtain ⟨a, c, rfl, _⟩ := hi.len
    have hsz : ∀ x ∈ v.items, x.size ≤ 1000000000 := fun x hx => by have := Vl.size_item hx; omega
    have hll : v.items.length ≤ 1000000000 := by have := size_len v; omega
    obtain ⟨k, i, m, t, l⟩ := v
    unfold goodB at hg
    simp only at *
    split at hg
    · rename_i h
      rcases h with rfl | rfl | rfl | rfl
      · exact enc_int i m t l a c w L bv bs hok hL hr hn
      · exact enc_list5 a c w L i m t l (enc_k n) hBL hi hall hsz hll bv bs hok hL hr hn
      · exact enc_list6 a c w L i m t l (enc_k n) hBL hi hall hsz hll bv bs hok hL hr hn
      · exact enc_list7 a c w L i m t l (enc_k n) hBL hi hall hsz hll bv bs hok hL hr hn
    · split at hg
      · rename_i h
        subst h
        exact enc_bool i m t l (by simpa using hg) a c w L bv bs hok hL hr hn
      · split at hg
        · rename_i h
          subst h
          exact enc_sym i m t l a c w L bv bs hok hL hr hn
        · split at hg
          · rename_i h
            subst h
            exact enc_gauss i m t l a c w L bv bs hok hL hr hn
          · cases hg
end Go.Proofs.YthmhcpghfbifiaaGreatDoor

/- written and Print: the text of a value. -/
namespace Go.Proofs.YthmhcpghfbifiaaGreatDoor
open Go.RowKit

/-- The text of a value; n bounds how deep. -/
def prF : Nat → Vl → List UInt8
  | 0, _ => []
  | n + 1, v => if v.kind = 1 then (if v.int = 1 then [116, 114, 117, 101] else [102, 97, 108, 115, 101]) else if v.kind = 2 then Lib.itoa v.int
      else if v.kind = 3 then Lib.itoa v.int ++ (if 0 ≤ v.im then [43] else []) ++ Lib.itoa v.im ++ [105] else if v.kind = 4 then v.text.data.toList
      else if v.kind = 5 then (if v.items.length = 1 then 40 :: Lib.join (v.items.map (prF n)) [44, 32] ++ [44, 41] else 40 :: Lib.join (v.items.map (prF n)) [44, 32] ++ [41])
      else if v.kind = 6 then 91 :: Lib.join (v.items.map (prF n)) [44, 32] ++ [93] else 123 :: Lib.join (v.items.map (prF n)) [44, 32] ++ [125]
def prV (v : Vl) : List UInt8 := prF v.size v
theorem prF_more (n : Nat) : ∀ (m : Nat) (v : Vl), v.size ≤ n → n ≤ m → prF m v = prF n v := by
  induction n with
  | zero => intro m v h _; have := v.size_pos; omega
  | succ n ih =>
    intro m v h hm
    cases m with
    | zero => omega
    | succ m =>
      have e : v.items.map (prF m) = v.items.map (prF n) := List.map_congr_left fun x hx => ih m x (by have := Vl.size_item hx; omega) (by omega)
      rw [prF, prF, e]
theorem prV_eq (v : Vl) : prV v = if v.kind = 1 then (if v.int = 1 then [116, 114, 117, 101] else [102, 97, 108, 115, 101]) else if v.kind = 2 then Lib.itoa v.int
      else if v.kind = 3 then Lib.itoa v.int ++ (if 0 ≤ v.im then [43] else []) ++ Lib.itoa v.im ++ [105] else if v.kind = 4 then v.text.data.toList
      else if v.kind = 5 then (if v.items.length = 1 then 40 :: Lib.join (v.items.map prV) [44, 32] ++ [44, 41] else 40 :: Lib.join (v.items.map prV) [44, 32] ++ [41])
      else if v.kind = 6 then 91 :: Lib.join (v.items.map prV) [44, 32] ++ [93] else 123 :: Lib.join (v.items.map prV) [44, 32] ++ [125] := by
  have h0 := v.size_pos
  unfold prV
  obtain ⟨n, hn⟩ : ∃ n, v.size = n + 1 := ⟨v.size - 1, by omega⟩
  have e : v.items.map (prF n) = v.items.map (fun v => prF v.size v) := List.map_congr_left fun x hx => prF_more x.size n x (Nat.le_refl _) (by have := Vl.size_item hx; omega)
  rw [hn, prF, e]
theorem lens_mem {y : List UInt8} : ∀ {xs : List (List UInt8)}, y ∈ xs → y.length ≤ Lib.lens xs
  | x :: xs, h => by
    simp only [Lib.lens, List.map_cons, List.sum_cons]
    rcases List.mem_cons.1 h with rfl | h
    · omega
    · have := lens_mem h; simp only [Lib.lens] at this; omega
theorem join_mem {y : List UInt8} {xs : List (List UInt8)} (sep : List UInt8) (h : y ∈ xs) : y.length ≤ (Lib.join xs sep).length := by
  cases xs with
  | nil => cases h
  | cons x xs =>
    rw [Lib.join_cons, List.length_append, Lib.joinTail_length]
    rcases List.mem_cons.1 h with rfl | h
    · omega
    · have := lens_mem h; omega
theorem cat (x y : List UInt8) (h : x.length + y.length ≤ 9000000000000000000) (w : World) : (Op.stringOp .add (str x) (str y)).run Tryz.prog w = .ok (.string (str (x ++ y))) w := by
  rw [run_string_add_sum (P := Tryz.prog) w _ _ (by rw [str_size, str_size]; omega)]
  unfold str
  rw [ByteArray.mk_append_mk]
theorem infoStr : (Tryz.prog.info? 9).map (fun i => (i.zero, i.size, i.bytes)) = some (some (.string ⟨#[]⟩), 1, 16) := by kernel_rfl
def strs (l : List (List UInt8)) : List Value := l.map fun x => Value.string (str x)
/-- One text more is laid behind. -/
theorem push_str {w W : World} {L : Nat} {o : Value} {l : List (List UInt8)} (x : List UInt8) (h : w.ownsRow L 9 1 o l.length (strs l)) (hL : L ≤ w.heap.size) (hb : Below w.heap.size w W) (hl : l.length + 1 ≤ 1000000000) (ty : TypeId) :
    ∃ o' w', (Builtin.append_ #[61, 61] ty #[o, .slice (some ⟨W.heap.size, 0, none⟩) 1 1]).run Tryz.prog (W.alloc (.cells #[.string (str x)] 9)) = .ok o' w' ∧ w'.ownsRow L 9 1 o' (l ++ [x]).length (strs (l ++ [x])) ∧ Below L W w' := by
  obtain ⟨i0, hi, hz0, hz1, hz2⟩ := info_partsV infoStr
  have bA : Below W.heap.size W (W.alloc (.cells #[.string (str x)] 9)) := alloc_v (Below.refl _ _) _
  have eA := World.alloc_heap_new W (.cells #[.string (str x)] 9)
  have hsz := hb.size
  have hA := h.kept (grown_of_below (r := none) (trans_v hb bA)) (by cases o.ownBlock <;> simp)
  obtain ⟨v', w', hrun, A1, A2, A3⟩ := run_append_own (P := Tryz.prog) (W.alloc (.cells #[.string (str x)] 9)) L 61 ty 9 i0 _ 1 16 Tryz.underlying61 hi hz0 hz1 hz2 rfl (by decide) o l.length (strs l) hA ⟨W.heap.size, 0, none⟩ 1 1 (strs [x]) rfl (fun j u hj => by
      rw [Addr.add_lit, Nat.zero_add]
      exact cells_at eA j u (by simpa [strs] using hj)) (fun u hu => by simp [strs] at hu; rw [hu]; rfl) (by unfold maxLen; omega) (by omega) (by rw [World.size_alloc]; omega)
  refine ⟨v', w', hrun, ?_, ?_⟩
  · rw [List.length_append, show strs (l ++ [x]) = strs l ++ strs [x] from List.map_append]
    exact A1
  · exact (bA.mono (show L ≤ W.heap.size by omega)).grown A2 (by rw [World.size_alloc]; omega) (fun k hk => (h.lt k hk).1)
def WrC (n : Nat) : Prop := ∀ (v : Vl) (w : World) (B : Nat) (sl : Value), formV v = true → v.ok → v.size ≤ 1000000000 → (prV v).length ≤ 1000000000000 → Tabs w → B ≤ w.heap.size → ItemsAt w B n sl v.items →
  Calls Tryz.prog 27 #[.agg (vcells v sl)] w fun e w' => e = .returned (.string (str (prV v))) ∧ Below w.heap.size w w'
set_option maxRecDepth 100000 in
set_option maxHeartbeats 1000000 in
theorem writtenItems_k {n : Nat} (hC : WrC n) (l : List Vl) (w : World) (B : Nat) (sl : Value) (hf : ∀ x ∈ l, formV x = true) (hz : ∀ x ∈ l, x.size ≤ 1000000000) (hll : l.length ≤ 1000000000) (hj : (Lib.join (l.map prV) [44, 32]).length ≤ 1000000000000) (hT : Tabs w) (hB : B ≤ w.heap.size) (hi : ItemsAt w B (n + 1) sl l) :
    Calls Tryz.prog 53 #[sl] w fun e w' => e = .returned (.string (str (Lib.join (l.map prV) [44, 32]))) ∧ Below w.heap.size w w' := by
  have HI := hide hi
  obtain ⟨a, c, rfl, hla⟩ := hi.len
  unfold maxLen at hla
  have HC0 := hide hC
  have HF := hide hf
  have HZ := hide hz
  have HT := hide hT
  have HJ := hide hj
  have HX := hide (fun x (hx : x ∈ l) => (show (prV x).length ≤ 1000000000000 from by have := join_mem (y := prV x) [44, 32] (List.mem_map_of_mem hx); omega))
  clear hi hC hf hz hT hj
  go_enter Tryz.func53, Tryz.ntmps53
  go_wp2
  go_loopw [3, 8] (fun o i wr => ∃ k : Nat, k ≤ l.length ∧ i = .int .i64 k ∧ wr.ownsRow w.heap.size 9 1 o ((l.take k).map prV).length (strs ((l.take k).map prV)) ∧ Below w.heap.size w wr) (fun _ i _ => l.length - (intOf i).toNat)
  case atStart => exact ⟨0, Nat.zero_le _, rfl, ⟨rfl, .inl ⟨rfl, rfl⟩⟩, Below.refl _ _⟩
  case round =>
    obtain ⟨k, hk, rfl, hR, hbel⟩ := hrel
    by_cases hlt : k < l.length
    · obtain ⟨b1, o1, s1, rfl, g1, p0, p1, p2, p3, p4, p5, p6⟩ := (HI.out.below (hbel.mono hB)).item k hlt
      have l1 : b1 < wr.heap.size := by have := hbel.size; omega
      have HC := hide (fun (U : World) (b : Below wr.heap.size wr U) => HC0.out l[k] U B s1 (HF.out _ (List.getElem_mem hlt)) p6 (HZ.out _ (List.getElem_mem hlt)) (HX.out _ (List.getElem_mem hlt)) (HT.out.below (trans_v hbel b)) (by have := hbel.size; have := b.size; omega) (p5.below (b.mono (by have := hbel.size; omega))))
      have HP := hide (fun (U : World) (b : Below wr.heap.size wr U) => push_str (prV l[k]) hR hbel.size b (by simp; omega) 61)
      have HK : Hid ((l.take (k + 1)).map prV = (l.take k).map prV ++ [prV l[k]]) := by rw [List.take_succ_eq_append_getElem hlt, List.map_append]; rfl
      obtain ⟨xx1, yy1, rfl, _⟩ := p5.len
      have HB2 := hide hbel
      clear p5 p6 hbel g1 hR
      generalize l[k].items = xi at *
      generalize l[k] = x at *
      go_wp2_with (first
        | (go_at_call 27; refine (HC.out _ (alloc_v (Below.refl _ _) _)).mono ?_; clear HC; rintro e w2 ⟨rfl, b2⟩; obtain ⟨o3, w3, hrun, r3, b3⟩ := HP.out w2 (trans_v (alloc_v (Below.refl _ _) _) b2); have HR := hide hrun; have R3 := hide r3; have B3 := hide (HB2.out.trans (((trans_v (alloc_v (Below.refl _ _) _) b2).mono HB2.out.size).trans b3)); clear hrun r3 b3 HP b2)
        | (at_builtin; refine Lib.wpList_append_run _ rfl (.tmp 12) (.tmp 15) 61 61 rfl _ _ rfl rfl _ _ HR.out ?_))
      go_roundw
      case rel => exact ⟨k + 1, by omega, by go_num, by rw [HK.out]; exact R3.out, B3.out⟩
      case measure => simp [intOf]; omega
    · rw [List.take_of_length_le (by omega)] at hR
      have HR := hide hR
      have HB2 := hide hbel
      by_cases h0 : l = []
      · subst h0
        obtain ⟨_, hrow⟩ := hR
        have HN := hide (fun (a : Option Addr) (c : Nat) (U : World) => Tryz.strings_Join_none a c ⟨#[44, 32]⟩ U)
        have hv : ∃ aa cc, u3 = Value.slice aa 0 cc := by
          rcases hrow with ⟨e, _⟩ | ⟨g, cap, cur, e, _⟩
          · exact ⟨_, _, e⟩
          · exact ⟨_, _, e⟩
        obtain ⟨aa, cc, rfl⟩ := hv
        clear hrow hbel
        go_wp2_with (go_at_call 31; refine (HN.out _ _ _).mono ?_; clear HN; rintro e w2 ⟨rfl, rfl⟩)
        go_ret
        exact ⟨rfl, HB2.out⟩
      · have hpos : 0 < (l.map prV).length := by cases l with | nil => exact absurd rfl h0 | cons _ _ => simp
        obtain ⟨g, cap, rfl, _, hg⟩ := hR.form hpos
        have hcap : (l.map prV).length ≤ cap := by
          rcases hR.2 with ⟨e, _⟩ | ⟨g', cap', cur, e, _, _, hc, _⟩
          · cases e
          · cases e; exact hc
        have hcell : ∀ (j : Nat) x, ((l.map prV).map str)[j]? = some x → wr.cell? ⟨g, 0 + j, none⟩ = some (.string x) := fun j x hx => by
          have hj : j < (l.map prV).length := by have := (List.getElem?_eq_some_iff.1 hx).1; simpa using this
          rw [Nat.zero_add, hR.cellAt j (by omega)]
          rw [List.getElem?_map] at hx
          simp only [strs, List.getElem?_map]
          rw [List.getElem?_map] at hx
          cases hy : l[j]? with
          | none => rw [hy] at hx; simp at hx
          | some y => rw [hy] at hx; simp at hx; simp [hx]
        have hdat : ((l.map prV).map str).map (fun x => x.data.toList) = l.map prV := by
          rw [List.map_map]
          conv => rhs; rw [← List.map_id (l.map prV)]
          rfl
        have hJ : Hid (Calls Tryz.prog 31 #[.slice (some ⟨g, 0, none⟩) (l.map prV).length cap, .string ⟨#[44, 32]⟩] wr fun e w' => e = .returned (.string (str (Lib.join (l.map prV) [44, 32]))) ∧ Below wr.heap.size wr w') := by
          have := Tryz.strings_Join g 0 cap ((l.map prV).map str) ⟨#[44, 32]⟩ wr hcell hg (by simp; omega) (by simpa using hcap) (by rw [hdat]; have := HJ.out; simp at this ⊢; omega)
          rw [hdat, List.length_map] at this
          exact this
        clear hcell hdat hR hbel hpos hcap
        simp only [List.length_map] at hJ ⊢
        go_wp2_with (go_at_call 31; refine hJ.out.mono ?_; clear hJ; rintro e w2 ⟨rfl, b2⟩)
        go_ret
        exact ⟨rfl, trans_v HB2.out b2⟩
set_option maxRecDepth 100000 in
theorem writtenGauss_k (i m : Int) (h0 : -9223372036854775808 ≤ i) (h1 : i ≤ 9223372036854775807) (h2 : -9223372036854775808 ≤ m) (h3 : m ≤ 9223372036854775807) (hl : (Lib.itoa i ++ (if 0 ≤ m then [43] else []) ++ Lib.itoa m ++ [105]).length ≤ 1000000000000) (w : World) (hT : Tabs w) :
    Calls Tryz.prog 52 #[.int .i64 i, .int .i64 m] w fun e w' => e = .returned (.string (str (Lib.itoa i ++ (if 0 ≤ m then [43] else []) ++ Lib.itoa m ++ [105]))) ∧ Below w.heap.size w w' := by
  have HI := hide (decimal_k i h0 h1 w hT)
  have HM := hide (fun (U : World) (b : Below w.heap.size w U) => decimal_k m h2 h3 U (hT.below b))
  clear h0 h1 h2 h3
  by_cases hm : 0 ≤ m
  · rw [if_pos hm] at hl ⊢
    simp at hl
    have c1 := fun U => cat (Lib.itoa i) [43] (by simp; omega) U
    have c2 := fun U => cat (Lib.itoa i ++ [43]) (Lib.itoa m) (by simp; omega) U
    have c3 := fun U => cat (Lib.itoa i ++ [43] ++ Lib.itoa m) [105] (by simp; omega) U
    have d1 : ∀ U, (Op.stringOp .add (str (Lib.itoa i)) ⟨#[43]⟩).run Tryz.prog U = .ok (.string (str (Lib.itoa i ++ [43]))) U := c1
    have d3 : ∀ U, (Op.stringOp .add (str (Lib.itoa i ++ [43] ++ Lib.itoa m)) ⟨#[105]⟩).run Tryz.prog U = .ok (.string (str (Lib.itoa i ++ [43] ++ Lib.itoa m ++ [105]))) U := c3
    clear c1 c3 hl
    generalize Lib.itoa i = x at *
    generalize Lib.itoa m = y at *
    generalize str (x ++ [43] ++ y ++ [105]) = s4 at *
    generalize str (x ++ [43] ++ y) = s3 at *
    generalize str (x ++ [43]) = s2 at *
    go_enter Tryz.func52, Tryz.ntmps52
    go_wp2_with (first
      | (go_at_call 51; refine HI.out.mono ?_; clear HI; rintro e w1 ⟨rfl, b1⟩)
      | (go_at_call 51; refine (HM.out _ b1).mono ?_; clear HM; rintro e w2 ⟨rfl, b2⟩))
    go_ret
    exact ⟨rfl, trans_v b1 b2⟩
  · rw [if_neg hm] at hl ⊢
    simp at hl
    have c1 := fun U => cat (Lib.itoa i) [] (by simp; omega) U
    have c2 := fun U => cat (Lib.itoa i ++ []) (Lib.itoa m) (by simp; omega) U
    have c3 := fun U => cat (Lib.itoa i ++ [] ++ Lib.itoa m) [105] (by simp; omega) U
    have d1 : ∀ U, (Op.stringOp .add (str (Lib.itoa i)) ⟨#[]⟩).run Tryz.prog U = .ok (.string (str (Lib.itoa i ++ []))) U := c1
    have d3 : ∀ U, (Op.stringOp .add (str (Lib.itoa i ++ [] ++ Lib.itoa m)) ⟨#[105]⟩).run Tryz.prog U = .ok (.string (str (Lib.itoa i ++ [] ++ Lib.itoa m ++ [105]))) U := c3
    clear c1 c3 hl
    generalize Lib.itoa i = x at *
    generalize Lib.itoa m = y at *
    generalize str (x ++ [] ++ y ++ [105]) = s4 at *
    generalize str (x ++ [] ++ y) = s3 at *
    generalize str (x ++ []) = s2 at *
    go_enter Tryz.func52, Tryz.ntmps52
    go_wp2_with (first
      | (go_at_call 51; refine HI.out.mono ?_; clear HI; rintro e w1 ⟨rfl, b1⟩)
      | (go_at_call 51; refine (HM.out _ b1).mono ?_; clear HM; rintro e w2 ⟨rfl, b2⟩))
    go_ret
    exact ⟨rfl, trans_v b1 b2⟩
theorem pr_true (m : Int) (t : ByteArray) (l : List Vl) : prV ⟨1, 1, m, t, l⟩ = [116, 114, 117, 101] := by rw [prV_eq]; simp
theorem pr_false (m : Int) (t : ByteArray) (l : List Vl) : prV ⟨1, 0, m, t, l⟩ = [102, 97, 108, 115, 101] := by rw [prV_eq]; simp
theorem pr_int (i m : Int) (t : ByteArray) (l : List Vl) : prV ⟨2, i, m, t, l⟩ = Lib.itoa i := by rw [prV_eq]; simp
theorem pr_gauss (i m : Int) (t : ByteArray) (l : List Vl) : prV ⟨3, i, m, t, l⟩ = Lib.itoa i ++ (if 0 ≤ m then [43] else []) ++ Lib.itoa m ++ [105] := by rw [prV_eq]; simp
theorem pr_sym (i m : Int) (t : ByteArray) (l : List Vl) : prV ⟨4, i, m, t, l⟩ = t.data.toList := by rw [prV_eq]; simp
theorem pr_one (i m : Int) (t : ByteArray) (l : List Vl) (h : l.length = 1) : prV ⟨5, i, m, t, l⟩ = 40 :: Lib.join (l.map prV) [44, 32] ++ [44, 41] := by rw [prV_eq]; simp [h]
theorem pr_tuple (i m : Int) (t : ByteArray) (l : List Vl) (h : l.length ≠ 1) : prV ⟨5, i, m, t, l⟩ = 40 :: Lib.join (l.map prV) [44, 32] ++ [41] := by rw [prV_eq]; simp [h]
theorem pr_list (i m : Int) (t : ByteArray) (l : List Vl) : prV ⟨6, i, m, t, l⟩ = 91 :: Lib.join (l.map prV) [44, 32] ++ [93] := by rw [prV_eq]; simp
theorem pr_set (i m : Int) (t : ByteArray) (l : List Vl) : prV ⟨7, i, m, t, l⟩ = 123 :: Lib.join (l.map prV) [44, 32] ++ [125] := by rw [prV_eq]; simp
set_option maxRecDepth 100000 in
set_option maxHeartbeats 1000000 in
theorem wr_bool (i m : Int) (t : ByteArray) (l : List Vl) (a : Option Addr) (c : Nat) (w : World) (hi : i = 0 ∨ i = 1) :
    Calls Tryz.prog 27 #[.agg (vcells ⟨1, i, m, t, l⟩ (.slice a l.length c))] w fun e w' => e = .returned (.string (str (prV ⟨1, i, m, t, l⟩))) ∧ Below w.heap.size w w' := by
  obtain ⟨W, hW⟩ : ∃ W, w.alloc (.cells (vcells ⟨1, i, m, t, l⟩ (.slice a l.length c)) 46) = W := ⟨_, rfl⟩
  have bW : Below w.heap.size w W := by rw [← hW]; exact alloc_v (Below.refl _ _) _
  have e1 : W.heap[w.heap.size]? = some (.cells (vcells ⟨1, i, m, t, l⟩ (.slice a l.length c)) 46 (0, 0)) := by rw [← hW]; exact World.alloc_heap_new w _
  have zW : w.heap.size < W.heap.size := (Array.getElem?_eq_some_iff.1 e1).1
  have x0 := cells_at e1 0 _ rfl
  have x1 := cells_at e1 1 _ rfl
  have x2 := cells_at e1 2 _ rfl
  have x3 := cells_at e1 3 _ rfl
  have x4 := cells_at e1 4 _ rfl
  clear e1
  rcases hi with rfl | rfl
  · rw [pr_false]
    go_enter Tryz.func27, Tryz.ntmps27
    go_wp2
    go_ret
    exact ⟨rfl, bW⟩
  · rw [pr_true]
    go_enter Tryz.func27, Tryz.ntmps27
    go_wp2
    go_ret
    exact ⟨rfl, bW⟩
set_option maxRecDepth 100000 in
set_option maxHeartbeats 1000000 in
theorem wr_int (i m : Int) (t : ByteArray) (l : List Vl) (a : Option Addr) (c : Nat) (w : World) (h0 : -9223372036854775808 ≤ i) (h1 : i ≤ 9223372036854775807) (hT : Tabs w) :
    Calls Tryz.prog 27 #[.agg (vcells ⟨2, i, m, t, l⟩ (.slice a l.length c))] w fun e w' => e = .returned (.string (str (prV ⟨2, i, m, t, l⟩))) ∧ Below w.heap.size w w' := by
  obtain ⟨W, hW⟩ : ∃ W, w.alloc (.cells (vcells ⟨2, i, m, t, l⟩ (.slice a l.length c)) 46) = W := ⟨_, rfl⟩
  have bW : Below w.heap.size w W := by rw [← hW]; exact alloc_v (Below.refl _ _) _
  have e1 : W.heap[w.heap.size]? = some (.cells (vcells ⟨2, i, m, t, l⟩ (.slice a l.length c)) 46 (0, 0)) := by rw [← hW]; exact World.alloc_heap_new w _
  have zW : w.heap.size < W.heap.size := (Array.getElem?_eq_some_iff.1 e1).1
  have x0 := cells_at e1 0 _ rfl
  have x1 := cells_at e1 1 _ rfl
  have x2 := cells_at e1 2 _ rfl
  have x3 := cells_at e1 3 _ rfl
  have x4 := cells_at e1 4 _ rfl
  clear e1
  have HD := hide (decimal_k i h0 h1 W (hT.below bW))
  rw [pr_int]
  go_enter Tryz.func27, Tryz.ntmps27
  go_wp2_with (go_at_call 51; refine HD.out.mono ?_; clear HD; rintro e w1 ⟨rfl, b1⟩)
  go_ret
  exact ⟨rfl, trans_v bW b1⟩
set_option maxRecDepth 100000 in
set_option maxHeartbeats 1000000 in
theorem wr_gauss (i m : Int) (t : ByteArray) (l : List Vl) (a : Option Addr) (c : Nat) (w : World) (h0 : -9223372036854775808 ≤ i) (h1 : i ≤ 9223372036854775807) (h2 : -9223372036854775808 ≤ m) (h3 : m ≤ 9223372036854775807) (hn : (prV ⟨3, i, m, t, l⟩).length ≤ 1000000000000) (hT : Tabs w) :
    Calls Tryz.prog 27 #[.agg (vcells ⟨3, i, m, t, l⟩ (.slice a l.length c))] w fun e w' => e = .returned (.string (str (prV ⟨3, i, m, t, l⟩))) ∧ Below w.heap.size w w' := by
  obtain ⟨W, hW⟩ : ∃ W, w.alloc (.cells (vcells ⟨3, i, m, t, l⟩ (.slice a l.length c)) 46) = W := ⟨_, rfl⟩
  have bW : Below w.heap.size w W := by rw [← hW]; exact alloc_v (Below.refl _ _) _
  have e1 : W.heap[w.heap.size]? = some (.cells (vcells ⟨3, i, m, t, l⟩ (.slice a l.length c)) 46 (0, 0)) := by rw [← hW]; exact World.alloc_heap_new w _
  have zW : w.heap.size < W.heap.size := (Array.getElem?_eq_some_iff.1 e1).1
  have x0 := cells_at e1 0 _ rfl
  have x1 := cells_at e1 1 _ rfl
  have x2 := cells_at e1 2 _ rfl
  have x3 := cells_at e1 3 _ rfl
  have x4 := cells_at e1 4 _ rfl
  clear e1
  rw [pr_gauss] at hn ⊢
  have HD := hide (writtenGauss_k i m h0 h1 h2 h3 hn W (hT.below bW))
  generalize str (Lib.itoa i ++ (if 0 ≤ m then [43] else []) ++ Lib.itoa m ++ [105]) = s9 at *
  clear hn
  go_enter Tryz.func27, Tryz.ntmps27
  go_wp2_with (go_at_call 52; refine HD.out.mono ?_; clear HD; rintro e w1 ⟨rfl, b1⟩)
  go_ret
  exact ⟨rfl, trans_v bW b1⟩
set_option maxRecDepth 100000 in
set_option maxHeartbeats 1000000 in
theorem wr_sym (i m : Int) (t : ByteArray) (l : List Vl) (a : Option Addr) (c : Nat) (w : World) :
    Calls Tryz.prog 27 #[.agg (vcells ⟨4, i, m, t, l⟩ (.slice a l.length c))] w fun e w' => e = .returned (.string (str (prV ⟨4, i, m, t, l⟩))) ∧ Below w.heap.size w w' := by
  obtain ⟨W, hW⟩ : ∃ W, w.alloc (.cells (vcells ⟨4, i, m, t, l⟩ (.slice a l.length c)) 46) = W := ⟨_, rfl⟩
  have bW : Below w.heap.size w W := by rw [← hW]; exact alloc_v (Below.refl _ _) _
  have e1 : W.heap[w.heap.size]? = some (.cells (vcells ⟨4, i, m, t, l⟩ (.slice a l.length c)) 46 (0, 0)) := by rw [← hW]; exact World.alloc_heap_new w _
  have zW : w.heap.size < W.heap.size := (Array.getElem?_eq_some_iff.1 e1).1
  have x0 := cells_at e1 0 _ rfl
  have x1 := cells_at e1 1 _ rfl
  have x2 := cells_at e1 2 _ rfl
  have x3 := cells_at e1 3 _ rfl
  have x4 := cells_at e1 4 _ rfl
  clear e1
  rw [pr_sym, str_bytes]
  go_enter Tryz.func27, Tryz.ntmps27
  go_wp2
  go_ret
  exact ⟨rfl, bW⟩
set_option maxRecDepth 100000 in
set_option maxHeartbeats 1000000 in
theorem wr_tuple (i m : Int) (t : ByteArray) (l : List Vl) (a : Option Addr) (c : Nat) (w : World) {n B : Nat} (hC : WrC n) (hB : B ≤ w.heap.size) (hi : ItemsAt w B (n + 1) (.slice a l.length c) l) (hf : ∀ x ∈ l, formV x = true) (hz : ∀ x ∈ l, x.size ≤ 1000000000) (hll : l.length ≤ 1000000000) (hn : (prV ⟨5, i, m, t, l⟩).length ≤ 1000000000000) (hT : Tabs w) (hl1 : l.length ≠ 1) :
    Calls Tryz.prog 27 #[.agg (vcells ⟨5, i, m, t, l⟩ (.slice a l.length c))] w fun e w' => e = .returned (.string (str (prV ⟨5, i, m, t, l⟩))) ∧ Below w.heap.size w w' := by
  obtain ⟨W, hW⟩ : ∃ W, w.alloc (.cells (vcells ⟨5, i, m, t, l⟩ (.slice a l.length c)) 46) = W := ⟨_, rfl⟩
  have bW : Below w.heap.size w W := by rw [← hW]; exact alloc_v (Below.refl _ _) _
  have e1 : W.heap[w.heap.size]? = some (.cells (vcells ⟨5, i, m, t, l⟩ (.slice a l.length c)) 46 (0, 0)) := by rw [← hW]; exact World.alloc_heap_new w _
  have zW : w.heap.size < W.heap.size := (Array.getElem?_eq_some_iff.1 e1).1
  have x0 := cells_at e1 0 _ rfl
  have x1 := cells_at e1 1 _ rfl
  have x2 := cells_at e1 2 _ rfl
  have x3 := cells_at e1 3 _ rfl
  have x4 := cells_at e1 4 _ rfl
  clear e1
  have HN := hide (pr_tuple i m t l hl1)
  have hlen := congrArg List.length HN.out
  simp at hlen
  rw [HN.out]
  obtain ⟨J, hJ⟩ : ∃ J, Lib.join (l.map prV) [44, 32] = J := ⟨_, rfl⟩
  rw [hJ] at hlen ⊢
  have HW := hide (writtenItems_k hC l W B (.slice a l.length c) hf hz hll (by rw [hJ]; omega) (hT.below bW) (by have := bW.size; omega) (hi.below (bW.mono hB)))
  rw [hJ] at HW
  obtain ⟨s2, h2⟩ : ∃ s2, str ([40] ++ J) = s2 := ⟨_, rfl⟩
  obtain ⟨s3, h3⟩ : ∃ s3, str ([40] ++ J ++ [41]) = s3 := ⟨_, rfl⟩
  have c1 : ∀ U, (Op.stringOp .add ⟨#[40]⟩ (str J)).run Tryz.prog U = .ok (.string s2) U := fun U => by rw [← h2]; exact cat [40] J (by simp; omega) U
  have c2 : ∀ U, (Op.stringOp .add s2 ⟨#[41]⟩).run Tryz.prog U = .ok (.string s3) U := fun U => by rw [← h3, ← h2]; exact cat ([40] ++ J) [41] (by simp; omega) U
  have H3 := hide h3
  clear hn hlen HN hi hC hf hz hT h2 h3 hJ
  have hl2 : ((l.length : Int) == 1) = false := by simp; omega
  go_enter Tryz.func27, Tryz.ntmps27
  go_wp2_with (go_at_call 53; refine HW.out.mono ?_; clear HW; rintro e w1 ⟨rfl, b1⟩)
  go_ret
  exact ⟨by rw [← H3.out]; rfl, trans_v bW b1⟩
set_option maxRecDepth 100000 in
set_option maxHeartbeats 1000000 in
theorem wr_list (i m : Int) (t : ByteArray) (l : List Vl) (a : Option Addr) (c : Nat) (w : World) {n B : Nat} (hC : WrC n) (hB : B ≤ w.heap.size) (hi : ItemsAt w B (n + 1) (.slice a l.length c) l) (hf : ∀ x ∈ l, formV x = true) (hz : ∀ x ∈ l, x.size ≤ 1000000000) (hll : l.length ≤ 1000000000) (hn : (prV ⟨6, i, m, t, l⟩).length ≤ 1000000000000) (hT : Tabs w) :
    Calls Tryz.prog 27 #[.agg (vcells ⟨6, i, m, t, l⟩ (.slice a l.length c))] w fun e w' => e = .returned (.string (str (prV ⟨6, i, m, t, l⟩))) ∧ Below w.heap.size w w' := by
  obtain ⟨W, hW⟩ : ∃ W, w.alloc (.cells (vcells ⟨6, i, m, t, l⟩ (.slice a l.length c)) 46) = W := ⟨_, rfl⟩
  have bW : Below w.heap.size w W := by rw [← hW]; exact alloc_v (Below.refl _ _) _
  have e1 : W.heap[w.heap.size]? = some (.cells (vcells ⟨6, i, m, t, l⟩ (.slice a l.length c)) 46 (0, 0)) := by rw [← hW]; exact World.alloc_heap_new w _
  have zW : w.heap.size < W.heap.size := (Array.getElem?_eq_some_iff.1 e1).1
  have x0 := cells_at e1 0 _ rfl
  have x1 := cells_at e1 1 _ rfl
  have x2 := cells_at e1 2 _ rfl
  have x3 := cells_at e1 3 _ rfl
  have x4 := cells_at e1 4 _ rfl
  clear e1
  have HN := hide (pr_list i m t l)
  have hlen := congrArg List.length HN.out
  simp at hlen
  rw [HN.out]
  obtain ⟨J, hJ⟩ : ∃ J, Lib.join (l.map prV) [44, 32] = J := ⟨_, rfl⟩
  rw [hJ] at hlen ⊢
  have HW := hide (writtenItems_k hC l W B (.slice a l.length c) hf hz hll (by rw [hJ]; omega) (hT.below bW) (by have := bW.size; omega) (hi.below (bW.mono hB)))
  rw [hJ] at HW
  obtain ⟨s2, h2⟩ : ∃ s2, str ([91] ++ J) = s2 := ⟨_, rfl⟩
  obtain ⟨s3, h3⟩ : ∃ s3, str ([91] ++ J ++ [93]) = s3 := ⟨_, rfl⟩
  have c1 : ∀ U, (Op.stringOp .add ⟨#[91]⟩ (str J)).run Tryz.prog U = .ok (.string s2) U := fun U => by rw [← h2]; exact cat [91] J (by simp; omega) U
  have c2 : ∀ U, (Op.stringOp .add s2 ⟨#[93]⟩).run Tryz.prog U = .ok (.string s3) U := fun U => by rw [← h3, ← h2]; exact cat ([91] ++ J) [93] (by simp; omega) U
  have H3 := hide h3
  clear hn hlen HN hi hC hf hz hT h2 h3 hJ
  go_enter Tryz.func27, Tryz.ntmps27
  go_wp2_with (go_at_call 53; refine HW.out.mono ?_; clear HW; rintro e w1 ⟨rfl, b1⟩)
  go_ret
  exact ⟨by rw [← H3.out]; rfl, trans_v bW b1⟩
set_option maxRecDepth 100000 in
set_option maxHeartbeats 1000000 in
theorem wr_set (i m : Int) (t : ByteArray) (l : List Vl) (a : Option Addr) (c : Nat) (w : World) {n B : Nat} (hC : WrC n) (hB : B ≤ w.heap.size) (hi : ItemsAt w B (n + 1) (.slice a l.length c) l) (hf : ∀ x ∈ l, formV x = true) (hz : ∀ x ∈ l, x.size ≤ 1000000000) (hll : l.length ≤ 1000000000) (hn : (prV ⟨7, i, m, t, l⟩).length ≤ 1000000000000) (hT : Tabs w) :
    Calls Tryz.prog 27 #[.agg (vcells ⟨7, i, m, t, l⟩ (.slice a l.length c))] w fun e w' => e = .returned (.string (str (prV ⟨7, i, m, t, l⟩))) ∧ Below w.heap.size w w' := by
  obtain ⟨W, hW⟩ : ∃ W, w.alloc (.cells (vcells ⟨7, i, m, t, l⟩ (.slice a l.length c)) 46) = W := ⟨_, rfl⟩
  have bW : Below w.heap.size w W := by rw [← hW]; exact alloc_v (Below.refl _ _) _
  have e1 : W.heap[w.heap.size]? = some (.cells (vcells ⟨7, i, m, t, l⟩ (.slice a l.length c)) 46 (0, 0)) := by rw [← hW]; exact World.alloc_heap_new w _
  have zW : w.heap.size < W.heap.size := (Array.getElem?_eq_some_iff.1 e1).1
  have x0 := cells_at e1 0 _ rfl
  have x1 := cells_at e1 1 _ rfl
  have x2 := cells_at e1 2 _ rfl
  have x3 := cells_at e1 3 _ rfl
  have x4 := cells_at e1 4 _ rfl
  clear e1
  have HN := hide (pr_set i m t l)
  have hlen := congrArg List.length HN.out
  simp at hlen
  rw [HN.out]
  obtain ⟨J, hJ⟩ : ∃ J, Lib.join (l.map prV) [44, 32] = J := ⟨_, rfl⟩
  rw [hJ] at hlen ⊢
  have HW := hide (writtenItems_k hC l W B (.slice a l.length c) hf hz hll (by rw [hJ]; omega) (hT.below bW) (by have := bW.size; omega) (hi.below (bW.mono hB)))
  rw [hJ] at HW
  obtain ⟨s2, h2⟩ : ∃ s2, str ([123] ++ J) = s2 := ⟨_, rfl⟩
  obtain ⟨s3, h3⟩ : ∃ s3, str ([123] ++ J ++ [125]) = s3 := ⟨_, rfl⟩
  have c1 : ∀ U, (Op.stringOp .add ⟨#[123]⟩ (str J)).run Tryz.prog U = .ok (.string s2) U := fun U => by rw [← h2]; exact cat [123] J (by simp; omega) U
  have c2 : ∀ U, (Op.stringOp .add s2 ⟨#[125]⟩).run Tryz.prog U = .ok (.string s3) U := fun U => by rw [← h3, ← h2]; exact cat ([123] ++ J) [125] (by simp; omega) U
  have H3 := hide h3
  clear hn hlen HN hi hC hf hz hT h2 h3 hJ
  go_enter Tryz.func27, Tryz.ntmps27
  go_wp2_with (go_at_call 53; refine HW.out.mono ?_; clear HW; rintro e w1 ⟨rfl, b1⟩)
  go_ret
  exact ⟨by rw [← H3.out]; rfl, trans_v bW b1⟩
set_option maxRecDepth 100000 in
set_option maxHeartbeats 1000000 in
theorem wr_one (i m : Int) (t : ByteArray) (l : List Vl) (a : Option Addr) (c : Nat) (w : World) {n B : Nat} (hC : WrC n) (hB : B ≤ w.heap.size) (hi : ItemsAt w B (n + 1) (.slice a l.length c) l) (hf : ∀ x ∈ l, formV x = true) (hz : ∀ x ∈ l, x.size ≤ 1000000000) (hll : l.length ≤ 1000000000) (hn : (prV ⟨5, i, m, t, l⟩).length ≤ 1000000000000) (hT : Tabs w) (hl1 : l.length = 1) :
    Calls Tryz.prog 27 #[.agg (vcells ⟨5, i, m, t, l⟩ (.slice a l.length c))] w fun e w' => e = .returned (.string (str (prV ⟨5, i, m, t, l⟩))) ∧ Below w.heap.size w w' := by
  obtain ⟨W, hW⟩ : ∃ W, w.alloc (.cells (vcells ⟨5, i, m, t, l⟩ (.slice a l.length c)) 46) = W := ⟨_, rfl⟩
  have bW : Below w.heap.size w W := by rw [← hW]; exact alloc_v (Below.refl _ _) _
  have e1 : W.heap[w.heap.size]? = some (.cells (vcells ⟨5, i, m, t, l⟩ (.slice a l.length c)) 46 (0, 0)) := by rw [← hW]; exact World.alloc_heap_new w _
  have zW : w.heap.size < W.heap.size := (Array.getElem?_eq_some_iff.1 e1).1
  have x0 := cells_at e1 0 _ rfl
  have x1 := cells_at e1 1 _ rfl
  have x2 := cells_at e1 2 _ rfl
  have x3 := cells_at e1 3 _ rfl
  have x4 := cells_at e1 4 _ rfl
  clear e1
  have HN := hide (pr_one i m t l hl1)
  obtain ⟨x, rfl⟩ : ∃ x, l = [x] := by
    cases l with
    | nil => simp at hl1
    | cons x l => cases l with
      | nil => exact ⟨x, rfl⟩
      | cons y l => simp at hl1
  have e : Lib.join ([x].map prV) [44, 32] = prV x := by rw [List.map_cons, List.map_nil, Lib.join_one]
  rw [e] at HN
  have hlen := congrArg List.length HN.out
  simp at hlen
  rw [HN.out]
  obtain ⟨b1, o1, s1, ea, g1, p0, p1, p2, p3, p4, p5, p6⟩ := (hi.below (bW.mono hB)).item 0 (by simp)
  simp only [List.length_cons, List.length_nil, Nat.zero_add, List.getElem_cons_zero, Nat.zero_mul, Nat.add_zero] at *
  subst ea
  have HW := hide (hC x W B s1 (hf x (by simp)) p6 (hz x (by simp)) (by omega) (hT.below bW) (by have := bW.size; omega) p5)
  obtain ⟨xx1, yy1, rfl, _⟩ := p5.len
  generalize x.items = xi at *
  obtain ⟨J, hJ⟩ : ∃ J, prV x = J := ⟨_, rfl⟩
  rw [hJ] at hlen HW ⊢
  obtain ⟨s2, h2⟩ : ∃ s2, str ([40] ++ J) = s2 := ⟨_, rfl⟩
  obtain ⟨s3, h3⟩ : ∃ s3, str ([40] ++ J ++ [44, 41]) = s3 := ⟨_, rfl⟩
  have c1 : ∀ U, (Op.stringOp .add ⟨#[40]⟩ (str J)).run Tryz.prog U = .ok (.string s2) U := fun U => by rw [← h2]; exact cat [40] J (by simp; omega) U
  have c2 : ∀ U, (Op.stringOp .add s2 ⟨#[44, 41]⟩).run Tryz.prog U = .ok (.string s3) U := fun U => by rw [← h3, ← h2]; exact cat ([40] ++ J) [44, 41] (by simp; omega) U
  have H3 := hide h3
  clear hn hlen HN hi hC hf hz hT h2 h3 hJ p5 p6 g1 e
  go_enter Tryz.func27, Tryz.ntmps27
  go_wp2_with (go_at_call 27; refine HW.out.mono ?_; clear HW; rintro e w1 ⟨rfl, b1⟩)
  go_ret
  exact ⟨by rw [← H3.out]; rfl, trans_v bW b1⟩
theorem written_k : ∀ n, WrC n
  | 0 => fun _ _ _ _ _ _ _ _ _ _ h => h.elim
  | n + 1 => fun v w B sl hf hok hz hn hT hB hi => by
    obtain ⟨⟨hu, hg⟩, hall⟩ := form_parts hf
    obtain ⟨a, c, rfl, _⟩ := hi.len
    have hsz : ∀ x ∈ v.items, x.size ≤ 1000000000 := fun x hx => by have := Vl.size_item hx; omega
    have hll : v.items.length ≤ 1000000000 := by have := size_len v; omega
    obtain ⟨k, i, m, t, l⟩ := v
    obtain ⟨ok1, ⟨ok2, ok3⟩, ok4, ok5⟩ := hok
    unfold goodB at hg
    simp only at *
    split at hg
    · rename_i h
      rcases h with rfl | rfl | rfl | rfl
      · exact wr_int i m t l a c w ok2 ok3 hT
      · by_cases h1 : l.length = 1
        · exact wr_one i m t l a c w (written_k n) hB hi hall hsz hll hn hT h1
        · exact wr_tuple i m t l a c w (written_k n) hB hi hall hsz hll hn hT h1
      · exact wr_list i m t l a c w (written_k n) hB hi hall hsz hll hn hT
      · exact wr_set i m t l a c w (written_k n) hB hi hall hsz hll hn hT
    · split at hg
      · rename_i h
        subst h
        exact wr_bool i m t l a c w (by simpa using hg)
      · split at hg
        · rename_i h
          subst h
          exact wr_sym i m t l a c w
        · split at hg
          · rename_i h
            subst h
            exact wr_gauss i m t l a c w ok2 ok3 ok4 ok5 hn hT
          · cases hg
end Go.Proofs.YthmhcpghfbifiaaGreatDoor
