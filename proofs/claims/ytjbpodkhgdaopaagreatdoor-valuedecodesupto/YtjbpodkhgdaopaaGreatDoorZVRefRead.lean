/- The reference's Decode: a value that has no items, and what is none. -/
import Derived.Test.YtjbpodkhgdaopaaGreatDoorZVRefTake
import Derived.Test.YtjbpodkhgdaopaaGreatDoorZVDecW
namespace Go.Proofs.YtjbpodkhgdaopaaGreatDoor
open Go.RowKit

/-- How many parts may come, in a cell. -/
def LeftI (w : World) (lb : Nat) (z : Int) : Prop := w.heap[lb]? = some (.cells #[.int .i64 z] 3 (0, 0))
/-- What read answers: a value, where it goes on, how many parts were begun. -/
def RdYes (w : World) (lb n : Nat) (v : Vl) (p' q' : Nat) (e : Ending) (w' : World) : Prop := ∃ s', e = .returned (.tuple #[.agg (vcells v s'), .int .i64 p']) ∧ ItemsIn w' (fun b => w.heap.size ≤ b ∧ b < w'.heap.size) n s' v.items ∧ LeftI w' lb ((4096 : Int) - q') ∧ w.grownBy w' (some lb)
def RdNo (w : World) (lb : Nat) (e : Ending) (w' : World) : Prop := ∃ (k i m : Int) (t : ByteArray) (a : Option Addr) (n c : Nat), e = .returned (.tuple #[.agg #[.int .i64 k, .int .i64 i, .int .i64 m, .string t, .slice a n c], .int .i64 (-1)]) ∧ w.grownBy w' (some lb)
/-- Within read: the result's block, and how many may come. -/
structure RSt (w X : World) (lb : Nat) (z : Int) : Prop where
  res : X.heap[w.heap.size]? = some (.cells zcells 26 (0, 0))
  lft : LeftI X lb z
  gr : w.grownBy X (some lb)
  lt : lb < w.heap.size
  sz : X.heap.size = w.heap.size + 1
theorem rst_start (w W : World) (lb : Nat) (z : Int) (hL : LeftI w lb z) (hW : w.alloc (.cells zcells 26) = W) : RSt w (W.setCell ⟨lb, 0, none⟩ (.int .i64 (z - 1))) lb (z - 1) := by
  have hlb : lb < w.heap.size := (Array.getElem?_eq_some_iff.1 hL).1
  have bW : Below w.heap.size w W := by rw [← hW]; exact alloc_v (Below.refl _ _) _
  have zW : W.heap.size = w.heap.size + 1 := by rw [← hW]; simp
  have e1 : W.heap[w.heap.size]? = some (.cells zcells 26 (0, 0)) := by rw [← hW]; exact World.alloc_heap_new w _
  have f1 : LeftI W lb z := (bW.block _ hlb).trans hL
  have f2 := heap_setCell_same _ _ 0 _ _ (.int .i64 (z - 1)) f1
  exact ⟨(Below.heap_setCell _ _ _ _ (by show w.heap.size ≠ lb; omega)).trans e1, f2, grown_more (grown_of_below bW) (grown_set1 _ _ _ _), hlb, by simp [World.setCell, zW]⟩
/-- The value is laid into the result. -/
theorem RSt.done {w X : World} {lb : Nat} {z : Int} (h : RSt w X lb z) (x0 x1 x2 x3 x4 : Value) (V : Array Value) :
    ((((((X.setCell ⟨w.heap.size, 0, none⟩ x0).setCell ⟨w.heap.size, 1, none⟩ x1).setCell ⟨w.heap.size, 2, none⟩ x2).setCell ⟨w.heap.size, 3, none⟩ x3).setCell ⟨w.heap.size, 4, none⟩ x4).alloc (.cells V 26)).heap[w.heap.size]? = some (.cells #[x0, x1, x2, x3, x4] 26 (0, 0)) ∧
    LeftI ((((((X.setCell ⟨w.heap.size, 0, none⟩ x0).setCell ⟨w.heap.size, 1, none⟩ x1).setCell ⟨w.heap.size, 2, none⟩ x2).setCell ⟨w.heap.size, 3, none⟩ x3).setCell ⟨w.heap.size, 4, none⟩ x4).alloc (.cells V 26)) lb z ∧
    w.grownBy ((((((X.setCell ⟨w.heap.size, 0, none⟩ x0).setCell ⟨w.heap.size, 1, none⟩ x1).setCell ⟨w.heap.size, 2, none⟩ x2).setCell ⟨w.heap.size, 3, none⟩ x3).setCell ⟨w.heap.size, 4, none⟩ x4).alloc (.cells V 26)) (some lb) := by
  have g1 := heap_setCell_same _ _ 0 _ _ x0 h.res
  have g2 := heap_setCell_same _ _ 1 _ _ x1 g1
  have g3 := heap_setCell_same _ _ 2 _ _ x2 g2
  have g4 := heap_setCell_same _ _ 3 _ _ x3 g3
  have g5 := heap_setCell_same _ _ 4 _ _ x4 g4
  have hl := h.lt
  have nl : lb ≠ w.heap.size := by omega
  have hz : (((((X.setCell ⟨w.heap.size, 0, none⟩ x0).setCell ⟨w.heap.size, 1, none⟩ x1).setCell ⟨w.heap.size, 2, none⟩ x2).setCell ⟨w.heap.size, 3, none⟩ x3).setCell ⟨w.heap.size, 4, none⟩ x4).heap.size = w.heap.size + 1 := by simp [World.setCell, h.sz]
  refine ⟨(Below.heap_alloc _ _ _ (by omega)).trans g5, ?_, grown_more (grown_far (grown_far (grown_far (grown_far (grown_far h.gr (Nat.le_refl _)) (Nat.le_refl _)) (Nat.le_refl _)) (Nat.le_refl _)) (Nat.le_refl _)) (grown_of_below (alloc_v (Below.refl _ _) _))⟩
  unfold LeftI
  rw [Below.heap_alloc _ _ _ (by omega), Below.heap_setCell _ _ _ _ nl, Below.heap_setCell _ _ _ _ nl, Below.heap_setCell _ _ _ _ nl, Below.heap_setCell _ _ _ _ nl, Below.heap_setCell _ _ _ _ nl]
  exact h.lft
theorem itemsIn_nil (w : World) (S : Nat → Prop) (n : Nat) : ItemsIn w S (n + 1) (.slice none 0 0) [] := ⟨none, 0, rfl, Nat.zero_le _, fun j hj => by simp at hj⟩
set_option maxRecDepth 100000 in
set_option maxHeartbeats 4000000 in
theorem read_low (n : Nat) (w : World) (lb B q i : Nat) (sl : Value) (l : List UInt8) (hL : LeftI w lb ((4096 : Int) - q)) (hB : BytesIn w 0 B sl l) (hb : B ≤ lb) (hi : i < l.length) (hl : l.length ≤ 1000000000000) (hq : q + 1 ≤ 4096) (hn : n ≤ 15) (k : UInt8) (r : List UInt8) (hs : l.drop i = k :: r) (hk : k.toNat = 0) :
    Calls Tryz.prog 19 #[sl, .int .i64 i, .int .i64 ((16 : Int) - n), .pointer (some ⟨lb, 0, none⟩)] w fun e w' => RdNo w lb e w' := by
  obtain ⟨a, c, rfl, _⟩ := id hB
  have hlb : lb < w.heap.size := (Array.getElem?_eq_some_iff.1 hL).1
  obtain ⟨z, hz⟩ : ∃ z : Int, (4096 : Int) - q = z := ⟨_, rfl⟩
  have hzq : ((4096 : Int) - ((q + 1 : Nat) : Int)) = z - 1 := by omega
  have hz0 : 1 ≤ z ∧ z ≤ 4096 := by omega
  rw [hz] at hL
  obtain ⟨W, hW⟩ : ∃ W, w.alloc (.cells zcells 26) = W := ⟨_, rfl⟩
  have bW : Below w.heap.size w W := by rw [← hW]; exact alloc_v (Below.refl _ _) _
  have zW : W.heap.size = w.heap.size + 1 := by rw [← hW]; simp
  have f1 : LeftI W lb z := (bW.block _ hlb).trans hL
  have x0 := cells_at f1 0 _ rfl
  have v0 := frozen_at f1 0
  have hsub : IntKind.i64.wrap (z - 1) = z - 1 := by rw [IntKind.wrap_i64]; omega
  have hzn : ¬ (z - 1 < 0) := by omega
  have hdn : ¬ ((16 : Int) < (16 : Int) - n) := by omega
  have hdl : (l.drop i).length = l.length - i := List.length_drop
  have hrl : r.length + 1 = l.length - i := by rw [hs] at hdl; simpa using hdl
  have hdc := List.drop_eq_getElem_cons hi
  rw [hs] at hdc
  obtain ⟨hk1, hr1⟩ := List.cons.inj hdc
  have HDR : Hid (l.drop (i + 1) = r) := hide hr1.symm
  have S := hide (rst_start w W lb z hL hW)
  have sz := (rst_start w W lb z hL hW).sz
  have GX : w.grownBy (W.setCell ⟨lb, 0, none⟩ (.int .i64 (z - 1))) (some lb) := grown_more (grown_of_below bW) (grown_set1 _ _ _ _)
  have HBX := hB.grownV GX hb (by omega)
  have hcell : ∃ b off, a = some ⟨b, off, none⟩ ∧ (W.setCell ⟨lb, 0, none⟩ (.int .i64 (z - 1))).cell? ⟨b, off + i, none⟩ = some (.int .u8 (k.toNat : Int)) := by
    rcases HBX.plain.elim with ⟨e, _⟩ | ⟨_, b, off, c', e, h7⟩
    · rw [e] at hi; simp at hi
    · simp only [Value.slice.injEq] at e
      refine ⟨b, off, e.1, ?_⟩
      have h8 := h7 i hi
      rw [← hk1] at h8
      exact h8
  obtain ⟨b, off, rfl, hcell⟩ := hcell
  have p0 : (0 : Int) ≤ (i : Int) := by omega
  have p1 : (i : Int) < (l.length : Int) := by omega
  rw [show (k.toNat : Int) = 0 by omega] at hcell
  clear hk
  have r0 := cells_at S.out.res 0 _ rfl
  have rz0 := frozen_at S.out.res 0
  have r1 := cells_at S.out.res 1 _ rfl
  have rz1 := frozen_at S.out.res 1
  have r2 := cells_at S.out.res 2 _ rfl
  have rz2 := frozen_at S.out.res 2
  have r3 := cells_at S.out.res 3 _ rfl
  have rz3 := frozen_at S.out.res 3
  have r4 := cells_at S.out.res 4 _ rfl
  have rz4 := frozen_at S.out.res 4
  have ZQ := hide hzq
  clear hL hB f1 GX hzq hdl hs hz HBX hdc hk1 hr1 hrl
  go_enter Tryz.func19, Tryz.ntmps19
  go_wp2
  have D := RSt.done S.out (.int .i64 0) (.int .i64 0) (.int .i64 0) (.string ⟨#[]⟩) (.slice none 0 0) #[.int .i64 0, .int .i64 0, .int .i64 0, .string ⟨#[]⟩, .slice none 0 0]
  refine bodyPost_ret (results_struct_tmp rfl _ _ w.heap.size _ _ _ _ rfl D.1 Tryz.underlying26 rfl infoVal5) rfl ?_
  exact ⟨_, _, _, _, _, _, _, rfl, D.2.2⟩
set_option maxRecDepth 100000 in
set_option maxHeartbeats 4000000 in
theorem read_high (n : Nat) (w : World) (lb B q i : Nat) (sl : Value) (l : List UInt8) (hL : LeftI w lb ((4096 : Int) - q)) (hB : BytesIn w 0 B sl l) (hb : B ≤ lb) (hi : i < l.length) (hl : l.length ≤ 1000000000000) (hq : q + 1 ≤ 4096) (hn : n ≤ 15) (k : UInt8) (r : List UInt8) (hs : l.drop i = k :: r) (hk : 7 < k.toNat) :
    Calls Tryz.prog 19 #[sl, .int .i64 i, .int .i64 ((16 : Int) - n), .pointer (some ⟨lb, 0, none⟩)] w fun e w' => RdNo w lb e w' := by
  obtain ⟨a, c, rfl, _⟩ := id hB
  have hlb : lb < w.heap.size := (Array.getElem?_eq_some_iff.1 hL).1
  obtain ⟨z, hz⟩ : ∃ z : Int, (4096 : Int) - q = z := ⟨_, rfl⟩
  have hzq : ((4096 : Int) - ((q + 1 : Nat) : Int)) = z - 1 := by omega
  have hz0 : 1 ≤ z ∧ z ≤ 4096 := by omega
  rw [hz] at hL
  obtain ⟨W, hW⟩ : ∃ W, w.alloc (.cells zcells 26) = W := ⟨_, rfl⟩
  have bW : Below w.heap.size w W := by rw [← hW]; exact alloc_v (Below.refl _ _) _
  have zW : W.heap.size = w.heap.size + 1 := by rw [← hW]; simp
  have f1 : LeftI W lb z := (bW.block _ hlb).trans hL
  have x0 := cells_at f1 0 _ rfl
  have v0 := frozen_at f1 0
  have hsub : IntKind.i64.wrap (z - 1) = z - 1 := by rw [IntKind.wrap_i64]; omega
  have hzn : ¬ (z - 1 < 0) := by omega
  have hdn : ¬ ((16 : Int) < (16 : Int) - n) := by omega
  have hdl : (l.drop i).length = l.length - i := List.length_drop
  have hrl : r.length + 1 = l.length - i := by rw [hs] at hdl; simpa using hdl
  have hdc := List.drop_eq_getElem_cons hi
  rw [hs] at hdc
  obtain ⟨hk1, hr1⟩ := List.cons.inj hdc
  have HDR : Hid (l.drop (i + 1) = r) := hide hr1.symm
  have S := hide (rst_start w W lb z hL hW)
  have sz := (rst_start w W lb z hL hW).sz
  have GX : w.grownBy (W.setCell ⟨lb, 0, none⟩ (.int .i64 (z - 1))) (some lb) := grown_more (grown_of_below bW) (grown_set1 _ _ _ _)
  have HBX := hB.grownV GX hb (by omega)
  have hcell : ∃ b off, a = some ⟨b, off, none⟩ ∧ (W.setCell ⟨lb, 0, none⟩ (.int .i64 (z - 1))).cell? ⟨b, off + i, none⟩ = some (.int .u8 (k.toNat : Int)) := by
    rcases HBX.plain.elim with ⟨e, _⟩ | ⟨_, b, off, c', e, h7⟩
    · rw [e] at hi; simp at hi
    · simp only [Value.slice.injEq] at e
      refine ⟨b, off, e.1, ?_⟩
      have h8 := h7 i hi
      rw [← hk1] at h8
      exact h8
  obtain ⟨b, off, rfl, hcell⟩ := hcell
  have p0 : (0 : Int) ≤ (i : Int) := by omega
  have p1 : (i : Int) < (l.length : Int) := by omega
  have hkl := k.toNat_lt
  obtain ⟨y, hy⟩ : ∃ y : Int, (k.toNat : Int) = y := ⟨_, rfl⟩
  have hwy : wrap64 y = y := by unfold wrap64; omega
  have n1 : (y == 1) = false := beq_eq_false_iff_ne.2 (by omega)
  rw [hy] at hcell
  have hy7 : (7 : Int) < y := by omega
  have hy2 : ¬ (y < 2) := by omega
  clear hk hkl hy
  have r0 := cells_at S.out.res 0 _ rfl
  have rz0 := frozen_at S.out.res 0
  have r1 := cells_at S.out.res 1 _ rfl
  have rz1 := frozen_at S.out.res 1
  have r2 := cells_at S.out.res 2 _ rfl
  have rz2 := frozen_at S.out.res 2
  have r3 := cells_at S.out.res 3 _ rfl
  have rz3 := frozen_at S.out.res 3
  have r4 := cells_at S.out.res 4 _ rfl
  have rz4 := frozen_at S.out.res 4
  have ZQ := hide hzq
  clear hL hB f1 GX hzq hdl hs hz HBX hdc hk1 hr1 hrl
  go_enter Tryz.func19, Tryz.ntmps19
  go_wp2
  have D := RSt.done S.out (.int .i64 y) (.int .i64 0) (.int .i64 0) (.string ⟨#[]⟩) (.slice none 0 0) #[.int .i64 y, .int .i64 0, .int .i64 0, .string ⟨#[]⟩, .slice none 0 0]
  refine bodyPost_ret (results_struct_tmp rfl _ _ w.heap.size _ _ _ _ rfl D.1 Tryz.underlying26 rfl infoVal5) rfl ?_
  exact ⟨_, _, _, _, _, _, _, rfl, D.2.2⟩
set_option maxRecDepth 100000 in
set_option maxHeartbeats 4000000 in
theorem read_bool_no (n : Nat) (w : World) (lb B q i : Nat) (sl : Value) (l : List UInt8) (hL : LeftI w lb ((4096 : Int) - q)) (hB : BytesIn w 0 B sl l) (hb : B ≤ lb) (hi : i < l.length) (hl : l.length ≤ 1000000000000) (hq : q + 1 ≤ 4096) (hn : n ≤ 15) (k : UInt8) (r : List UInt8) (hs : l.drop i = k :: r) (hk : k.toNat = 1) (hr : r = []) :
    Calls Tryz.prog 19 #[sl, .int .i64 i, .int .i64 ((16 : Int) - n), .pointer (some ⟨lb, 0, none⟩)] w fun e w' => RdNo w lb e w' := by
  obtain ⟨a, c, rfl, _⟩ := id hB
  have hlb : lb < w.heap.size := (Array.getElem?_eq_some_iff.1 hL).1
  obtain ⟨z, hz⟩ : ∃ z : Int, (4096 : Int) - q = z := ⟨_, rfl⟩
  have hzq : ((4096 : Int) - ((q + 1 : Nat) : Int)) = z - 1 := by omega
  have hz0 : 1 ≤ z ∧ z ≤ 4096 := by omega
  rw [hz] at hL
  obtain ⟨W, hW⟩ : ∃ W, w.alloc (.cells zcells 26) = W := ⟨_, rfl⟩
  have bW : Below w.heap.size w W := by rw [← hW]; exact alloc_v (Below.refl _ _) _
  have zW : W.heap.size = w.heap.size + 1 := by rw [← hW]; simp
  have f1 : LeftI W lb z := (bW.block _ hlb).trans hL
  have x0 := cells_at f1 0 _ rfl
  have v0 := frozen_at f1 0
  have hsub : IntKind.i64.wrap (z - 1) = z - 1 := by rw [IntKind.wrap_i64]; omega
  have hzn : ¬ (z - 1 < 0) := by omega
  have hdn : ¬ ((16 : Int) < (16 : Int) - n) := by omega
  have hdl : (l.drop i).length = l.length - i := List.length_drop
  have hrl : r.length + 1 = l.length - i := by rw [hs] at hdl; simpa using hdl
  have hdc := List.drop_eq_getElem_cons hi
  rw [hs] at hdc
  obtain ⟨hk1, hr1⟩ := List.cons.inj hdc
  have HDR : Hid (l.drop (i + 1) = r) := hide hr1.symm
  have S := hide (rst_start w W lb z hL hW)
  have sz := (rst_start w W lb z hL hW).sz
  have GX : w.grownBy (W.setCell ⟨lb, 0, none⟩ (.int .i64 (z - 1))) (some lb) := grown_more (grown_of_below bW) (grown_set1 _ _ _ _)
  have HBX := hB.grownV GX hb (by omega)
  have hcell : ∃ b off, a = some ⟨b, off, none⟩ ∧ (W.setCell ⟨lb, 0, none⟩ (.int .i64 (z - 1))).cell? ⟨b, off + i, none⟩ = some (.int .u8 (k.toNat : Int)) := by
    rcases HBX.plain.elim with ⟨e, _⟩ | ⟨_, b, off, c', e, h7⟩
    · rw [e] at hi; simp at hi
    · simp only [Value.slice.injEq] at e
      refine ⟨b, off, e.1, ?_⟩
      have h8 := h7 i hi
      rw [← hk1] at h8
      exact h8
  obtain ⟨b, off, rfl, hcell⟩ := hcell
  have p0 : (0 : Int) ≤ (i : Int) := by omega
  have p1 : (i : Int) < (l.length : Int) := by omega
  have p2 : (i : Int) + 1 = (l.length : Int) := by rw [hr] at hrl; simp at hrl; omega
  rw [show (k.toNat : Int) = 1 by omega] at hcell
  clear hk
  have r0 := cells_at S.out.res 0 _ rfl
  have rz0 := frozen_at S.out.res 0
  have r1 := cells_at S.out.res 1 _ rfl
  have rz1 := frozen_at S.out.res 1
  have r2 := cells_at S.out.res 2 _ rfl
  have rz2 := frozen_at S.out.res 2
  have r3 := cells_at S.out.res 3 _ rfl
  have rz3 := frozen_at S.out.res 3
  have r4 := cells_at S.out.res 4 _ rfl
  have rz4 := frozen_at S.out.res 4
  have p3 : (l.length : Int) ≤ (i : Int) + 1 := by omega
  have ZQ := hide hzq
  clear hL hB f1 GX hzq hdl hs hz HBX hdc hk1 hr1 hrl
  go_enter Tryz.func19, Tryz.ntmps19
  go_wp2
  have D := RSt.done S.out (.int .i64 1) (.int .i64 0) (.int .i64 0) (.string ⟨#[]⟩) (.slice none 0 0) #[.int .i64 1, .int .i64 0, .int .i64 0, .string ⟨#[]⟩, .slice none 0 0]
  refine bodyPost_ret (results_struct_tmp rfl _ _ w.heap.size _ _ _ _ rfl D.1 Tryz.underlying26 rfl infoVal5) rfl ?_
  exact ⟨_, _, _, _, _, _, _, rfl, D.2.2⟩
set_option maxRecDepth 100000 in
set_option maxHeartbeats 4000000 in
theorem read_bool (n : Nat) (w : World) (lb B q i : Nat) (sl : Value) (l : List UInt8) (hL : LeftI w lb ((4096 : Int) - q)) (hB : BytesIn w 0 B sl l) (hb : B ≤ lb) (hi : i < l.length) (hl : l.length ≤ 1000000000000) (hq : q + 1 ≤ 4096) (hn : n ≤ 15) (k : UInt8) (r : List UInt8) (hs : l.drop i = k :: r) (hk : k.toNat = 1) (y : UInt8) (r2 : List UInt8) (hr : r = y :: r2) :
    Calls Tryz.prog 19 #[sl, .int .i64 i, .int .i64 ((16 : Int) - n), .pointer (some ⟨lb, 0, none⟩)] w fun e w' => RdYes w lb (n + 1) ⟨1, y.toNat, 0, ⟨#[]⟩, []⟩ (i + 2) (q + 1) e w' := by
  obtain ⟨a, c, rfl, _⟩ := id hB
  have hlb : lb < w.heap.size := (Array.getElem?_eq_some_iff.1 hL).1
  obtain ⟨z, hz⟩ : ∃ z : Int, (4096 : Int) - q = z := ⟨_, rfl⟩
  have hzq : ((4096 : Int) - ((q + 1 : Nat) : Int)) = z - 1 := by omega
  have hz0 : 1 ≤ z ∧ z ≤ 4096 := by omega
  rw [hz] at hL
  obtain ⟨W, hW⟩ : ∃ W, w.alloc (.cells zcells 26) = W := ⟨_, rfl⟩
  have bW : Below w.heap.size w W := by rw [← hW]; exact alloc_v (Below.refl _ _) _
  have zW : W.heap.size = w.heap.size + 1 := by rw [← hW]; simp
  have f1 : LeftI W lb z := (bW.block _ hlb).trans hL
  have x0 := cells_at f1 0 _ rfl
  have v0 := frozen_at f1 0
  have hsub : IntKind.i64.wrap (z - 1) = z - 1 := by rw [IntKind.wrap_i64]; omega
  have hzn : ¬ (z - 1 < 0) := by omega
  have hdn : ¬ ((16 : Int) < (16 : Int) - n) := by omega
  have hdl : (l.drop i).length = l.length - i := List.length_drop
  have hrl : r.length + 1 = l.length - i := by rw [hs] at hdl; simpa using hdl
  have hdc := List.drop_eq_getElem_cons hi
  rw [hs] at hdc
  obtain ⟨hk1, hr1⟩ := List.cons.inj hdc
  have HDR : Hid (l.drop (i + 1) = r) := hide hr1.symm
  have S := hide (rst_start w W lb z hL hW)
  have sz := (rst_start w W lb z hL hW).sz
  have GX : w.grownBy (W.setCell ⟨lb, 0, none⟩ (.int .i64 (z - 1))) (some lb) := grown_more (grown_of_below bW) (grown_set1 _ _ _ _)
  have HBX := hB.grownV GX hb (by omega)
  have hcell : ∃ b off, a = some ⟨b, off, none⟩ ∧ (W.setCell ⟨lb, 0, none⟩ (.int .i64 (z - 1))).cell? ⟨b, off + i, none⟩ = some (.int .u8 (k.toNat : Int)) := by
    rcases HBX.plain.elim with ⟨e, _⟩ | ⟨_, b, off, c', e, h7⟩
    · rw [e] at hi; simp at hi
    · simp only [Value.slice.injEq] at e
      refine ⟨b, off, e.1, ?_⟩
      have h8 := h7 i hi
      rw [← hk1] at h8
      exact h8
  obtain ⟨b, off, rfl, hcell⟩ := hcell
  have p0 : (0 : Int) ≤ (i : Int) := by omega
  have p1 : (i : Int) < (l.length : Int) := by omega
  have hi2 : i + 1 < l.length := by rw [hr] at hrl; simp at hrl; omega
  have hcell2 : (W.setCell ⟨lb, 0, none⟩ (.int .i64 (z - 1))).cell? ⟨b, off + (i + 1), none⟩ = some (.int .u8 (y.toNat : Int)) := by
    rcases HBX.plain.elim with ⟨e, _⟩ | ⟨_, b', off', c', e, h7⟩
    · rw [e] at hi; simp at hi
    · simp only [Value.slice.injEq, Option.some.injEq, Addr.mk.injEq] at e
      obtain ⟨⟨rfl, rfl, _⟩, _⟩ := e
      have h8 := h7 (i + 1) hi2
      have hd2 := List.drop_eq_getElem_cons hi2
      rw [HDR.out, hr] at hd2
      rw [← (List.cons.inj hd2).1] at h8
      exact h8
  have p2 : (i : Int) + 1 < (l.length : Int) := by omega
  have p3 : (0 : Int) ≤ (i : Int) + 1 := by omega
  have hyl := y.toNat_lt
  obtain ⟨x, hx⟩ : ∃ x : Int, (y.toNat : Int) = x := ⟨_, rfl⟩
  have hwx : wrap64 x = x := by unfold wrap64; omega
  rw [hx] at hcell2 ⊢
  have hcell3 := fun ob : Obj => (World.cell?_alloc_some (W.setCell ⟨lb, 0, none⟩ (.int .i64 (z - 1))) ⟨b, off + (i + 1), none⟩ ob (by rw [hcell2]; rfl)).trans hcell2
  clear hx hyl
  rw [show (k.toNat : Int) = 1 by omega] at hcell
  clear hk
  have r0 := cells_at S.out.res 0 _ rfl
  have rz0 := frozen_at S.out.res 0
  have r1 := cells_at S.out.res 1 _ rfl
  have rz1 := frozen_at S.out.res 1
  have r2 := cells_at S.out.res 2 _ rfl
  have rz2 := frozen_at S.out.res 2
  have r3 := cells_at S.out.res 3 _ rfl
  have rz3 := frozen_at S.out.res 3
  have r4 := cells_at S.out.res 4 _ rfl
  have rz4 := frozen_at S.out.res 4
  have ZQ := hide hzq
  clear hL hB f1 GX hzq hdl hs hz HBX hdc hk1 hr1 hrl
  go_enter Tryz.func19, Tryz.ntmps19
  go_wp2
  have D := RSt.done S.out (.int .i64 1) (.int .i64 x) (.int .i64 0) (.string ⟨#[]⟩) (.slice none 0 0) #[.int .i64 1, .int .i64 x, .int .i64 0, .string ⟨#[]⟩, .slice none 0 0]
  refine bodyPost_ret (results_struct_tmp rfl _ _ w.heap.size _ _ _ _ rfl D.1 Tryz.underlying26 rfl infoVal5) rfl ?_
  refine ⟨.slice none 0 0, by go_num, itemsIn_nil _ _ _, ?_, D.2.2⟩
  rw [ZQ.out]
  exact D.2.1
set_option maxRecDepth 100000 in
set_option maxHeartbeats 4000000 in
theorem read_take_no2 (n : Nat) (w : World) (lb B q i : Nat) (sl : Value) (l : List UInt8) (hL : LeftI w lb ((4096 : Int) - q)) (hB : BytesIn w 0 B sl l) (hb : B ≤ lb) (hi : i < l.length) (hl : l.length ≤ 1000000000000) (hq : q + 1 ≤ 4096) (hn : n ≤ 15) (k : UInt8) (r : List UInt8) (hs : l.drop i = k :: r) (hk : k.toNat = 2) (hf : ¬ (front r).2.2 = 0) :
    Calls Tryz.prog 19 #[sl, .int .i64 i, .int .i64 ((16 : Int) - n), .pointer (some ⟨lb, 0, none⟩)] w fun e w' => RdNo w lb e w' := by
  obtain ⟨a, c, rfl, _⟩ := id hB
  have hlb : lb < w.heap.size := (Array.getElem?_eq_some_iff.1 hL).1
  obtain ⟨z, hz⟩ : ∃ z : Int, (4096 : Int) - q = z := ⟨_, rfl⟩
  have hzq : ((4096 : Int) - ((q + 1 : Nat) : Int)) = z - 1 := by omega
  have hz0 : 1 ≤ z ∧ z ≤ 4096 := by omega
  rw [hz] at hL
  obtain ⟨W, hW⟩ : ∃ W, w.alloc (.cells zcells 26) = W := ⟨_, rfl⟩
  have bW : Below w.heap.size w W := by rw [← hW]; exact alloc_v (Below.refl _ _) _
  have zW : W.heap.size = w.heap.size + 1 := by rw [← hW]; simp
  have f1 : LeftI W lb z := (bW.block _ hlb).trans hL
  have x0 := cells_at f1 0 _ rfl
  have v0 := frozen_at f1 0
  have hsub : IntKind.i64.wrap (z - 1) = z - 1 := by rw [IntKind.wrap_i64]; omega
  have hzn : ¬ (z - 1 < 0) := by omega
  have hdn : ¬ ((16 : Int) < (16 : Int) - n) := by omega
  have hdl : (l.drop i).length = l.length - i := List.length_drop
  have hrl : r.length + 1 = l.length - i := by rw [hs] at hdl; simpa using hdl
  have hdc := List.drop_eq_getElem_cons hi
  rw [hs] at hdc
  obtain ⟨hk1, hr1⟩ := List.cons.inj hdc
  have HDR : Hid (l.drop (i + 1) = r) := hide hr1.symm
  have S := hide (rst_start w W lb z hL hW)
  have sz := (rst_start w W lb z hL hW).sz
  have GX : w.grownBy (W.setCell ⟨lb, 0, none⟩ (.int .i64 (z - 1))) (some lb) := grown_more (grown_of_below bW) (grown_set1 _ _ _ _)
  have HBX := hB.grownV GX hb (by omega)
  have hcell : ∃ b off, a = some ⟨b, off, none⟩ ∧ (W.setCell ⟨lb, 0, none⟩ (.int .i64 (z - 1))).cell? ⟨b, off + i, none⟩ = some (.int .u8 (k.toNat : Int)) := by
    rcases HBX.plain.elim with ⟨e, _⟩ | ⟨_, b, off, c', e, h7⟩
    · rw [e] at hi; simp at hi
    · simp only [Value.slice.injEq] at e
      refine ⟨b, off, e.1, ?_⟩
      have h8 := h7 i hi
      rw [← hk1] at h8
      exact h8
  obtain ⟨b, off, rfl, hcell⟩ := hcell
  have p0 : (0 : Int) ≤ (i : Int) := by omega
  have p1 : (i : Int) < (l.length : Int) := by omega
  have HTK := hide (take4_k ((W.setCell ⟨lb, 0, none⟩ (.int .i64 (z - 1))).alloc (.cells #[.int .i64 2, .int .i64 0, .int .i64 0, .string ⟨#[]⟩, .slice none 0 0] 26)) B (some ⟨b, off, none⟩) c l (i + 1) (hB.grownV (grown_more GX (grown_of_below (alloc_v (Below.refl _ _) _))) hb (by omega)) (by omega) hl)
  rw [HDR.out, show ((i + 1 : Nat) : Int) = (i : Int) + 1 by omega] at HTK
  rw [show tkI r (i + 1) = -1 from if_neg hf] at HTK
  generalize (front r).1 = fv at *
  clear hf
  rw [show (k.toNat : Int) = 2 by omega] at hcell
  clear hk
  have r0 := cells_at S.out.res 0 _ rfl
  have rz0 := frozen_at S.out.res 0
  have r1 := cells_at S.out.res 1 _ rfl
  have rz1 := frozen_at S.out.res 1
  have r2 := cells_at S.out.res 2 _ rfl
  have rz2 := frozen_at S.out.res 2
  have r3 := cells_at S.out.res 3 _ rfl
  have rz3 := frozen_at S.out.res 3
  have r4 := cells_at S.out.res 4 _ rfl
  have rz4 := frozen_at S.out.res 4
  have ZQ := hide hzq
  clear hL hB f1 GX hzq hdl hs hz HBX hdc hk1 hr1 hrl
  go_enter Tryz.func19, Tryz.ntmps19
  go_wp2_with (go_at_call 36; refine HTK.out.mono ?_; clear HTK; rintro e w2 ⟨rfl, rfl⟩)
  have D := RSt.done S.out (.int .i64 2) (.int .i64 0) (.int .i64 0) (.string ⟨#[]⟩) (.slice none 0 0) #[.int .i64 2, .int .i64 0, .int .i64 0, .string ⟨#[]⟩, .slice none 0 0]
  refine bodyPost_ret (results_struct_tmp rfl _ _ w.heap.size _ _ _ _ rfl D.1 Tryz.underlying26 rfl infoVal5) rfl ?_
  exact ⟨_, _, _, _, _, _, _, rfl, D.2.2⟩
set_option maxRecDepth 100000 in
set_option maxHeartbeats 4000000 in
theorem read_take_no3 (n : Nat) (w : World) (lb B q i : Nat) (sl : Value) (l : List UInt8) (hL : LeftI w lb ((4096 : Int) - q)) (hB : BytesIn w 0 B sl l) (hb : B ≤ lb) (hi : i < l.length) (hl : l.length ≤ 1000000000000) (hq : q + 1 ≤ 4096) (hn : n ≤ 15) (k : UInt8) (r : List UInt8) (hs : l.drop i = k :: r) (hk : k.toNat = 3) (hf : ¬ (front r).2.2 = 0) :
    Calls Tryz.prog 19 #[sl, .int .i64 i, .int .i64 ((16 : Int) - n), .pointer (some ⟨lb, 0, none⟩)] w fun e w' => RdNo w lb e w' := by
  obtain ⟨a, c, rfl, _⟩ := id hB
  have hlb : lb < w.heap.size := (Array.getElem?_eq_some_iff.1 hL).1
  obtain ⟨z, hz⟩ : ∃ z : Int, (4096 : Int) - q = z := ⟨_, rfl⟩
  have hzq : ((4096 : Int) - ((q + 1 : Nat) : Int)) = z - 1 := by omega
  have hz0 : 1 ≤ z ∧ z ≤ 4096 := by omega
  rw [hz] at hL
  obtain ⟨W, hW⟩ : ∃ W, w.alloc (.cells zcells 26) = W := ⟨_, rfl⟩
  have bW : Below w.heap.size w W := by rw [← hW]; exact alloc_v (Below.refl _ _) _
  have zW : W.heap.size = w.heap.size + 1 := by rw [← hW]; simp
  have f1 : LeftI W lb z := (bW.block _ hlb).trans hL
  have x0 := cells_at f1 0 _ rfl
  have v0 := frozen_at f1 0
  have hsub : IntKind.i64.wrap (z - 1) = z - 1 := by rw [IntKind.wrap_i64]; omega
  have hzn : ¬ (z - 1 < 0) := by omega
  have hdn : ¬ ((16 : Int) < (16 : Int) - n) := by omega
  have hdl : (l.drop i).length = l.length - i := List.length_drop
  have hrl : r.length + 1 = l.length - i := by rw [hs] at hdl; simpa using hdl
  have hdc := List.drop_eq_getElem_cons hi
  rw [hs] at hdc
  obtain ⟨hk1, hr1⟩ := List.cons.inj hdc
  have HDR : Hid (l.drop (i + 1) = r) := hide hr1.symm
  have S := hide (rst_start w W lb z hL hW)
  have sz := (rst_start w W lb z hL hW).sz
  have GX : w.grownBy (W.setCell ⟨lb, 0, none⟩ (.int .i64 (z - 1))) (some lb) := grown_more (grown_of_below bW) (grown_set1 _ _ _ _)
  have HBX := hB.grownV GX hb (by omega)
  have hcell : ∃ b off, a = some ⟨b, off, none⟩ ∧ (W.setCell ⟨lb, 0, none⟩ (.int .i64 (z - 1))).cell? ⟨b, off + i, none⟩ = some (.int .u8 (k.toNat : Int)) := by
    rcases HBX.plain.elim with ⟨e, _⟩ | ⟨_, b, off, c', e, h7⟩
    · rw [e] at hi; simp at hi
    · simp only [Value.slice.injEq] at e
      refine ⟨b, off, e.1, ?_⟩
      have h8 := h7 i hi
      rw [← hk1] at h8
      exact h8
  obtain ⟨b, off, rfl, hcell⟩ := hcell
  have p0 : (0 : Int) ≤ (i : Int) := by omega
  have p1 : (i : Int) < (l.length : Int) := by omega
  have HTK := hide (take4_k ((W.setCell ⟨lb, 0, none⟩ (.int .i64 (z - 1))).alloc (.cells #[.int .i64 3, .int .i64 0, .int .i64 0, .string ⟨#[]⟩, .slice none 0 0] 26)) B (some ⟨b, off, none⟩) c l (i + 1) (hB.grownV (grown_more GX (grown_of_below (alloc_v (Below.refl _ _) _))) hb (by omega)) (by omega) hl)
  rw [HDR.out, show ((i + 1 : Nat) : Int) = (i : Int) + 1 by omega] at HTK
  rw [show tkI r (i + 1) = -1 from if_neg hf] at HTK
  generalize (front r).1 = fv at *
  clear hf
  rw [show (k.toNat : Int) = 3 by omega] at hcell
  clear hk
  have r0 := cells_at S.out.res 0 _ rfl
  have rz0 := frozen_at S.out.res 0
  have r1 := cells_at S.out.res 1 _ rfl
  have rz1 := frozen_at S.out.res 1
  have r2 := cells_at S.out.res 2 _ rfl
  have rz2 := frozen_at S.out.res 2
  have r3 := cells_at S.out.res 3 _ rfl
  have rz3 := frozen_at S.out.res 3
  have r4 := cells_at S.out.res 4 _ rfl
  have rz4 := frozen_at S.out.res 4
  have ZQ := hide hzq
  clear hL hB f1 GX hzq hdl hs hz HBX hdc hk1 hr1 hrl
  go_enter Tryz.func19, Tryz.ntmps19
  go_wp2_with (go_at_call 36; refine HTK.out.mono ?_; clear HTK; rintro e w2 ⟨rfl, rfl⟩)
  have D := RSt.done S.out (.int .i64 3) (.int .i64 0) (.int .i64 0) (.string ⟨#[]⟩) (.slice none 0 0) #[.int .i64 3, .int .i64 0, .int .i64 0, .string ⟨#[]⟩, .slice none 0 0]
  refine bodyPost_ret (results_struct_tmp rfl _ _ w.heap.size _ _ _ _ rfl D.1 Tryz.underlying26 rfl infoVal5) rfl ?_
  exact ⟨_, _, _, _, _, _, _, rfl, D.2.2⟩
set_option maxRecDepth 100000 in
set_option maxHeartbeats 4000000 in
theorem read_take_no4 (n : Nat) (w : World) (lb B q i : Nat) (sl : Value) (l : List UInt8) (hL : LeftI w lb ((4096 : Int) - q)) (hB : BytesIn w 0 B sl l) (hb : B ≤ lb) (hi : i < l.length) (hl : l.length ≤ 1000000000000) (hq : q + 1 ≤ 4096) (hn : n ≤ 15) (k : UInt8) (r : List UInt8) (hs : l.drop i = k :: r) (hk : k.toNat = 4) (hf : ¬ (front r).2.2 = 0) :
    Calls Tryz.prog 19 #[sl, .int .i64 i, .int .i64 ((16 : Int) - n), .pointer (some ⟨lb, 0, none⟩)] w fun e w' => RdNo w lb e w' := by
  obtain ⟨a, c, rfl, _⟩ := id hB
  have hlb : lb < w.heap.size := (Array.getElem?_eq_some_iff.1 hL).1
  obtain ⟨z, hz⟩ : ∃ z : Int, (4096 : Int) - q = z := ⟨_, rfl⟩
  have hzq : ((4096 : Int) - ((q + 1 : Nat) : Int)) = z - 1 := by omega
  have hz0 : 1 ≤ z ∧ z ≤ 4096 := by omega
  rw [hz] at hL
  obtain ⟨W, hW⟩ : ∃ W, w.alloc (.cells zcells 26) = W := ⟨_, rfl⟩
  have bW : Below w.heap.size w W := by rw [← hW]; exact alloc_v (Below.refl _ _) _
  have zW : W.heap.size = w.heap.size + 1 := by rw [← hW]; simp
  have f1 : LeftI W lb z := (bW.block _ hlb).trans hL
  have x0 := cells_at f1 0 _ rfl
  have v0 := frozen_at f1 0
  have hsub : IntKind.i64.wrap (z - 1) = z - 1 := by rw [IntKind.wrap_i64]; omega
  have hzn : ¬ (z - 1 < 0) := by omega
  have hdn : ¬ ((16 : Int) < (16 : Int) - n) := by omega
  have hdl : (l.drop i).length = l.length - i := List.length_drop
  have hrl : r.length + 1 = l.length - i := by rw [hs] at hdl; simpa using hdl
  have hdc := List.drop_eq_getElem_cons hi
  rw [hs] at hdc
  obtain ⟨hk1, hr1⟩ := List.cons.inj hdc
  have HDR : Hid (l.drop (i + 1) = r) := hide hr1.symm
  have S := hide (rst_start w W lb z hL hW)
  have sz := (rst_start w W lb z hL hW).sz
  have GX : w.grownBy (W.setCell ⟨lb, 0, none⟩ (.int .i64 (z - 1))) (some lb) := grown_more (grown_of_below bW) (grown_set1 _ _ _ _)
  have HBX := hB.grownV GX hb (by omega)
  have hcell : ∃ b off, a = some ⟨b, off, none⟩ ∧ (W.setCell ⟨lb, 0, none⟩ (.int .i64 (z - 1))).cell? ⟨b, off + i, none⟩ = some (.int .u8 (k.toNat : Int)) := by
    rcases HBX.plain.elim with ⟨e, _⟩ | ⟨_, b, off, c', e, h7⟩
    · rw [e] at hi; simp at hi
    · simp only [Value.slice.injEq] at e
      refine ⟨b, off, e.1, ?_⟩
      have h8 := h7 i hi
      rw [← hk1] at h8
      exact h8
  obtain ⟨b, off, rfl, hcell⟩ := hcell
  have p0 : (0 : Int) ≤ (i : Int) := by omega
  have p1 : (i : Int) < (l.length : Int) := by omega
  have HTK := hide (take4_k ((W.setCell ⟨lb, 0, none⟩ (.int .i64 (z - 1))).alloc (.cells #[.int .i64 4, .int .i64 0, .int .i64 0, .string ⟨#[]⟩, .slice none 0 0] 26)) B (some ⟨b, off, none⟩) c l (i + 1) (hB.grownV (grown_more GX (grown_of_below (alloc_v (Below.refl _ _) _))) hb (by omega)) (by omega) hl)
  rw [HDR.out, show ((i + 1 : Nat) : Int) = (i : Int) + 1 by omega] at HTK
  rw [show tkI r (i + 1) = -1 from if_neg hf] at HTK
  generalize (front r).1 = fv at *
  clear hf
  rw [show (k.toNat : Int) = 4 by omega] at hcell
  clear hk
  have r0 := cells_at S.out.res 0 _ rfl
  have rz0 := frozen_at S.out.res 0
  have r1 := cells_at S.out.res 1 _ rfl
  have rz1 := frozen_at S.out.res 1
  have r2 := cells_at S.out.res 2 _ rfl
  have rz2 := frozen_at S.out.res 2
  have r3 := cells_at S.out.res 3 _ rfl
  have rz3 := frozen_at S.out.res 3
  have r4 := cells_at S.out.res 4 _ rfl
  have rz4 := frozen_at S.out.res 4
  have ZQ := hide hzq
  clear hL hB f1 GX hzq hdl hs hz HBX hdc hk1 hr1 hrl
  go_enter Tryz.func19, Tryz.ntmps19
  go_wp2_with (go_at_call 36; refine HTK.out.mono ?_; clear HTK; rintro e w2 ⟨rfl, rfl⟩)
  have D := RSt.done S.out (.int .i64 4) (.int .i64 0) (.int .i64 0) (.string ⟨#[]⟩) (.slice none 0 0) #[.int .i64 4, .int .i64 0, .int .i64 0, .string ⟨#[]⟩, .slice none 0 0]
  refine bodyPost_ret (results_struct_tmp rfl _ _ w.heap.size _ _ _ _ rfl D.1 Tryz.underlying26 rfl infoVal5) rfl ?_
  exact ⟨_, _, _, _, _, _, _, rfl, D.2.2⟩
set_option maxRecDepth 100000 in
set_option maxHeartbeats 4000000 in
theorem read_take_no5 (n : Nat) (w : World) (lb B q i : Nat) (sl : Value) (l : List UInt8) (hL : LeftI w lb ((4096 : Int) - q)) (hB : BytesIn w 0 B sl l) (hb : B ≤ lb) (hi : i < l.length) (hl : l.length ≤ 1000000000000) (hq : q + 1 ≤ 4096) (hn : n ≤ 15) (k : UInt8) (r : List UInt8) (hs : l.drop i = k :: r) (hk : k.toNat = 5) (hf : ¬ (front r).2.2 = 0) :
    Calls Tryz.prog 19 #[sl, .int .i64 i, .int .i64 ((16 : Int) - n), .pointer (some ⟨lb, 0, none⟩)] w fun e w' => RdNo w lb e w' := by
  obtain ⟨a, c, rfl, _⟩ := id hB
  have hlb : lb < w.heap.size := (Array.getElem?_eq_some_iff.1 hL).1
  obtain ⟨z, hz⟩ : ∃ z : Int, (4096 : Int) - q = z := ⟨_, rfl⟩
  have hzq : ((4096 : Int) - ((q + 1 : Nat) : Int)) = z - 1 := by omega
  have hz0 : 1 ≤ z ∧ z ≤ 4096 := by omega
  rw [hz] at hL
  obtain ⟨W, hW⟩ : ∃ W, w.alloc (.cells zcells 26) = W := ⟨_, rfl⟩
  have bW : Below w.heap.size w W := by rw [← hW]; exact alloc_v (Below.refl _ _) _
  have zW : W.heap.size = w.heap.size + 1 := by rw [← hW]; simp
  have f1 : LeftI W lb z := (bW.block _ hlb).trans hL
  have x0 := cells_at f1 0 _ rfl
  have v0 := frozen_at f1 0
  have hsub : IntKind.i64.wrap (z - 1) = z - 1 := by rw [IntKind.wrap_i64]; omega
  have hzn : ¬ (z - 1 < 0) := by omega
  have hdn : ¬ ((16 : Int) < (16 : Int) - n) := by omega
  have hdl : (l.drop i).length = l.length - i := List.length_drop
  have hrl : r.length + 1 = l.length - i := by rw [hs] at hdl; simpa using hdl
  have hdc := List.drop_eq_getElem_cons hi
  rw [hs] at hdc
  obtain ⟨hk1, hr1⟩ := List.cons.inj hdc
  have HDR : Hid (l.drop (i + 1) = r) := hide hr1.symm
  have S := hide (rst_start w W lb z hL hW)
  have sz := (rst_start w W lb z hL hW).sz
  have GX : w.grownBy (W.setCell ⟨lb, 0, none⟩ (.int .i64 (z - 1))) (some lb) := grown_more (grown_of_below bW) (grown_set1 _ _ _ _)
  have HBX := hB.grownV GX hb (by omega)
  have hcell : ∃ b off, a = some ⟨b, off, none⟩ ∧ (W.setCell ⟨lb, 0, none⟩ (.int .i64 (z - 1))).cell? ⟨b, off + i, none⟩ = some (.int .u8 (k.toNat : Int)) := by
    rcases HBX.plain.elim with ⟨e, _⟩ | ⟨_, b, off, c', e, h7⟩
    · rw [e] at hi; simp at hi
    · simp only [Value.slice.injEq] at e
      refine ⟨b, off, e.1, ?_⟩
      have h8 := h7 i hi
      rw [← hk1] at h8
      exact h8
  obtain ⟨b, off, rfl, hcell⟩ := hcell
  have p0 : (0 : Int) ≤ (i : Int) := by omega
  have p1 : (i : Int) < (l.length : Int) := by omega
  have HTK := hide (take4_k ((W.setCell ⟨lb, 0, none⟩ (.int .i64 (z - 1))).alloc (.cells #[.int .i64 5, .int .i64 0, .int .i64 0, .string ⟨#[]⟩, .slice none 0 0] 26)) B (some ⟨b, off, none⟩) c l (i + 1) (hB.grownV (grown_more GX (grown_of_below (alloc_v (Below.refl _ _) _))) hb (by omega)) (by omega) hl)
  rw [HDR.out, show ((i + 1 : Nat) : Int) = (i : Int) + 1 by omega] at HTK
  rw [show tkI r (i + 1) = -1 from if_neg hf] at HTK
  generalize (front r).1 = fv at *
  clear hf
  rw [show (k.toNat : Int) = 5 by omega] at hcell
  clear hk
  have r0 := cells_at S.out.res 0 _ rfl
  have rz0 := frozen_at S.out.res 0
  have r1 := cells_at S.out.res 1 _ rfl
  have rz1 := frozen_at S.out.res 1
  have r2 := cells_at S.out.res 2 _ rfl
  have rz2 := frozen_at S.out.res 2
  have r3 := cells_at S.out.res 3 _ rfl
  have rz3 := frozen_at S.out.res 3
  have r4 := cells_at S.out.res 4 _ rfl
  have rz4 := frozen_at S.out.res 4
  have ZQ := hide hzq
  clear hL hB f1 GX hzq hdl hs hz HBX hdc hk1 hr1 hrl
  go_enter Tryz.func19, Tryz.ntmps19
  go_wp2_with (go_at_call 36; refine HTK.out.mono ?_; clear HTK; rintro e w2 ⟨rfl, rfl⟩)
  have D := RSt.done S.out (.int .i64 5) (.int .i64 0) (.int .i64 0) (.string ⟨#[]⟩) (.slice none 0 0) #[.int .i64 5, .int .i64 0, .int .i64 0, .string ⟨#[]⟩, .slice none 0 0]
  refine bodyPost_ret (results_struct_tmp rfl _ _ w.heap.size _ _ _ _ rfl D.1 Tryz.underlying26 rfl infoVal5) rfl ?_
  exact ⟨_, _, _, _, _, _, _, rfl, D.2.2⟩
set_option maxRecDepth 100000 in
set_option maxHeartbeats 4000000 in
theorem read_take_no6 (n : Nat) (w : World) (lb B q i : Nat) (sl : Value) (l : List UInt8) (hL : LeftI w lb ((4096 : Int) - q)) (hB : BytesIn w 0 B sl l) (hb : B ≤ lb) (hi : i < l.length) (hl : l.length ≤ 1000000000000) (hq : q + 1 ≤ 4096) (hn : n ≤ 15) (k : UInt8) (r : List UInt8) (hs : l.drop i = k :: r) (hk : k.toNat = 6) (hf : ¬ (front r).2.2 = 0) :
    Calls Tryz.prog 19 #[sl, .int .i64 i, .int .i64 ((16 : Int) - n), .pointer (some ⟨lb, 0, none⟩)] w fun e w' => RdNo w lb e w' := by
  obtain ⟨a, c, rfl, _⟩ := id hB
  have hlb : lb < w.heap.size := (Array.getElem?_eq_some_iff.1 hL).1
  obtain ⟨z, hz⟩ : ∃ z : Int, (4096 : Int) - q = z := ⟨_, rfl⟩
  have hzq : ((4096 : Int) - ((q + 1 : Nat) : Int)) = z - 1 := by omega
  have hz0 : 1 ≤ z ∧ z ≤ 4096 := by omega
  rw [hz] at hL
  obtain ⟨W, hW⟩ : ∃ W, w.alloc (.cells zcells 26) = W := ⟨_, rfl⟩
  have bW : Below w.heap.size w W := by rw [← hW]; exact alloc_v (Below.refl _ _) _
  have zW : W.heap.size = w.heap.size + 1 := by rw [← hW]; simp
  have f1 : LeftI W lb z := (bW.block _ hlb).trans hL
  have x0 := cells_at f1 0 _ rfl
  have v0 := frozen_at f1 0
  have hsub : IntKind.i64.wrap (z - 1) = z - 1 := by rw [IntKind.wrap_i64]; omega
  have hzn : ¬ (z - 1 < 0) := by omega
  have hdn : ¬ ((16 : Int) < (16 : Int) - n) := by omega
  have hdl : (l.drop i).length = l.length - i := List.length_drop
  have hrl : r.length + 1 = l.length - i := by rw [hs] at hdl; simpa using hdl
  have hdc := List.drop_eq_getElem_cons hi
  rw [hs] at hdc
  obtain ⟨hk1, hr1⟩ := List.cons.inj hdc
  have HDR : Hid (l.drop (i + 1) = r) := hide hr1.symm
  have S := hide (rst_start w W lb z hL hW)
  have sz := (rst_start w W lb z hL hW).sz
  have GX : w.grownBy (W.setCell ⟨lb, 0, none⟩ (.int .i64 (z - 1))) (some lb) := grown_more (grown_of_below bW) (grown_set1 _ _ _ _)
  have HBX := hB.grownV GX hb (by omega)
  have hcell : ∃ b off, a = some ⟨b, off, none⟩ ∧ (W.setCell ⟨lb, 0, none⟩ (.int .i64 (z - 1))).cell? ⟨b, off + i, none⟩ = some (.int .u8 (k.toNat : Int)) := by
    rcases HBX.plain.elim with ⟨e, _⟩ | ⟨_, b, off, c', e, h7⟩
    · rw [e] at hi; simp at hi
    · simp only [Value.slice.injEq] at e
      refine ⟨b, off, e.1, ?_⟩
      have h8 := h7 i hi
      rw [← hk1] at h8
      exact h8
  obtain ⟨b, off, rfl, hcell⟩ := hcell
  have p0 : (0 : Int) ≤ (i : Int) := by omega
  have p1 : (i : Int) < (l.length : Int) := by omega
  have HTK := hide (take4_k ((W.setCell ⟨lb, 0, none⟩ (.int .i64 (z - 1))).alloc (.cells #[.int .i64 6, .int .i64 0, .int .i64 0, .string ⟨#[]⟩, .slice none 0 0] 26)) B (some ⟨b, off, none⟩) c l (i + 1) (hB.grownV (grown_more GX (grown_of_below (alloc_v (Below.refl _ _) _))) hb (by omega)) (by omega) hl)
  rw [HDR.out, show ((i + 1 : Nat) : Int) = (i : Int) + 1 by omega] at HTK
  rw [show tkI r (i + 1) = -1 from if_neg hf] at HTK
  generalize (front r).1 = fv at *
  clear hf
  rw [show (k.toNat : Int) = 6 by omega] at hcell
  clear hk
  have r0 := cells_at S.out.res 0 _ rfl
  have rz0 := frozen_at S.out.res 0
  have r1 := cells_at S.out.res 1 _ rfl
  have rz1 := frozen_at S.out.res 1
  have r2 := cells_at S.out.res 2 _ rfl
  have rz2 := frozen_at S.out.res 2
  have r3 := cells_at S.out.res 3 _ rfl
  have rz3 := frozen_at S.out.res 3
  have r4 := cells_at S.out.res 4 _ rfl
  have rz4 := frozen_at S.out.res 4
  have ZQ := hide hzq
  clear hL hB f1 GX hzq hdl hs hz HBX hdc hk1 hr1 hrl
  go_enter Tryz.func19, Tryz.ntmps19
  go_wp2_with (go_at_call 36; refine HTK.out.mono ?_; clear HTK; rintro e w2 ⟨rfl, rfl⟩)
  have D := RSt.done S.out (.int .i64 6) (.int .i64 0) (.int .i64 0) (.string ⟨#[]⟩) (.slice none 0 0) #[.int .i64 6, .int .i64 0, .int .i64 0, .string ⟨#[]⟩, .slice none 0 0]
  refine bodyPost_ret (results_struct_tmp rfl _ _ w.heap.size _ _ _ _ rfl D.1 Tryz.underlying26 rfl infoVal5) rfl ?_
  exact ⟨_, _, _, _, _, _, _, rfl, D.2.2⟩
set_option maxRecDepth 100000 in
set_option maxHeartbeats 4000000 in
theorem read_take_no7 (n : Nat) (w : World) (lb B q i : Nat) (sl : Value) (l : List UInt8) (hL : LeftI w lb ((4096 : Int) - q)) (hB : BytesIn w 0 B sl l) (hb : B ≤ lb) (hi : i < l.length) (hl : l.length ≤ 1000000000000) (hq : q + 1 ≤ 4096) (hn : n ≤ 15) (k : UInt8) (r : List UInt8) (hs : l.drop i = k :: r) (hk : k.toNat = 7) (hf : ¬ (front r).2.2 = 0) :
    Calls Tryz.prog 19 #[sl, .int .i64 i, .int .i64 ((16 : Int) - n), .pointer (some ⟨lb, 0, none⟩)] w fun e w' => RdNo w lb e w' := by
  obtain ⟨a, c, rfl, _⟩ := id hB
  have hlb : lb < w.heap.size := (Array.getElem?_eq_some_iff.1 hL).1
  obtain ⟨z, hz⟩ : ∃ z : Int, (4096 : Int) - q = z := ⟨_, rfl⟩
  have hzq : ((4096 : Int) - ((q + 1 : Nat) : Int)) = z - 1 := by omega
  have hz0 : 1 ≤ z ∧ z ≤ 4096 := by omega
  rw [hz] at hL
  obtain ⟨W, hW⟩ : ∃ W, w.alloc (.cells zcells 26) = W := ⟨_, rfl⟩
  have bW : Below w.heap.size w W := by rw [← hW]; exact alloc_v (Below.refl _ _) _
  have zW : W.heap.size = w.heap.size + 1 := by rw [← hW]; simp
  have f1 : LeftI W lb z := (bW.block _ hlb).trans hL
  have x0 := cells_at f1 0 _ rfl
  have v0 := frozen_at f1 0
  have hsub : IntKind.i64.wrap (z - 1) = z - 1 := by rw [IntKind.wrap_i64]; omega
  have hzn : ¬ (z - 1 < 0) := by omega
  have hdn : ¬ ((16 : Int) < (16 : Int) - n) := by omega
  have hdl : (l.drop i).length = l.length - i := List.length_drop
  have hrl : r.length + 1 = l.length - i := by rw [hs] at hdl; simpa using hdl
  have hdc := List.drop_eq_getElem_cons hi
  rw [hs] at hdc
  obtain ⟨hk1, hr1⟩ := List.cons.inj hdc
  have HDR : Hid (l.drop (i + 1) = r) := hide hr1.symm
  have S := hide (rst_start w W lb z hL hW)
  have sz := (rst_start w W lb z hL hW).sz
  have GX : w.grownBy (W.setCell ⟨lb, 0, none⟩ (.int .i64 (z - 1))) (some lb) := grown_more (grown_of_below bW) (grown_set1 _ _ _ _)
  have HBX := hB.grownV GX hb (by omega)
  have hcell : ∃ b off, a = some ⟨b, off, none⟩ ∧ (W.setCell ⟨lb, 0, none⟩ (.int .i64 (z - 1))).cell? ⟨b, off + i, none⟩ = some (.int .u8 (k.toNat : Int)) := by
    rcases HBX.plain.elim with ⟨e, _⟩ | ⟨_, b, off, c', e, h7⟩
    · rw [e] at hi; simp at hi
    · simp only [Value.slice.injEq] at e
      refine ⟨b, off, e.1, ?_⟩
      have h8 := h7 i hi
      rw [← hk1] at h8
      exact h8
  obtain ⟨b, off, rfl, hcell⟩ := hcell
  have p0 : (0 : Int) ≤ (i : Int) := by omega
  have p1 : (i : Int) < (l.length : Int) := by omega
  have HTK := hide (take4_k ((W.setCell ⟨lb, 0, none⟩ (.int .i64 (z - 1))).alloc (.cells #[.int .i64 7, .int .i64 0, .int .i64 0, .string ⟨#[]⟩, .slice none 0 0] 26)) B (some ⟨b, off, none⟩) c l (i + 1) (hB.grownV (grown_more GX (grown_of_below (alloc_v (Below.refl _ _) _))) hb (by omega)) (by omega) hl)
  rw [HDR.out, show ((i + 1 : Nat) : Int) = (i : Int) + 1 by omega] at HTK
  rw [show tkI r (i + 1) = -1 from if_neg hf] at HTK
  generalize (front r).1 = fv at *
  clear hf
  rw [show (k.toNat : Int) = 7 by omega] at hcell
  clear hk
  have r0 := cells_at S.out.res 0 _ rfl
  have rz0 := frozen_at S.out.res 0
  have r1 := cells_at S.out.res 1 _ rfl
  have rz1 := frozen_at S.out.res 1
  have r2 := cells_at S.out.res 2 _ rfl
  have rz2 := frozen_at S.out.res 2
  have r3 := cells_at S.out.res 3 _ rfl
  have rz3 := frozen_at S.out.res 3
  have r4 := cells_at S.out.res 4 _ rfl
  have rz4 := frozen_at S.out.res 4
  have ZQ := hide hzq
  clear hL hB f1 GX hzq hdl hs hz HBX hdc hk1 hr1 hrl
  go_enter Tryz.func19, Tryz.ntmps19
  go_wp2_with (go_at_call 36; refine HTK.out.mono ?_; clear HTK; rintro e w2 ⟨rfl, rfl⟩)
  have D := RSt.done S.out (.int .i64 7) (.int .i64 0) (.int .i64 0) (.string ⟨#[]⟩) (.slice none 0 0) #[.int .i64 7, .int .i64 0, .int .i64 0, .string ⟨#[]⟩, .slice none 0 0]
  refine bodyPost_ret (results_struct_tmp rfl _ _ w.heap.size _ _ _ _ rfl D.1 Tryz.underlying26 rfl infoVal5) rfl ?_
  exact ⟨_, _, _, _, _, _, _, rfl, D.2.2⟩
set_option maxRecDepth 100000 in
set_option maxHeartbeats 4000000 in
theorem read_int (n : Nat) (w : World) (lb B q i : Nat) (sl : Value) (l : List UInt8) (hL : LeftI w lb ((4096 : Int) - q)) (hB : BytesIn w 0 B sl l) (hb : B ≤ lb) (hi : i < l.length) (hl : l.length ≤ 1000000000000) (hq : q + 1 ≤ 4096) (hn : n ≤ 15) (k : UInt8) (r : List UInt8) (hs : l.drop i = k :: r) (hk : k.toNat = 2) (hf : (front r).2.2 = 0) :
    Calls Tryz.prog 19 #[sl, .int .i64 i, .int .i64 ((16 : Int) - n), .pointer (some ⟨lb, 0, none⟩)] w fun e w' => RdYes w lb (n + 1) ⟨2, unz (front r).1, 0, ⟨#[]⟩, []⟩ (i + 1 + (front r).2.1) (q + 1) e w' := by
  obtain ⟨a, c, rfl, _⟩ := id hB
  have hlb : lb < w.heap.size := (Array.getElem?_eq_some_iff.1 hL).1
  obtain ⟨z, hz⟩ : ∃ z : Int, (4096 : Int) - q = z := ⟨_, rfl⟩
  have hzq : ((4096 : Int) - ((q + 1 : Nat) : Int)) = z - 1 := by omega
  have hz0 : 1 ≤ z ∧ z ≤ 4096 := by omega
  rw [hz] at hL
  obtain ⟨W, hW⟩ : ∃ W, w.alloc (.cells zcells 26) = W := ⟨_, rfl⟩
  have bW : Below w.heap.size w W := by rw [← hW]; exact alloc_v (Below.refl _ _) _
  have zW : W.heap.size = w.heap.size + 1 := by rw [← hW]; simp
  have f1 : LeftI W lb z := (bW.block _ hlb).trans hL
  have x0 := cells_at f1 0 _ rfl
  have v0 := frozen_at f1 0
  have hsub : IntKind.i64.wrap (z - 1) = z - 1 := by rw [IntKind.wrap_i64]; omega
  have hzn : ¬ (z - 1 < 0) := by omega
  have hdn : ¬ ((16 : Int) < (16 : Int) - n) := by omega
  have hdl : (l.drop i).length = l.length - i := List.length_drop
  have hrl : r.length + 1 = l.length - i := by rw [hs] at hdl; simpa using hdl
  have hdc := List.drop_eq_getElem_cons hi
  rw [hs] at hdc
  obtain ⟨hk1, hr1⟩ := List.cons.inj hdc
  have HDR : Hid (l.drop (i + 1) = r) := hide hr1.symm
  have S := hide (rst_start w W lb z hL hW)
  have sz := (rst_start w W lb z hL hW).sz
  have GX : w.grownBy (W.setCell ⟨lb, 0, none⟩ (.int .i64 (z - 1))) (some lb) := grown_more (grown_of_below bW) (grown_set1 _ _ _ _)
  have HBX := hB.grownV GX hb (by omega)
  have hcell : ∃ b off, a = some ⟨b, off, none⟩ ∧ (W.setCell ⟨lb, 0, none⟩ (.int .i64 (z - 1))).cell? ⟨b, off + i, none⟩ = some (.int .u8 (k.toNat : Int)) := by
    rcases HBX.plain.elim with ⟨e, _⟩ | ⟨_, b, off, c', e, h7⟩
    · rw [e] at hi; simp at hi
    · simp only [Value.slice.injEq] at e
      refine ⟨b, off, e.1, ?_⟩
      have h8 := h7 i hi
      rw [← hk1] at h8
      exact h8
  obtain ⟨b, off, rfl, hcell⟩ := hcell
  have p0 : (0 : Int) ≤ (i : Int) := by omega
  have p1 : (i : Int) < (l.length : Int) := by omega
  have HTK := hide (take4_k ((W.setCell ⟨lb, 0, none⟩ (.int .i64 (z - 1))).alloc (.cells #[.int .i64 2, .int .i64 0, .int .i64 0, .string ⟨#[]⟩, .slice none 0 0] 26)) B (some ⟨b, off, none⟩) c l (i + 1) (hB.grownV (grown_more GX (grown_of_below (alloc_v (Below.refl _ _) _))) hb (by omega)) (by omega) hl)
  rw [HDR.out, show ((i + 1 : Nat) : Int) = (i : Int) + 1 by omega] at HTK
  rw [show tkI r (i + 1) = ((i + 1 + (front r).2.1 : Nat) : Int) from if_pos hf] at HTK
  have hfl := front_lt r
  have hff := front_fits r
  clear hf
  have hpp : i + 1 + (front r).2.1 ≤ l.length := by omega
  generalize (front r).1 = fv at *
  generalize hpq : i + 1 + (front r).2.1 = pq at *
  rw [show (k.toNat : Int) = 2 by omega] at hcell
  clear hk
  have r0 := cells_at S.out.res 0 _ rfl
  have rz0 := frozen_at S.out.res 0
  have r1 := cells_at S.out.res 1 _ rfl
  have rz1 := frozen_at S.out.res 1
  have r2 := cells_at S.out.res 2 _ rfl
  have rz2 := frozen_at S.out.res 2
  have r3 := cells_at S.out.res 3 _ rfl
  have rz3 := frozen_at S.out.res 3
  have r4 := cells_at S.out.res 4 _ rfl
  have rz4 := frozen_at S.out.res 4
  have ZQ := hide hzq
  clear hL hB f1 GX hzq hdl hs hz HBX hdc hk1 hr1 hrl
  go_enter Tryz.func19, Tryz.ntmps19
  go_wp2_with (first
    | (go_at_call 36; refine HTK.out.mono ?_; clear HTK; rintro e w2 ⟨rfl, rfl⟩)
    | (go_at_call 37; refine (unzig_k fv hfl _).mono ?_; rintro e w3 ⟨rfl, rfl⟩))
  have D := RSt.done S.out (.int .i64 2) (.int .i64 (unz fv)) (.int .i64 0) (.string ⟨#[]⟩) (.slice none 0 0) #[.int .i64 2, .int .i64 (unz fv), .int .i64 0, .string ⟨#[]⟩, .slice none 0 0]
  refine bodyPost_ret (results_struct_tmp rfl _ _ w.heap.size _ _ _ _ rfl D.1 Tryz.underlying26 rfl infoVal5) rfl ?_
  refine ⟨.slice none 0 0, rfl, itemsIn_nil _ _ _, ?_, D.2.2⟩
  rw [ZQ.out]
  exact D.2.1
set_option maxRecDepth 100000 in
set_option maxHeartbeats 4000000 in
theorem read_gauss_no (n : Nat) (w : World) (lb B q i : Nat) (sl : Value) (l : List UInt8) (hL : LeftI w lb ((4096 : Int) - q)) (hB : BytesIn w 0 B sl l) (hb : B ≤ lb) (hi : i < l.length) (hl : l.length ≤ 1000000000000) (hq : q + 1 ≤ 4096) (hn : n ≤ 15) (k : UInt8) (r : List UInt8) (hs : l.drop i = k :: r) (hk : k.toNat = 3) (hf : (front r).2.2 = 0) (hf2 : ¬ (front (r.drop (front r).2.1)).2.2 = 0) :
    Calls Tryz.prog 19 #[sl, .int .i64 i, .int .i64 ((16 : Int) - n), .pointer (some ⟨lb, 0, none⟩)] w fun e w' => RdNo w lb e w' := by
  obtain ⟨a, c, rfl, _⟩ := id hB
  have hlb : lb < w.heap.size := (Array.getElem?_eq_some_iff.1 hL).1
  obtain ⟨z, hz⟩ : ∃ z : Int, (4096 : Int) - q = z := ⟨_, rfl⟩
  have hzq : ((4096 : Int) - ((q + 1 : Nat) : Int)) = z - 1 := by omega
  have hz0 : 1 ≤ z ∧ z ≤ 4096 := by omega
  rw [hz] at hL
  obtain ⟨W, hW⟩ : ∃ W, w.alloc (.cells zcells 26) = W := ⟨_, rfl⟩
  have bW : Below w.heap.size w W := by rw [← hW]; exact alloc_v (Below.refl _ _) _
  have zW : W.heap.size = w.heap.size + 1 := by rw [← hW]; simp
  have f1 : LeftI W lb z := (bW.block _ hlb).trans hL
  have x0 := cells_at f1 0 _ rfl
  have v0 := frozen_at f1 0
  have hsub : IntKind.i64.wrap (z - 1) = z - 1 := by rw [IntKind.wrap_i64]; omega
  have hzn : ¬ (z - 1 < 0) := by omega
  have hdn : ¬ ((16 : Int) < (16 : Int) - n) := by omega
  have hdl : (l.drop i).length = l.length - i := List.length_drop
  have hrl : r.length + 1 = l.length - i := by rw [hs] at hdl; simpa using hdl
  have hdc := List.drop_eq_getElem_cons hi
  rw [hs] at hdc
  obtain ⟨hk1, hr1⟩ := List.cons.inj hdc
  have HDR : Hid (l.drop (i + 1) = r) := hide hr1.symm
  have S := hide (rst_start w W lb z hL hW)
  have sz := (rst_start w W lb z hL hW).sz
  have GX : w.grownBy (W.setCell ⟨lb, 0, none⟩ (.int .i64 (z - 1))) (some lb) := grown_more (grown_of_below bW) (grown_set1 _ _ _ _)
  have HBX := hB.grownV GX hb (by omega)
  have hcell : ∃ b off, a = some ⟨b, off, none⟩ ∧ (W.setCell ⟨lb, 0, none⟩ (.int .i64 (z - 1))).cell? ⟨b, off + i, none⟩ = some (.int .u8 (k.toNat : Int)) := by
    rcases HBX.plain.elim with ⟨e, _⟩ | ⟨_, b, off, c', e, h7⟩
    · rw [e] at hi; simp at hi
    · simp only [Value.slice.injEq] at e
      refine ⟨b, off, e.1, ?_⟩
      have h8 := h7 i hi
      rw [← hk1] at h8
      exact h8
  obtain ⟨b, off, rfl, hcell⟩ := hcell
  have p0 : (0 : Int) ≤ (i : Int) := by omega
  have p1 : (i : Int) < (l.length : Int) := by omega
  have HTK := hide (take4_k ((W.setCell ⟨lb, 0, none⟩ (.int .i64 (z - 1))).alloc (.cells #[.int .i64 3, .int .i64 0, .int .i64 0, .string ⟨#[]⟩, .slice none 0 0] 26)) B (some ⟨b, off, none⟩) c l (i + 1) (hB.grownV (grown_more GX (grown_of_below (alloc_v (Below.refl _ _) _))) hb (by omega)) (by omega) hl)
  rw [HDR.out, show ((i + 1 : Nat) : Int) = (i : Int) + 1 by omega] at HTK
  rw [show tkI r (i + 1) = ((i + 1 + (front r).2.1 : Nat) : Int) from if_pos hf] at HTK
  have hfl := front_lt r
  have hff := front_fits r
  clear hf
  obtain ⟨r2, hr2⟩ : ∃ r2, r.drop (front r).2.1 = r2 := ⟨_, rfl⟩
  rw [hr2] at hf2
  have HDR2 : Hid (l.drop (i + 1 + (front r).2.1) = r2) := hide (by rw [← hr2, ← HDR.out, List.drop_drop])
  have hpp : i + 1 + (front r).2.1 ≤ l.length := by omega
  generalize (front r).1 = fv at *
  generalize hpq : i + 1 + (front r).2.1 = pq at *
  have HTK2 := hide (take4_k ((W.setCell ⟨lb, 0, none⟩ (.int .i64 (z - 1))).alloc (.cells #[.int .i64 3, .int .i64 (unz fv), .int .i64 0, .string ⟨#[]⟩, .slice none 0 0] 26)) B (some ⟨b, off, none⟩) c l pq (hB.grownV (grown_more GX (grown_of_below (alloc_v (Below.refl _ _) _))) hb (by omega)) (by omega) hl)
  rw [HDR2.out] at HTK2
  rw [show tkI r2 pq = -1 from if_neg hf2] at HTK2
  have hfl2 := front_lt r2
  generalize (front r2).1 = fw at *
  clear hf2
  have HU1 := hide (unzig_k fv hfl ((W.setCell ⟨lb, 0, none⟩ (.int .i64 (z - 1))).alloc (.cells #[.int .i64 3, .int .i64 0, .int .i64 0, .string ⟨#[]⟩, .slice none 0 0] 26)))
  have HU2 := hide (fun U => unzig_k fw hfl2 U)
  rw [show (k.toNat : Int) = 3 by omega] at hcell
  clear hk
  have r0 := cells_at S.out.res 0 _ rfl
  have rz0 := frozen_at S.out.res 0
  have r1 := cells_at S.out.res 1 _ rfl
  have rz1 := frozen_at S.out.res 1
  have r2 := cells_at S.out.res 2 _ rfl
  have rz2 := frozen_at S.out.res 2
  have r3 := cells_at S.out.res 3 _ rfl
  have rz3 := frozen_at S.out.res 3
  have r4 := cells_at S.out.res 4 _ rfl
  have rz4 := frozen_at S.out.res 4
  have ZQ := hide hzq
  clear hL hB f1 GX hzq hdl hs hz HBX hdc hk1 hr1 hrl
  go_enter Tryz.func19, Tryz.ntmps19
  go_wp2_with (first
    | (go_at_call 36; with_reducible refine HTK.out.mono ?_; clear HTK; rintro e w2 ⟨rfl, rfl⟩)
    | (go_at_call 36; with_reducible refine HTK2.out.mono ?_; clear HTK2; rintro e w4 ⟨rfl, rfl⟩)
    | (go_at_call 37; refine HU1.out.mono ?_; clear HU1; rintro e w3 ⟨rfl, rfl⟩)
    | (go_at_call 37; refine (HU2.out _).mono ?_; clear HU2; rintro e w5 ⟨rfl, rfl⟩))
  have D := RSt.done S.out (.int .i64 3) (.int .i64 (unz fv)) (.int .i64 (unz fw)) (.string ⟨#[]⟩) (.slice none 0 0) #[.int .i64 3, .int .i64 (unz fv), .int .i64 (unz fw), .string ⟨#[]⟩, .slice none 0 0]
  refine bodyPost_ret (results_struct_tmp rfl _ _ w.heap.size _ _ _ _ rfl D.1 Tryz.underlying26 rfl infoVal5) rfl ?_
  exact ⟨_, _, _, _, _, _, _, rfl, D.2.2⟩
set_option maxRecDepth 100000 in
set_option maxHeartbeats 4000000 in
theorem read_gauss (n : Nat) (w : World) (lb B q i : Nat) (sl : Value) (l : List UInt8) (hL : LeftI w lb ((4096 : Int) - q)) (hB : BytesIn w 0 B sl l) (hb : B ≤ lb) (hi : i < l.length) (hl : l.length ≤ 1000000000000) (hq : q + 1 ≤ 4096) (hn : n ≤ 15) (k : UInt8) (r : List UInt8) (hs : l.drop i = k :: r) (hk : k.toNat = 3) (hf : (front r).2.2 = 0) (hf2 : (front (r.drop (front r).2.1)).2.2 = 0) :
    Calls Tryz.prog 19 #[sl, .int .i64 i, .int .i64 ((16 : Int) - n), .pointer (some ⟨lb, 0, none⟩)] w fun e w' => RdYes w lb (n + 1) ⟨3, unz (front r).1, unz (front (r.drop (front r).2.1)).1, ⟨#[]⟩, []⟩ (i + 1 + (front r).2.1 + (front (r.drop (front r).2.1)).2.1) (q + 1) e w' := by
  obtain ⟨a, c, rfl, _⟩ := id hB
  have hlb : lb < w.heap.size := (Array.getElem?_eq_some_iff.1 hL).1
  obtain ⟨z, hz⟩ : ∃ z : Int, (4096 : Int) - q = z := ⟨_, rfl⟩
  have hzq : ((4096 : Int) - ((q + 1 : Nat) : Int)) = z - 1 := by omega
  have hz0 : 1 ≤ z ∧ z ≤ 4096 := by omega
  rw [hz] at hL
  obtain ⟨W, hW⟩ : ∃ W, w.alloc (.cells zcells 26) = W := ⟨_, rfl⟩
  have bW : Below w.heap.size w W := by rw [← hW]; exact alloc_v (Below.refl _ _) _
  have zW : W.heap.size = w.heap.size + 1 := by rw [← hW]; simp
  have f1 : LeftI W lb z := (bW.block _ hlb).trans hL
  have x0 := cells_at f1 0 _ rfl
  have v0 := frozen_at f1 0
  have hsub : IntKind.i64.wrap (z - 1) = z - 1 := by rw [IntKind.wrap_i64]; omega
  have hzn : ¬ (z - 1 < 0) := by omega
  have hdn : ¬ ((16 : Int) < (16 : Int) - n) := by omega
  have hdl : (l.drop i).length = l.length - i := List.length_drop
  have hrl : r.length + 1 = l.length - i := by rw [hs] at hdl; simpa using hdl
  have hdc := List.drop_eq_getElem_cons hi
  rw [hs] at hdc
  obtain ⟨hk1, hr1⟩ := List.cons.inj hdc
  have HDR : Hid (l.drop (i + 1) = r) := hide hr1.symm
  have S := hide (rst_start w W lb z hL hW)
  have sz := (rst_start w W lb z hL hW).sz
  have GX : w.grownBy (W.setCell ⟨lb, 0, none⟩ (.int .i64 (z - 1))) (some lb) := grown_more (grown_of_below bW) (grown_set1 _ _ _ _)
  have HBX := hB.grownV GX hb (by omega)
  have hcell : ∃ b off, a = some ⟨b, off, none⟩ ∧ (W.setCell ⟨lb, 0, none⟩ (.int .i64 (z - 1))).cell? ⟨b, off + i, none⟩ = some (.int .u8 (k.toNat : Int)) := by
    rcases HBX.plain.elim with ⟨e, _⟩ | ⟨_, b, off, c', e, h7⟩
    · rw [e] at hi; simp at hi
    · simp only [Value.slice.injEq] at e
      refine ⟨b, off, e.1, ?_⟩
      have h8 := h7 i hi
      rw [← hk1] at h8
      exact h8
  obtain ⟨b, off, rfl, hcell⟩ := hcell
  have p0 : (0 : Int) ≤ (i : Int) := by omega
  have p1 : (i : Int) < (l.length : Int) := by omega
  have HTK := hide (take4_k ((W.setCell ⟨lb, 0, none⟩ (.int .i64 (z - 1))).alloc (.cells #[.int .i64 3, .int .i64 0, .int .i64 0, .string ⟨#[]⟩, .slice none 0 0] 26)) B (some ⟨b, off, none⟩) c l (i + 1) (hB.grownV (grown_more GX (grown_of_below (alloc_v (Below.refl _ _) _))) hb (by omega)) (by omega) hl)
  rw [HDR.out, show ((i + 1 : Nat) : Int) = (i : Int) + 1 by omega] at HTK
  rw [show tkI r (i + 1) = ((i + 1 + (front r).2.1 : Nat) : Int) from if_pos hf] at HTK
  have hfl := front_lt r
  have hff := front_fits r
  clear hf
  obtain ⟨r2, hr2⟩ : ∃ r2, r.drop (front r).2.1 = r2 := ⟨_, rfl⟩
  rw [hr2] at hf2 ⊢
  have HDR2 : Hid (l.drop (i + 1 + (front r).2.1) = r2) := hide (by rw [← hr2, ← HDR.out, List.drop_drop])
  have hpp : i + 1 + (front r).2.1 ≤ l.length := by omega
  generalize (front r).1 = fv at *
  generalize hpq : i + 1 + (front r).2.1 = pq at *
  have HTK2 := hide (take4_k ((W.setCell ⟨lb, 0, none⟩ (.int .i64 (z - 1))).alloc (.cells #[.int .i64 3, .int .i64 (unz fv), .int .i64 0, .string ⟨#[]⟩, .slice none 0 0] 26)) B (some ⟨b, off, none⟩) c l pq (hB.grownV (grown_more GX (grown_of_below (alloc_v (Below.refl _ _) _))) hb (by omega)) (by omega) hl)
  rw [HDR2.out] at HTK2
  rw [show tkI r2 pq = ((pq + (front r2).2.1 : Nat) : Int) from if_pos hf2] at HTK2
  have hfl2 := front_lt r2
  have hff2 := front_fits r2
  generalize (front r2).1 = fw at *
  generalize hpq2 : pq + (front r2).2.1 = pq2 at *
  clear hf2
  have HU1 := hide (unzig_k fv hfl ((W.setCell ⟨lb, 0, none⟩ (.int .i64 (z - 1))).alloc (.cells #[.int .i64 3, .int .i64 0, .int .i64 0, .string ⟨#[]⟩, .slice none 0 0] 26)))
  have HU2 := hide (fun U => unzig_k fw hfl2 U)
  rw [show (k.toNat : Int) = 3 by omega] at hcell
  clear hk
  have r0 := cells_at S.out.res 0 _ rfl
  have rz0 := frozen_at S.out.res 0
  have r1 := cells_at S.out.res 1 _ rfl
  have rz1 := frozen_at S.out.res 1
  have r2 := cells_at S.out.res 2 _ rfl
  have rz2 := frozen_at S.out.res 2
  have r3 := cells_at S.out.res 3 _ rfl
  have rz3 := frozen_at S.out.res 3
  have r4 := cells_at S.out.res 4 _ rfl
  have rz4 := frozen_at S.out.res 4
  have ZQ := hide hzq
  clear hL hB f1 GX hzq hdl hs hz HBX hdc hk1 hr1 hrl
  go_enter Tryz.func19, Tryz.ntmps19
  go_wp2_with (first
    | (go_at_call 36; with_reducible refine HTK.out.mono ?_; clear HTK; rintro e w2 ⟨rfl, rfl⟩)
    | (go_at_call 36; with_reducible refine HTK2.out.mono ?_; clear HTK2; rintro e w4 ⟨rfl, rfl⟩)
    | (go_at_call 37; refine HU1.out.mono ?_; clear HU1; rintro e w3 ⟨rfl, rfl⟩)
    | (go_at_call 37; refine (HU2.out _).mono ?_; clear HU2; rintro e w5 ⟨rfl, rfl⟩))
  have D := RSt.done S.out (.int .i64 3) (.int .i64 (unz fv)) (.int .i64 (unz fw)) (.string ⟨#[]⟩) (.slice none 0 0) #[.int .i64 3, .int .i64 (unz fv), .int .i64 (unz fw), .string ⟨#[]⟩, .slice none 0 0]
  refine bodyPost_ret (results_struct_tmp rfl _ _ w.heap.size _ _ _ _ rfl D.1 Tryz.underlying26 rfl infoVal5) rfl ?_
  refine ⟨.slice none 0 0, rfl, itemsIn_nil _ _ _, ?_, D.2.2⟩
  rw [ZQ.out]
  exact D.2.1
set_option maxRecDepth 100000 in
set_option maxHeartbeats 4000000 in
theorem read_sym_no (n : Nat) (w : World) (lb B q i : Nat) (sl : Value) (l : List UInt8) (hL : LeftI w lb ((4096 : Int) - q)) (hB : BytesIn w 0 B sl l) (hb : B ≤ lb) (hi : i < l.length) (hl : l.length ≤ 1000000000000) (hq : q + 1 ≤ 4096) (hn : n ≤ 15) (k : UInt8) (r : List UInt8) (hs : l.drop i = k :: r) (hk : k.toNat = 4) (hf : (front r).2.2 = 0) (hlong : ¬ (front r).1 ≤ r.length - (front r).2.1) :
    Calls Tryz.prog 19 #[sl, .int .i64 i, .int .i64 ((16 : Int) - n), .pointer (some ⟨lb, 0, none⟩)] w fun e w' => RdNo w lb e w' := by
  obtain ⟨a, c, rfl, _⟩ := id hB
  have hlb : lb < w.heap.size := (Array.getElem?_eq_some_iff.1 hL).1
  obtain ⟨z, hz⟩ : ∃ z : Int, (4096 : Int) - q = z := ⟨_, rfl⟩
  have hzq : ((4096 : Int) - ((q + 1 : Nat) : Int)) = z - 1 := by omega
  have hz0 : 1 ≤ z ∧ z ≤ 4096 := by omega
  rw [hz] at hL
  obtain ⟨W, hW⟩ : ∃ W, w.alloc (.cells zcells 26) = W := ⟨_, rfl⟩
  have bW : Below w.heap.size w W := by rw [← hW]; exact alloc_v (Below.refl _ _) _
  have zW : W.heap.size = w.heap.size + 1 := by rw [← hW]; simp
  have f1 : LeftI W lb z := (bW.block _ hlb).trans hL
  have x0 := cells_at f1 0 _ rfl
  have v0 := frozen_at f1 0
  have hsub : IntKind.i64.wrap (z - 1) = z - 1 := by rw [IntKind.wrap_i64]; omega
  have hzn : ¬ (z - 1 < 0) := by omega
  have hdn : ¬ ((16 : Int) < (16 : Int) - n) := by omega
  have hdl : (l.drop i).length = l.length - i := List.length_drop
  have hrl : r.length + 1 = l.length - i := by rw [hs] at hdl; simpa using hdl
  have hdc := List.drop_eq_getElem_cons hi
  rw [hs] at hdc
  obtain ⟨hk1, hr1⟩ := List.cons.inj hdc
  have HDR : Hid (l.drop (i + 1) = r) := hide hr1.symm
  have S := hide (rst_start w W lb z hL hW)
  have sz := (rst_start w W lb z hL hW).sz
  have GX : w.grownBy (W.setCell ⟨lb, 0, none⟩ (.int .i64 (z - 1))) (some lb) := grown_more (grown_of_below bW) (grown_set1 _ _ _ _)
  have HBX := hB.grownV GX hb (by omega)
  have hcell : ∃ b off, a = some ⟨b, off, none⟩ ∧ (W.setCell ⟨lb, 0, none⟩ (.int .i64 (z - 1))).cell? ⟨b, off + i, none⟩ = some (.int .u8 (k.toNat : Int)) := by
    rcases HBX.plain.elim with ⟨e, _⟩ | ⟨_, b, off, c', e, h7⟩
    · rw [e] at hi; simp at hi
    · simp only [Value.slice.injEq] at e
      refine ⟨b, off, e.1, ?_⟩
      have h8 := h7 i hi
      rw [← hk1] at h8
      exact h8
  obtain ⟨b, off, rfl, hcell⟩ := hcell
  have p0 : (0 : Int) ≤ (i : Int) := by omega
  have p1 : (i : Int) < (l.length : Int) := by omega
  have HTK := hide (take4_k ((W.setCell ⟨lb, 0, none⟩ (.int .i64 (z - 1))).alloc (.cells #[.int .i64 4, .int .i64 0, .int .i64 0, .string ⟨#[]⟩, .slice none 0 0] 26)) B (some ⟨b, off, none⟩) c l (i + 1) (hB.grownV (grown_more GX (grown_of_below (alloc_v (Below.refl _ _) _))) hb (by omega)) (by omega) hl)
  rw [HDR.out, show ((i + 1 : Nat) : Int) = (i : Int) + 1 by omega] at HTK
  rw [show tkI r (i + 1) = ((i + 1 + (front r).2.1 : Nat) : Int) from if_pos hf] at HTK
  have hfl := front_lt r
  have hff := front_fits r
  clear hf
  have hrl2 : l.length - (i + 1 + (front r).2.1) < (front r).1 := by omega
  clear hlong
  have hpp : i + 1 + (front r).2.1 ≤ l.length := by omega
  generalize (front r).1 = fv at *
  generalize hpq : i + 1 + (front r).2.1 = pq at *
  have p4 : IntKind.u64.wrap ((l.length : Int) - (pq : Int)) = (l.length : Int) - (pq : Int) := by rw [IntKind.wrap_u64]; omega
  have p5 : (l.length : Int) - (pq : Int) < (fv : Int) := by omega
  rw [show (k.toNat : Int) = 4 by omega] at hcell
  clear hk
  have r0 := cells_at S.out.res 0 _ rfl
  have rz0 := frozen_at S.out.res 0
  have r1 := cells_at S.out.res 1 _ rfl
  have rz1 := frozen_at S.out.res 1
  have r2 := cells_at S.out.res 2 _ rfl
  have rz2 := frozen_at S.out.res 2
  have r3 := cells_at S.out.res 3 _ rfl
  have rz3 := frozen_at S.out.res 3
  have r4 := cells_at S.out.res 4 _ rfl
  have rz4 := frozen_at S.out.res 4
  have ZQ := hide hzq
  clear hL hB f1 GX hzq hdl hs hz HBX hdc hk1 hr1 hrl
  go_enter Tryz.func19, Tryz.ntmps19
  go_wp2_with (go_at_call 36; refine HTK.out.mono ?_; clear HTK; rintro e w2 ⟨rfl, rfl⟩)
  have D := RSt.done S.out (.int .i64 4) (.int .i64 0) (.int .i64 0) (.string ⟨#[]⟩) (.slice none 0 0) #[.int .i64 4, .int .i64 0, .int .i64 0, .string ⟨#[]⟩, .slice none 0 0]
  refine bodyPost_ret (results_struct_tmp rfl _ _ w.heap.size _ _ _ _ rfl D.1 Tryz.underlying26 rfl infoVal5) rfl ?_
  exact ⟨_, _, _, _, _, _, _, rfl, D.2.2⟩
end Go.Proofs.YtjbpodkhgdaopaaGreatDoor
