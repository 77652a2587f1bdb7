/- The reference's zigzag and uvarint. -/
import Derived.Test.YtcedpdneanjbkaaGreatDoorGE1
import Derived.Test.YtcedpdneanjbkaaGreatDoorGE4
import Derived.Test.YtcedpdneanjbkaaGreatDoorGEM
import Derived.Test.YtcedpdneanjbkaaGreatDoorGBkA
import Derived.Lib.AppendStr
namespace Go.Proofs.YtcedpdneanjbkaaGreatDoor
open Go.RowKit Go.Lib

set_option maxRecDepth 100000 in
theorem refZig_k (x : Int) (h0 : -9223372036854775808 ≤ x) (h1 : x ≤ 9223372036854775807) (w : World) :
    Calls Tryz.prog 103 #[.int .i64 x] w fun e w' => e = .returned (.int .u64 (zz x : Int)) ∧ w = w' := by
  by_cases h : x < 0
  · go_enter Tryz.func103, Tryz.ntmps103
    go_wp2
    go_ret
    exact ⟨by unfold zz; rw [if_neg (by omega)]; rw [show (((-2 * x - 1).toNat : Nat) : Int) = 2 * -(x + 1) + 1 by omega]; rfl, rfl⟩
  · go_enter Tryz.func103, Tryz.ntmps103
    go_wp2
    go_ret
    exact ⟨by unfold zz; rw [if_pos (by omega)]; rw [show (((2 * x).toNat : Nat) : Int) = 2 * x by omega]; rfl, rfl⟩
def RefUvC (u : Nat) : Prop := ∀ w : World, Calls Tryz.prog 102 #[.int .u64 (u : Int)] w fun e w' => ∃ v, e = .returned v ∧ w'.ownsRow w.heap.size 5 1 v (uvarint u).length (cellsOf (uvarint u)) ∧ Below w.heap.size w w'
theorem owns_new (w : World) (x : UInt8) (y : Int) (hy : (x.toNat : Int) = y) : (w.alloc (.cells #[.int .u8 y] 5)).ownsRow w.heap.size 5 1 (.slice (some ⟨w.heap.size, 0, none⟩) 1 1) 1 (cellsOf [x]) := by
  subst hy
  exact ⟨rfl, .inr ⟨w.heap.size, 1, _, rfl, Nat.le_refl _, World.alloc_heap_new w _, Nat.le_refl _, by unfold maxLen; omega, rfl, rfl⟩⟩
set_option maxRecDepth 100000 in
theorem refUv_small (u : Nat) (h : u < 128) : RefUvC u := by
  intro w
  go_enter Tryz.func102, Tryz.ntmps102
  go_wp2
  go_ret
  refine ⟨_, rfl, ?_, alloc_v (Below.refl _ _) _⟩
  rw [uvarint_small h]
  exact owns_new w _ _ (by simp; omega)
set_option maxRecDepth 100000 in
set_option maxHeartbeats 1000000 in
theorem refUv_more (u : Nat) (h : 128 ≤ u) (hu : u < 18446744073709551616) (hC : RefUvC (u / 128)) : RefUvC u := by
  intro w
  have h' : ¬ ((u : Int) < 128) := by omega
  have HC := hide hC
  have hy : bits .or .u8 ((u : Int) % 256) 128 = (((u % 128 + 128).toUInt8.toNat : Nat) : Int) := by
    rw [u8_or128_any _ (by omega) (by omega)]
    have : (u % 128 + 128).toUInt8.toNat = u % 128 + 128 := by simp; omega
    rw [this]
    omega
  have HY := hide hy
  have HDD := hide (show (u : Int) / 128 = ((u / 128 : Nat) : Int) by omega)
  clear hy
  have HLN := hide (uvarint_length 9 (u / 128) (by omega))
  have HP := hide (uvarint_pos (u / 128))
  have HE := hide (uvarint_big h)
  have hN := owns_new w (u % 128 + 128).toUInt8 _ rfl
  have RB := hide (RowB.start hN)
  clear hC hN
  go_enter Tryz.func102, Tryz.ntmps102
  go_wp2_with (first
    | (go_at_call 102; rw [HY.out, HDD.out]; refine (HC.out _).mono ?_; clear HC; rintro e w2 ⟨v2, rfl, o2, b2⟩; obtain ⟨v3, w3, hrun, r3⟩ := RB.out.pushRow (by simp) o2 b2 HP.out (by have := HLN.out; simp; omega) 33; have HR := hide hrun; have R3 := hide r3; clear hrun r3 o2)
    | (at_builtin; refine Lib.wpList_append_run _ rfl (.tmp 11) (.tmp 14) 33 33 rfl _ _ rfl rfl _ _ HR.out ?_; clear HR))
  go_ret
  refine ⟨_, rfl, ?_, (alloc_v (Below.refl _ _) _).grown R3.out.gr (by simp) (fun k hk => by simp [Value.ownBlock] at hk; omega)⟩
  rw [HE.out]
  exact R3.out.row
theorem refUv_k (u : Nat) (hu : u < 18446744073709551616) : RefUvC u := by
  have H : ∀ n u, u ≤ n → u < 18446744073709551616 → RefUvC u := by
    intro n
    induction n with
    | zero => intro u h _; exact refUv_small u (by omega)
    | succ n ih =>
      intro u h h2
      by_cases h3 : u < 128
      · exact refUv_small u h3
      · exact refUv_more u (by omega) h2 (ih (u / 128) (by omega) (by omega))
  exact H u u (Nat.le_refl _) hu
end Go.Proofs.YtcedpdneanjbkaaGreatDoor

/- The reference's laid and Encode: a bool, a number, the rows. -/
namespace Go.Proofs.YtcedpdneanjbkaaGreatDoor
open Go.RowKit Go.Lib

theorem own_base {w : World} {L L' : Nat} {e : TypeId} {size : Nat} {v : Value} {k : Nat} {xs : List Value} (h : w.ownsRow L e size v k xs) (hl : L' ≤ L) : w.ownsRow L' e size v k xs := by
  refine ⟨h.1, ?_⟩
  rcases h.2 with h0 | ⟨g, cap, cur, hv, hb, rest⟩
  · exact .inl h0
  · exact .inr ⟨g, cap, cur, hv, by omega, rest⟩
/-- What laid leaves: a row of its own. -/
def LaidAt (w w' : World) (r : Value) (bs : List UInt8) : Prop := w'.ownsRow w.heap.size 5 1 r bs.length (cellsOf bs) ∧ Below w.heap.size w w'
theorem laid_end {w W U : World} {o : Obj} {r : Value} {bs : List UInt8} (bW : Below w.heap.size w W) (h : RowB (W.alloc o) W.heap.size (some W.heap.size) U r bs) : LaidAt w U r bs :=
  ⟨own_base h.row bW.size, (alloc_v bW o).grown h.gr (by have := bW.size; simp; omega) (fun k hk => by have := bW.size; cases hk; omega)⟩
set_option maxRecDepth 100000 in
set_option maxHeartbeats 1000000 in
theorem laid_bool (i m : Int) (t : ByteArray) (l : List Vl) (a : Option Addr) (c : Nat) (w : World) (hok : (⟨1, i, m, t, l⟩ : Vl).ok) (hi : i = 0 ∨ i = 1) :
    Calls Tryz.prog 67 #[.agg (vcells ⟨1, i, m, t, l⟩ (.slice a l.length c))] w fun e w' => ∃ r, e = .returned r ∧ LaidAt w w' r (encV ⟨1, i, m, t, l⟩) := by
  obtain ⟨W, hW⟩ : ∃ W, w.alloc (.cells (vcells ⟨1, i, m, t, l⟩ (.slice a l.length c)) 46) = W := ⟨_, rfl⟩
  have bW : Below w.heap.size w W := by rw [← hW]; exact alloc_v (Below.refl _ _) _
  have e1 : W.heap[w.heap.size]? = some (.cells (vcells ⟨1, i, m, t, l⟩ (.slice a l.length c)) 46 (0, 0)) := by rw [← hW]; exact World.alloc_heap_new w _
  have zW : w.heap.size < W.heap.size := (Array.getElem?_eq_some_iff.1 e1).1
  have x0 := cells_at e1 0 _ rfl
  have hN := owns_new W (UInt8.ofNat 1) 1 rfl
  obtain ⟨W1, hW1⟩ : ∃ W1, W.alloc (.cells #[.int .u8 1] 5) = W1 := ⟨_, rfl⟩
  have FIN := hide (fun (U : World) (r : Value) (bs : List UInt8) (h : RowB W1 W.heap.size (some W.heap.size) U r bs) => (laid_end bW (hW1.symm ▸ h) : LaidAt w U r bs))
  rw [hW1] at hN
  have RW : RowB W1 W.heap.size (some W.heap.size) W1 (.slice (some ⟨W.heap.size, 0, none⟩) 1 1) [UInt8.ofNat 1] := RowB.start hN
  have zW1 : W.heap.size < W1.heap.size := by rw [← hW1, World.size_alloc]; omega
  have HB := hide (fun (U : World) (g : W1.grownBy U (some W.heap.size)) => (g.block w.heap.size (by omega) (by simp; omega)).trans ((show W1.heap[w.heap.size]? = W.heap[w.heap.size]? by rw [← hW1]; exact Below.heap_alloc _ _ _ zW).trans e1))
  have HE := hide (encV_eq ⟨1, i, m, t, l⟩)
  simp only at HE
  obtain ⟨ok1, ⟨ok2, ok3⟩, ok4, ok5⟩ := hok
  simp only at ok1 ok2 ok3 ok4 ok5
  have b1 := HB.out W1 (grown_self _ _)
  have y0 := cells_at b1 0 _ rfl
  have y1 := cells_at b1 1 _ rfl
  have y2 := cells_at b1 2 _ rfl
  have y3 := cells_at b1 3 _ rfl
  have y4 := cells_at b1 4 _ rfl
  obtain ⟨v2, w2, hrun2, R2⟩ := RW.pushByte (by omega) (UInt8.ofNat i.toNat) i (by rcases hi with rfl | rfl <;> rfl) (by simp) 33
  have HR2 := hide hrun2
  have HR := hide (FIN.out _ _ _ R2)
  have hib : 0 ≤ i := by omega
  have hic : i ≤ 1 := by omega
  clear hrun2 R2 RW e1 b1 hN HB
  go_enter Tryz.func67, Tryz.ntmps67
  go_wp2_with (at_builtin; refine Lib.wpList_append_run _ rfl (.tmp 13) (.tmp 17) 33 33 rfl _ _ rfl rfl _ _ HR2.out ?_; clear HR2)
  go_ret
  refine ⟨_, rfl, ?_⟩
  rw [HE.out]
  simpa using HR.out
set_option maxRecDepth 100000 in
set_option maxHeartbeats 1000000 in
theorem laid_int (i m : Int) (t : ByteArray) (l : List Vl) (a : Option Addr) (c : Nat) (w : World) (hok : (⟨2, i, m, t, l⟩ : Vl).ok) :
    Calls Tryz.prog 67 #[.agg (vcells ⟨2, i, m, t, l⟩ (.slice a l.length c))] w fun e w' => ∃ r, e = .returned r ∧ LaidAt w w' r (encV ⟨2, i, m, t, l⟩) := by
  obtain ⟨W, hW⟩ : ∃ W, w.alloc (.cells (vcells ⟨2, i, m, t, l⟩ (.slice a l.length c)) 46) = W := ⟨_, rfl⟩
  have bW : Below w.heap.size w W := by rw [← hW]; exact alloc_v (Below.refl _ _) _
  have e1 : W.heap[w.heap.size]? = some (.cells (vcells ⟨2, i, m, t, l⟩ (.slice a l.length c)) 46 (0, 0)) := by rw [← hW]; exact World.alloc_heap_new w _
  have zW : w.heap.size < W.heap.size := (Array.getElem?_eq_some_iff.1 e1).1
  have x0 := cells_at e1 0 _ rfl
  have hN := owns_new W (UInt8.ofNat 2) 2 rfl
  obtain ⟨W1, hW1⟩ : ∃ W1, W.alloc (.cells #[.int .u8 2] 5) = W1 := ⟨_, rfl⟩
  have FIN := hide (fun (U : World) (r : Value) (bs : List UInt8) (h : RowB W1 W.heap.size (some W.heap.size) U r bs) => (laid_end bW (hW1.symm ▸ h) : LaidAt w U r bs))
  rw [hW1] at hN
  have RW : RowB W1 W.heap.size (some W.heap.size) W1 (.slice (some ⟨W.heap.size, 0, none⟩) 1 1) [UInt8.ofNat 2] := RowB.start hN
  have zW1 : W.heap.size < W1.heap.size := by rw [← hW1, World.size_alloc]; omega
  have HB := hide (fun (U : World) (g : W1.grownBy U (some W.heap.size)) => (g.block w.heap.size (by omega) (by simp; omega)).trans ((show W1.heap[w.heap.size]? = W.heap[w.heap.size]? by rw [← hW1]; exact Below.heap_alloc _ _ _ zW).trans e1))
  have HE := hide (encV_eq ⟨2, i, m, t, l⟩)
  simp only at HE
  obtain ⟨ok1, ⟨ok2, ok3⟩, ok4, ok5⟩ := hok
  simp only at ok1 ok2 ok3 ok4 ok5
  have b1 := HB.out W1 (grown_self _ _)
  have y0 := cells_at b1 0 _ rfl
  have y1 := cells_at b1 1 _ rfl
  have y2 := cells_at b1 2 _ rfl
  have y3 := cells_at b1 3 _ rfl
  have y4 := cells_at b1 4 _ rfl
  have HZ := hide (refZig_k i ok2 ok3)
  have HV := hide (refUv_k (zz i) (zz_lt i ok2 ok3))
  have HLN := hide (uvarint_length 9 (zz i) (by have := zz_lt i ok2 ok3; omega))
  have HP := hide (fun (w2 : World) (u : Value) (hu : w2.ownsRow W1.heap.size 5 1 u (uvarint (zz i)).length (cellsOf (uvarint (zz i)))) (hb : Below W1.heap.size W1 w2) => RW.pushRow (by omega) hu hb (uvarint_pos _) (by have := HLN.out; simp; omega) 33)
  clear RW e1 b1 hN HB
  go_enter Tryz.func67, Tryz.ntmps67
  go_wp2_with (first
    | (go_at_call 103; refine (HZ.out _).mono ?_; clear HZ; rintro e wq ⟨rfl, rfl⟩)
    | (go_at_call 102; refine (HV.out _).mono ?_; clear HV; rintro e w2 ⟨u, rfl, A1, A2⟩; obtain ⟨v3, w3, hrun, R3⟩ := HP.out _ _ A1 A2; have HR2 := hide hrun; have HR := hide (FIN.out _ _ _ R3); clear hrun R3 A1 A2 HP)
    | (at_builtin; refine Lib.wpList_append_run _ rfl (.tmp 21) (.tmp 25) 33 33 rfl _ _ rfl rfl _ _ HR2.out ?_; clear HR2))
  go_ret
  refine ⟨_, rfl, ?_⟩
  rw [HE.out]
  simpa using HR.out
end Go.Proofs.YtcedpdneanjbkaaGreatDoor

/- The reference's laid: the rows. -/
namespace Go.Proofs.YtcedpdneanjbkaaGreatDoor
open Go.RowKit Go.Lib

def LaidC (n : Nat) : Prop := ∀ (v : Vl) (w : World) (B : Nat) (sl : Value), formV v = true → v.ok → v.size ≤ 1000000000 → B ≤ w.heap.size → ItemsAt w B n sl v.items → (encV v).length ≤ 1000000000000 →
  Calls Tryz.prog 67 #[.agg (vcells v sl)] w fun e w' => ∃ r, e = .returned r ∧ LaidAt w w' r (encV v)
theorem encV_pos (v : Vl) : 0 < (encV v).length := by rw [encV_eq]; simp
set_option maxRecDepth 100000 in
set_option maxHeartbeats 1000000 in
theorem laid_row5 {n B : Nat} (hC : LaidC n) (i m : Int) (t : ByteArray) (l : List Vl) (a : Option Addr) (c : Nat) (w : World) (hok : (⟨5, i, m, t, l⟩ : Vl).ok) (hBw : B ≤ w.heap.size) (hi : ItemsAt w B (n + 1) (.slice a l.length c) l) (hf : ∀ x ∈ l, formV x = true) (hz : ∀ x ∈ l, x.size ≤ 1000000000) (hll : l.length ≤ 1000000000) (hn : (encV ⟨5, i, m, t, l⟩).length ≤ 1000000000000) :
    Calls Tryz.prog 67 #[.agg (vcells ⟨5, i, m, t, l⟩ (.slice a l.length c))] w fun e w' => ∃ r, e = .returned r ∧ LaidAt w w' r (encV ⟨5, i, m, t, l⟩) := by
  obtain ⟨W, hW⟩ : ∃ W, w.alloc (.cells (vcells ⟨5, i, m, t, l⟩ (.slice a l.length c)) 46) = W := ⟨_, rfl⟩
  have bW : Below w.heap.size w W := by rw [← hW]; exact alloc_v (Below.refl _ _) _
  have e1 : W.heap[w.heap.size]? = some (.cells (vcells ⟨5, i, m, t, l⟩ (.slice a l.length c)) 46 (0, 0)) := by rw [← hW]; exact World.alloc_heap_new w _
  have zW : w.heap.size < W.heap.size := (Array.getElem?_eq_some_iff.1 e1).1
  have x0 := cells_at e1 0 _ rfl
  have hN := owns_new W (UInt8.ofNat 5) 5 rfl
  obtain ⟨W1, hW1⟩ : ∃ W1, W.alloc (.cells #[.int .u8 5] 5) = W1 := ⟨_, rfl⟩
  have FIN := hide (fun (U : World) (r : Value) (bs : List UInt8) (h : RowB W1 W.heap.size (some W.heap.size) U r bs) => (laid_end bW (hW1.symm ▸ h) : LaidAt w U r bs))
  rw [hW1] at hN
  have RW : RowB W1 W.heap.size (some W.heap.size) W1 (.slice (some ⟨W.heap.size, 0, none⟩) 1 1) [UInt8.ofNat 5] := RowB.start hN
  have zW1 : W.heap.size < W1.heap.size := by rw [← hW1, World.size_alloc]; omega
  have HB := hide (fun (U : World) (g : W1.grownBy U (some W.heap.size)) => (g.block w.heap.size (by omega) (by simp; omega)).trans ((show W1.heap[w.heap.size]? = W.heap[w.heap.size]? by rw [← hW1]; exact Below.heap_alloc _ _ _ zW).trans e1))
  have HE := hide (encV_eq ⟨5, i, m, t, l⟩)
  simp only at HE
  obtain ⟨ok1, ⟨ok2, ok3⟩, ok4, ok5⟩ := hok
  simp only at ok1 ok2 ok3 ok4 ok5
  have b1 := HB.out W1 (grown_self _ _)
  have y0 := cells_at b1 0 _ rfl
  have y1 := cells_at b1 1 _ rfl
  have y2 := cells_at b1 2 _ rfl
  have y3 := cells_at b1 3 _ rfl
  have y4 := cells_at b1 4 _ rfl
  have hlen := congrArg List.length HE.out
  simp at hlen
  have HU := hide (refUv_k l.length (by omega))
  have HP := hide (fun (w2 : World) (u : Value) (hu : w2.ownsRow W1.heap.size 5 1 u (uvarint l.length).length (cellsOf (uvarint l.length))) (hb : Below W1.heap.size W1 w2) => RW.pushRow (by omega) hu hb (uvarint_pos _) (by simp; omega) 33)
  have bW1 : Below W.heap.size W W1 := by rw [← hW1]; exact alloc_v (Below.refl _ _) _
  have HI := hide (hi.below ((trans_v bW bW1).mono hBw))
  have hbv : ∀ k, some W.heap.size = some k → B ≤ k := fun k e => by cases e; omega
  have HLEN : Hid (∀ k, (UInt8.ofNat 5 :: (uvarint l.length ++ ((l.take k).map encV).flatten)).length ≤ 1000000000000) := hide (fun k => by have := flat_le l k; simp at this ⊢; omega)
  have HCC := hide hC
  have HF := hide hf
  have HZ := hide hz
  clear RW e1 b1 hN hlen hi hC hf hz
  go_enter Tryz.func67, Tryz.ntmps67
  go_wp2_with (first
    | (go_at_call 102; refine (HU.out _).mono ?_; clear HU; rintro e w2 ⟨u, rfl, A1, A2⟩; obtain ⟨v3, w3, hrun, R3⟩ := HP.out _ _ A1 A2; have HR2 := hide hrun; have HR3 := hide R3; have u4 := cells_at (HB.out w3 R3.gr) 4 _ rfl; clear hrun R3 A1 A2 HP)
    | (at_builtin; refine Lib.wpList_append_run _ rfl (.tmp 52) (.tmp 57) 33 33 rfl _ _ rfl rfl _ _ HR2.out ?_; clear HR2))
  clear x0 y0 y1 y2 y3 y4 u4 hW hW1
  go_loopw [3, 4] (fun b i wr => ∃ k : Nat, k ≤ l.length ∧ i = .int .i64 k ∧ RowB W1 W.heap.size (some W.heap.size) wr b (UInt8.ofNat 5 :: (uvarint l.length ++ ((l.take k).map encV).flatten))) (fun _ i _ => l.length - (RowKit.intOf i).toNat)
  case atStart => exact ⟨0, Nat.zero_le _, rfl, by simpa using HR3.out⟩
  case round =>
    obtain ⟨k, hk, rfl, hR⟩ := hrel
    have x4 := cells_at (HB.out wr hR.gr) 4 _ rfl
    by_cases hlt : k < l.length
    · obtain ⟨b1, o1, s1, rfl, g1, p0, p1, p2, p3, p4, p5, p6⟩ := (HI.out.grownO hR.gr hbv (by omega)).item k hlt
      have gz := hR.gr.size
      have l1 : b1 < wr.heap.size := by omega
      have hl1 := HLEN.out (k + 1)
      rw [flat_take l k hlt] at hl1
      simp at hl1
      have HC := hide (HCC.out l[k] wr B s1 (HF.out _ (List.getElem_mem hlt)) p6 (HZ.out _ (List.getElem_mem hlt)) (by omega) p5 (by omega))
      have HM := hide (fun (U : World) (r : Value) (h : LaidAt wr U r (encV l[k])) => (show ∃ v' w', (Builtin.append_ #[33, 33] 33 #[_, r]).run Tryz.prog U = .ok v' w' ∧ RowB W1 W.heap.size (some W.heap.size) w' v' (UInt8.ofNat 5 :: (uvarint l.length ++ ((l.take (k + 1)).map encV).flatten)) from by
        obtain ⟨v', w', h1, h2⟩ := hR.pushRow (by omega) h.1 h.2 (encV_pos _) (by simp; omega) 33
        refine ⟨v', w', h1, ?_⟩
        rw [flat_take l k hlt]
        simpa using h2))
      obtain ⟨xx1, yy1, rfl, _⟩ := p5.len
      clear p5 p6 g1 hR gz hl1
      generalize encV l[k] = ev at *
      generalize l[k].items = xi at *
      generalize l[k] = x at *
      go_wp2_with (first
        | (go_at_call 67; refine HC.out.mono ?_; clear HC; rintro e w5 ⟨v5, rfl, r5⟩; obtain ⟨v6, w6, hrun, R6⟩ := HM.out _ _ r5; have HR6 := hide hrun; have R6' := hide R6; clear r5 HM hrun R6)
        | (at_builtin; refine Lib.wpList_append_run _ rfl (.tmp 66) (.tmp 72) 33 33 rfl _ _ rfl rfl _ _ HR6.out ?_; clear HR6))
      go_roundw
      case rel => exact ⟨k + 1, by omega, by go_num, R6'.out⟩
      case measure => simp [RowKit.intOf]; omega
    · rw [List.take_of_length_le (by omega)] at hR
      have HR := hide (FIN.out _ _ _ hR)
      clear hR
      go_wp2
      go_ret
      refine ⟨_, rfl, ?_⟩
      rw [HE.out]
      simpa using HR.out
set_option maxRecDepth 100000 in
set_option maxHeartbeats 1000000 in
theorem laid_row6 {n B : Nat} (hC : LaidC n) (i m : Int) (t : ByteArray) (l : List Vl) (a : Option Addr) (c : Nat) (w : World) (hok : (⟨6, i, m, t, l⟩ : Vl).ok) (hBw : B ≤ w.heap.size) (hi : ItemsAt w B (n + 1) (.slice a l.length c) l) (hf : ∀ x ∈ l, formV x = true) (hz : ∀ x ∈ l, x.size ≤ 1000000000) (hll : l.length ≤ 1000000000) (hn : (encV ⟨6, i, m, t, l⟩).length ≤ 1000000000000) :
    Calls Tryz.prog 67 #[.agg (vcells ⟨6, i, m, t, l⟩ (.slice a l.length c))] w fun e w' => ∃ r, e = .returned r ∧ LaidAt w w' r (encV ⟨6, i, m, t, l⟩) := by
  obtain ⟨W, hW⟩ : ∃ W, w.alloc (.cells (vcells ⟨6, i, m, t, l⟩ (.slice a l.length c)) 46) = W := ⟨_, rfl⟩
  have bW : Below w.heap.size w W := by rw [← hW]; exact alloc_v (Below.refl _ _) _
  have e1 : W.heap[w.heap.size]? = some (.cells (vcells ⟨6, i, m, t, l⟩ (.slice a l.length c)) 46 (0, 0)) := by rw [← hW]; exact World.alloc_heap_new w _
  have zW : w.heap.size < W.heap.size := (Array.getElem?_eq_some_iff.1 e1).1
  have x0 := cells_at e1 0 _ rfl
  have hN := owns_new W (UInt8.ofNat 6) 6 rfl
  obtain ⟨W1, hW1⟩ : ∃ W1, W.alloc (.cells #[.int .u8 6] 5) = W1 := ⟨_, rfl⟩
  have FIN := hide (fun (U : World) (r : Value) (bs : List UInt8) (h : RowB W1 W.heap.size (some W.heap.size) U r bs) => (laid_end bW (hW1.symm ▸ h) : LaidAt w U r bs))
  rw [hW1] at hN
  have RW : RowB W1 W.heap.size (some W.heap.size) W1 (.slice (some ⟨W.heap.size, 0, none⟩) 1 1) [UInt8.ofNat 6] := RowB.start hN
  have zW1 : W.heap.size < W1.heap.size := by rw [← hW1, World.size_alloc]; omega
  have HB := hide (fun (U : World) (g : W1.grownBy U (some W.heap.size)) => (g.block w.heap.size (by omega) (by simp; omega)).trans ((show W1.heap[w.heap.size]? = W.heap[w.heap.size]? by rw [← hW1]; exact Below.heap_alloc _ _ _ zW).trans e1))
  have HE := hide (encV_eq ⟨6, i, m, t, l⟩)
  simp only at HE
  obtain ⟨ok1, ⟨ok2, ok3⟩, ok4, ok5⟩ := hok
  simp only at ok1 ok2 ok3 ok4 ok5
  have b1 := HB.out W1 (grown_self _ _)
  have y0 := cells_at b1 0 _ rfl
  have y1 := cells_at b1 1 _ rfl
  have y2 := cells_at b1 2 _ rfl
  have y3 := cells_at b1 3 _ rfl
  have y4 := cells_at b1 4 _ rfl
  have hlen := congrArg List.length HE.out
  simp at hlen
  have HU := hide (refUv_k l.length (by omega))
  have HP := hide (fun (w2 : World) (u : Value) (hu : w2.ownsRow W1.heap.size 5 1 u (uvarint l.length).length (cellsOf (uvarint l.length))) (hb : Below W1.heap.size W1 w2) => RW.pushRow (by omega) hu hb (uvarint_pos _) (by simp; omega) 33)
  have bW1 : Below W.heap.size W W1 := by rw [← hW1]; exact alloc_v (Below.refl _ _) _
  have HI := hide (hi.below ((trans_v bW bW1).mono hBw))
  have hbv : ∀ k, some W.heap.size = some k → B ≤ k := fun k e => by cases e; omega
  have HLEN : Hid (∀ k, (UInt8.ofNat 6 :: (uvarint l.length ++ ((l.take k).map encV).flatten)).length ≤ 1000000000000) := hide (fun k => by have := flat_le l k; simp at this ⊢; omega)
  have HCC := hide hC
  have HF := hide hf
  have HZ := hide hz
  clear RW e1 b1 hN hlen hi hC hf hz
  go_enter Tryz.func67, Tryz.ntmps67
  go_wp2_with (first
    | (go_at_call 102; refine (HU.out _).mono ?_; clear HU; rintro e w2 ⟨u, rfl, A1, A2⟩; obtain ⟨v3, w3, hrun, R3⟩ := HP.out _ _ A1 A2; have HR2 := hide hrun; have HR3 := hide R3; have u4 := cells_at (HB.out w3 R3.gr) 4 _ rfl; clear hrun R3 A1 A2 HP)
    | (at_builtin; refine Lib.wpList_append_run _ rfl (.tmp 52) (.tmp 57) 33 33 rfl _ _ rfl rfl _ _ HR2.out ?_; clear HR2))
  clear x0 y0 y1 y2 y3 y4 u4 hW hW1
  go_loopw [3, 4] (fun b i wr => ∃ k : Nat, k ≤ l.length ∧ i = .int .i64 k ∧ RowB W1 W.heap.size (some W.heap.size) wr b (UInt8.ofNat 6 :: (uvarint l.length ++ ((l.take k).map encV).flatten))) (fun _ i _ => l.length - (RowKit.intOf i).toNat)
  case atStart => exact ⟨0, Nat.zero_le _, rfl, by simpa using HR3.out⟩
  case round =>
    obtain ⟨k, hk, rfl, hR⟩ := hrel
    have x4 := cells_at (HB.out wr hR.gr) 4 _ rfl
    by_cases hlt : k < l.length
    · obtain ⟨b1, o1, s1, rfl, g1, p0, p1, p2, p3, p4, p5, p6⟩ := (HI.out.grownO hR.gr hbv (by omega)).item k hlt
      have gz := hR.gr.size
      have l1 : b1 < wr.heap.size := by omega
      have hl1 := HLEN.out (k + 1)
      rw [flat_take l k hlt] at hl1
      simp at hl1
      have HC := hide (HCC.out l[k] wr B s1 (HF.out _ (List.getElem_mem hlt)) p6 (HZ.out _ (List.getElem_mem hlt)) (by omega) p5 (by omega))
      have HM := hide (fun (U : World) (r : Value) (h : LaidAt wr U r (encV l[k])) => (show ∃ v' w', (Builtin.append_ #[33, 33] 33 #[_, r]).run Tryz.prog U = .ok v' w' ∧ RowB W1 W.heap.size (some W.heap.size) w' v' (UInt8.ofNat 6 :: (uvarint l.length ++ ((l.take (k + 1)).map encV).flatten)) from by
        obtain ⟨v', w', h1, h2⟩ := hR.pushRow (by omega) h.1 h.2 (encV_pos _) (by simp; omega) 33
        refine ⟨v', w', h1, ?_⟩
        rw [flat_take l k hlt]
        simpa using h2))
      obtain ⟨xx1, yy1, rfl, _⟩ := p5.len
      clear p5 p6 g1 hR gz hl1
      generalize encV l[k] = ev at *
      generalize l[k].items = xi at *
      generalize l[k] = x at *
      go_wp2_with (first
        | (go_at_call 67; refine HC.out.mono ?_; clear HC; rintro e w5 ⟨v5, rfl, r5⟩; obtain ⟨v6, w6, hrun, R6⟩ := HM.out _ _ r5; have HR6 := hide hrun; have R6' := hide R6; clear r5 HM hrun R6)
        | (at_builtin; refine Lib.wpList_append_run _ rfl (.tmp 66) (.tmp 72) 33 33 rfl _ _ rfl rfl _ _ HR6.out ?_; clear HR6))
      go_roundw
      case rel => exact ⟨k + 1, by omega, by go_num, R6'.out⟩
      case measure => simp [RowKit.intOf]; omega
    · rw [List.take_of_length_le (by omega)] at hR
      have HR := hide (FIN.out _ _ _ hR)
      clear hR
      go_wp2
      go_ret
      refine ⟨_, rfl, ?_⟩
      rw [HE.out]
      simpa using HR.out
set_option maxRecDepth 100000 in
set_option maxHeartbeats 1000000 in
theorem laid_row7 {n B : Nat} (hC : LaidC n) (i m : Int) (t : ByteArray) (l : List Vl) (a : Option Addr) (c : Nat) (w : World) (hok : (⟨7, i, m, t, l⟩ : Vl).ok) (hBw : B ≤ w.heap.size) (hi : ItemsAt w B (n + 1) (.slice a l.length c) l) (hf : ∀ x ∈ l, formV x = true) (hz : ∀ x ∈ l, x.size ≤ 1000000000) (hll : l.length ≤ 1000000000) (hn : (encV ⟨7, i, m, t, l⟩).length ≤ 1000000000000) :
    Calls Tryz.prog 67 #[.agg (vcells ⟨7, i, m, t, l⟩ (.slice a l.length c))] w fun e w' => ∃ r, e = .returned r ∧ LaidAt w w' r (encV ⟨7, i, m, t, l⟩) := by
  obtain ⟨W, hW⟩ : ∃ W, w.alloc (.cells (vcells ⟨7, i, m, t, l⟩ (.slice a l.length c)) 46) = W := ⟨_, rfl⟩
  have bW : Below w.heap.size w W := by rw [← hW]; exact alloc_v (Below.refl _ _) _
  have e1 : W.heap[w.heap.size]? = some (.cells (vcells ⟨7, i, m, t, l⟩ (.slice a l.length c)) 46 (0, 0)) := by rw [← hW]; exact World.alloc_heap_new w _
  have zW : w.heap.size < W.heap.size := (Array.getElem?_eq_some_iff.1 e1).1
  have x0 := cells_at e1 0 _ rfl
  have hN := owns_new W (UInt8.ofNat 7) 7 rfl
  obtain ⟨W1, hW1⟩ : ∃ W1, W.alloc (.cells #[.int .u8 7] 5) = W1 := ⟨_, rfl⟩
  have FIN := hide (fun (U : World) (r : Value) (bs : List UInt8) (h : RowB W1 W.heap.size (some W.heap.size) U r bs) => (laid_end bW (hW1.symm ▸ h) : LaidAt w U r bs))
  rw [hW1] at hN
  have RW : RowB W1 W.heap.size (some W.heap.size) W1 (.slice (some ⟨W.heap.size, 0, none⟩) 1 1) [UInt8.ofNat 7] := RowB.start hN
  have zW1 : W.heap.size < W1.heap.size := by rw [← hW1, World.size_alloc]; omega
  have HB := hide (fun (U : World) (g : W1.grownBy U (some W.heap.size)) => (g.block w.heap.size (by omega) (by simp; omega)).trans ((show W1.heap[w.heap.size]? = W.heap[w.heap.size]? by rw [← hW1]; exact Below.heap_alloc _ _ _ zW).trans e1))
  have HE := hide (encV_eq ⟨7, i, m, t, l⟩)
  simp only at HE
  obtain ⟨ok1, ⟨ok2, ok3⟩, ok4, ok5⟩ := hok
  simp only at ok1 ok2 ok3 ok4 ok5
  have b1 := HB.out W1 (grown_self _ _)
  have y0 := cells_at b1 0 _ rfl
  have y1 := cells_at b1 1 _ rfl
  have y2 := cells_at b1 2 _ rfl
  have y3 := cells_at b1 3 _ rfl
  have y4 := cells_at b1 4 _ rfl
  have hlen := congrArg List.length HE.out
  simp at hlen
  have HU := hide (refUv_k l.length (by omega))
  have HP := hide (fun (w2 : World) (u : Value) (hu : w2.ownsRow W1.heap.size 5 1 u (uvarint l.length).length (cellsOf (uvarint l.length))) (hb : Below W1.heap.size W1 w2) => RW.pushRow (by omega) hu hb (uvarint_pos _) (by simp; omega) 33)
  have bW1 : Below W.heap.size W W1 := by rw [← hW1]; exact alloc_v (Below.refl _ _) _
  have HI := hide (hi.below ((trans_v bW bW1).mono hBw))
  have hbv : ∀ k, some W.heap.size = some k → B ≤ k := fun k e => by cases e; omega
  have HLEN : Hid (∀ k, (UInt8.ofNat 7 :: (uvarint l.length ++ ((l.take k).map encV).flatten)).length ≤ 1000000000000) := hide (fun k => by have := flat_le l k; simp at this ⊢; omega)
  have HCC := hide hC
  have HF := hide hf
  have HZ := hide hz
  clear RW e1 b1 hN hlen hi hC hf hz
  go_enter Tryz.func67, Tryz.ntmps67
  go_wp2_with (first
    | (go_at_call 102; refine (HU.out _).mono ?_; clear HU; rintro e w2 ⟨u, rfl, A1, A2⟩; obtain ⟨v3, w3, hrun, R3⟩ := HP.out _ _ A1 A2; have HR2 := hide hrun; have HR3 := hide R3; have u4 := cells_at (HB.out w3 R3.gr) 4 _ rfl; clear hrun R3 A1 A2 HP)
    | (at_builtin; refine Lib.wpList_append_run _ rfl (.tmp 52) (.tmp 57) 33 33 rfl _ _ rfl rfl _ _ HR2.out ?_; clear HR2))
  clear x0 y0 y1 y2 y3 y4 u4 hW hW1
  go_loopw [3, 4] (fun b i wr => ∃ k : Nat, k ≤ l.length ∧ i = .int .i64 k ∧ RowB W1 W.heap.size (some W.heap.size) wr b (UInt8.ofNat 7 :: (uvarint l.length ++ ((l.take k).map encV).flatten))) (fun _ i _ => l.length - (RowKit.intOf i).toNat)
  case atStart => exact ⟨0, Nat.zero_le _, rfl, by simpa using HR3.out⟩
  case round =>
    obtain ⟨k, hk, rfl, hR⟩ := hrel
    have x4 := cells_at (HB.out wr hR.gr) 4 _ rfl
    by_cases hlt : k < l.length
    · obtain ⟨b1, o1, s1, rfl, g1, p0, p1, p2, p3, p4, p5, p6⟩ := (HI.out.grownO hR.gr hbv (by omega)).item k hlt
      have gz := hR.gr.size
      have l1 : b1 < wr.heap.size := by omega
      have hl1 := HLEN.out (k + 1)
      rw [flat_take l k hlt] at hl1
      simp at hl1
      have HC := hide (HCC.out l[k] wr B s1 (HF.out _ (List.getElem_mem hlt)) p6 (HZ.out _ (List.getElem_mem hlt)) (by omega) p5 (by omega))
      have HM := hide (fun (U : World) (r : Value) (h : LaidAt wr U r (encV l[k])) => (show ∃ v' w', (Builtin.append_ #[33, 33] 33 #[_, r]).run Tryz.prog U = .ok v' w' ∧ RowB W1 W.heap.size (some W.heap.size) w' v' (UInt8.ofNat 7 :: (uvarint l.length ++ ((l.take (k + 1)).map encV).flatten)) from by
        obtain ⟨v', w', h1, h2⟩ := hR.pushRow (by omega) h.1 h.2 (encV_pos _) (by simp; omega) 33
        refine ⟨v', w', h1, ?_⟩
        rw [flat_take l k hlt]
        simpa using h2))
      obtain ⟨xx1, yy1, rfl, _⟩ := p5.len
      clear p5 p6 g1 hR gz hl1
      generalize encV l[k] = ev at *
      generalize l[k].items = xi at *
      generalize l[k] = x at *
      go_wp2_with (first
        | (go_at_call 67; refine HC.out.mono ?_; clear HC; rintro e w5 ⟨v5, rfl, r5⟩; obtain ⟨v6, w6, hrun, R6⟩ := HM.out _ _ r5; have HR6 := hide hrun; have R6' := hide R6; clear r5 HM hrun R6)
        | (at_builtin; refine Lib.wpList_append_run _ rfl (.tmp 66) (.tmp 72) 33 33 rfl _ _ rfl rfl _ _ HR6.out ?_; clear HR6))
      go_roundw
      case rel => exact ⟨k + 1, by omega, by go_num, R6'.out⟩
      case measure => simp [RowKit.intOf]; omega
    · rw [List.take_of_length_le (by omega)] at hR
      have HR := hide (FIN.out _ _ _ hR)
      clear hR
      go_wp2
      go_ret
      refine ⟨_, rfl, ?_⟩
      rw [HE.out]
      simpa using HR.out
end Go.Proofs.YtcedpdneanjbkaaGreatDoor

/- The reference's laid: a Gaussian number. -/
namespace Go.Proofs.YtcedpdneanjbkaaGreatDoor
open Go.RowKit Go.Lib

set_option maxRecDepth 100000 in
set_option maxHeartbeats 1000000 in
theorem laid_gauss (i m : Int) (t : ByteArray) (l : List Vl) (a : Option Addr) (c : Nat) (w : World) (hok : (⟨3, i, m, t, l⟩ : Vl).ok) :
    Calls Tryz.prog 67 #[.agg (vcells ⟨3, i, m, t, l⟩ (.slice a l.length c))] w fun e w' => ∃ r, e = .returned r ∧ LaidAt w w' r (encV ⟨3, i, m, t, l⟩) := by
  obtain ⟨W, hW⟩ : ∃ W, w.alloc (.cells (vcells ⟨3, i, m, t, l⟩ (.slice a l.length c)) 46) = W := ⟨_, rfl⟩
  have bW : Below w.heap.size w W := by rw [← hW]; exact alloc_v (Below.refl _ _) _
  have e1 : W.heap[w.heap.size]? = some (.cells (vcells ⟨3, i, m, t, l⟩ (.slice a l.length c)) 46 (0, 0)) := by rw [← hW]; exact World.alloc_heap_new w _
  have zW : w.heap.size < W.heap.size := (Array.getElem?_eq_some_iff.1 e1).1
  have x0 := cells_at e1 0 _ rfl
  have hN := owns_new W (UInt8.ofNat 3) 3 rfl
  obtain ⟨W1, hW1⟩ : ∃ W1, W.alloc (.cells #[.int .u8 3] 5) = W1 := ⟨_, rfl⟩
  have FIN := hide (fun (U : World) (r : Value) (bs : List UInt8) (h : RowB W1 W.heap.size (some W.heap.size) U r bs) => (laid_end bW (hW1.symm ▸ h) : LaidAt w U r bs))
  rw [hW1] at hN
  have RW : RowB W1 W.heap.size (some W.heap.size) W1 (.slice (some ⟨W.heap.size, 0, none⟩) 1 1) [UInt8.ofNat 3] := RowB.start hN
  have zW1 : W.heap.size < W1.heap.size := by rw [← hW1, World.size_alloc]; omega
  have HB := hide (fun (U : World) (g : W1.grownBy U (some W.heap.size)) => (g.block w.heap.size (by omega) (by simp; omega)).trans ((show W1.heap[w.heap.size]? = W.heap[w.heap.size]? by rw [← hW1]; exact Below.heap_alloc _ _ _ zW).trans e1))
  have HE := hide (encV_eq ⟨3, i, m, t, l⟩)
  simp only at HE
  obtain ⟨ok1, ⟨ok2, ok3⟩, ok4, ok5⟩ := hok
  simp only at ok1 ok2 ok3 ok4 ok5
  have b1 := HB.out W1 (grown_self _ _)
  have y0 := cells_at b1 0 _ rfl
  have y1 := cells_at b1 1 _ rfl
  have y2 := cells_at b1 2 _ rfl
  have y3 := cells_at b1 3 _ rfl
  have y4 := cells_at b1 4 _ rfl
  have HZ := hide (refZig_k i ok2 ok3)
  have HZ2 := hide (refZig_k m ok4 ok5)
  have HV := hide (fun w : World => refUv_k (zz i) (zz_lt i ok2 ok3) w)
  have HV2 := hide (fun w : World => refUv_k (zz m) (zz_lt m ok4 ok5) w)
  have HLN := hide (uvarint_length 9 (zz i) (by have := zz_lt i ok2 ok3; omega))
  have HLN2 := hide (uvarint_length 9 (zz m) (by have := zz_lt m ok4 ok5; omega))
  have HPOS := hide (show 0 < (uvarint (zz m)).length from uvarint_pos _)
  obtain ⟨V, hV⟩ : ∃ V, W1.drew = V := ⟨_, rfl⟩
  have bV : Below W1.heap.size W1 V := by rw [← hV]; exact below_drawn W1
  have R0 := RW.below bV
  have z1 := cells_at (HB.out V R0.gr) 1 _ rfl
  have z2 := cells_at (HB.out V R0.gr) 2 _ rfl
  have HP := hide (fun (w2 : World) (u : Value) (hu : w2.ownsRow V.heap.size 5 1 u (uvarint (zz i)).length (cellsOf (uvarint (zz i)))) (hb : Below V.heap.size V w2) => (show (RowB W1 W.heap.size (some W.heap.size) w2 _ _) ∧ _ from ⟨R0.below hb, R0.pushRow (by omega) hu hb (uvarint_pos _) (by have := HLN.out; simp; omega) 33⟩))
  clear e1 b1 hN R0 RW bV
  go_enter Tryz.func67, Tryz.ntmps67
  go_wp2
  go_region_law
    (first
      | ((go_simp; (try rw [hV]); go_at_call 103; (first | with_reducible refine (HZ.out _).mono ?_ | with_reducible refine (HZ2.out _).mono ?_); rintro e wq ⟨rfl, rfl⟩))
      | ((go_simp; (try rw [hV]); go_at_call 102; with_reducible refine (HV.out _).mono ?_; rintro e w2 ⟨u, rfl, A1, A2⟩; obtain ⟨R2, v3, w3, hrun, R3⟩ := HP.out _ _ A1 A2; have k2 := cells_at (HB.out w2 R2.gr) 2 _ rfl; have k3 := cells_at (HB.out w3 R3.gr) 2 _ rfl; have HRN := hide hrun; have HR3 := hide R3; clear hrun R3 A1 A2 HP R2))
      | ((refine step_runV _ (by rfl) (.tmp 29) (.tmp 33) 33 (by rfl) _ _ (by rfl) (by rfl) _ w3 HRN.out ?_))
      | ((go_simp; go_at_call 102; with_reducible refine (HV2.out _).mono ?_; rintro e w4 ⟨u4, rfl, A3, A4⟩; obtain ⟨v5, w5, hrun, R5⟩ := HR3.out.pushRow (by omega) A3 A4 HPOS.out (by have := HLN.out; have := HLN2.out; simp; omega) 33; have HR5 := hide hrun; have HR := hide (FIN.out _ _ _ R5); clear hrun R5 A3 A4))
      | ((refine step_runV _ (by rfl) (.tmp 34) (.tmp 38) 33 (by rfl) _ _ (by rfl) (by rfl) _ w5 HR5.out ?_)))
  all_goals
    go_wp2
    go_ret
    refine ⟨v5, rfl, ?_⟩
    rw [HE.out]
    simpa using HR.out
end Go.Proofs.YtcedpdneanjbkaaGreatDoor

/- The reference's laid: a symbol; then all kinds; Encode. -/
namespace Go.Proofs.YtcedpdneanjbkaaGreatDoor
open Go.RowKit Go.Lib

/-- An append of a string that is run at a step of a region that draws its order. -/
theorem step_runS {P : Program} (w : World) {ops : Array Oper} {o : Oper} {a : Act} {K : Act → World → Prop} {Q : Exit → Act → World → Prop} {E : Prop} (hgd : o.guard = none) (s x : Operand) (t u : TypeId)
    (ho : o.op = .call { callee := .builtin .append, args := #[s, x], argTypes := #[t, u] }) (vs vx : Value) (hs : a.eval s = vs) (hx : a.eval x = vx) (v' : Value) (w' : World)
    (hr : (Builtin.append_ #[t, u] o.type #[vs, vx]).run P w = .ok v' w') (h : K (a.put o.dst v') w') :
    if Region.wanted o (yielded ops a.tmps) = true then Oper.wp P o a w K Q else E := by
  have hw : Region.wanted o (yielded ops a.tmps) = true := by simp [Region.wanted, hgd]
  rw [if_pos hw]
  unfold Oper.wp execOp
  simp only [ho, resolve, invoke, builtin, Sem.run_bind, Sem.run_pure, Result.andThen_ok, List.map_toArray, List.map_cons, List.map_nil, hs, hx, hr]
  exact h
/-- A text is laid behind. -/
theorem RowB.pushStr {X w : World} {L : Nat} {g0 : Option Nat} {v : Value} {bs : List UInt8} (h : RowB X L g0 w v bs) (hL : L ≤ X.heap.size) (t : ByteArray) (hl : bs.length + t.size ≤ 1000000000000) (ty : TypeId) :
    ∃ v' w', (Builtin.append_ #[33, 9] ty #[v, .string t]).run Tryz.prog w = .ok v' w' ∧ w'.ownsRow L 5 1 v' (bs ++ t.data.toList).length (cellsOf (bs ++ t.data.toList)) ∧ X.grownBy w' g0 := by
  obtain ⟨i0, hi, hz0, hz1, hz2⟩ := info_parts info_u8
  have hz := h.gr.size
  obtain ⟨v', w', hrun, A1, A2, _⟩ := run_append_own_string (P := Tryz.prog) w L 33 9 ty 5 i0 Tryz.underlying33 Tryz.underlying9 hi hz0 hz1 hz2 v bs.length (cellsOf bs) h.row t (by unfold maxLen; omega) (by omega) (by omega)
  refine ⟨v', w', hrun, ?_, ⟨A2.os.trans h.gr.os, A2.tape.trans h.gr.tape, A2.output.trans h.gr.output, Nat.le_trans hz A2.size, fun j hj hne => ?_⟩⟩
  · rw [List.length_append, show cellsOf (bs ++ t.data.toList) = cellsOf bs ++ cellsOf t.data.toList from List.map_append, size_eq, ← strCells_eq]
    exact A1
  · refine (A2.block j (by omega) (fun e => ?_)).trans (h.gr.block j hj hne)
    rcases h.own with o | o
    · exact hne (e.trans o)
    · have := o j e.symm
      omega
theorem laid_endS {w W U : World} {o : Obj} {r : Value} {bs : List UInt8} (bW : Below w.heap.size w W) (h1 : U.ownsRow W.heap.size 5 1 r bs.length (cellsOf bs)) (h2 : (W.alloc o).grownBy U (some W.heap.size)) : LaidAt w U r bs :=
  ⟨own_base h1 bW.size, (alloc_v bW o).grown h2 (by have := bW.size; simp; omega) (fun k hk => by have := bW.size; cases hk; omega)⟩
set_option maxRecDepth 100000 in
set_option maxHeartbeats 1000000 in
theorem laid_sym (i m : Int) (t : ByteArray) (l : List Vl) (a : Option Addr) (c : Nat) (w : World) (hok : (⟨4, i, m, t, l⟩ : Vl).ok) :
    Calls Tryz.prog 67 #[.agg (vcells ⟨4, i, m, t, l⟩ (.slice a l.length c))] w fun e w' => ∃ r, e = .returned r ∧ LaidAt w w' r (encV ⟨4, i, m, t, l⟩) := by
  obtain ⟨W, hW⟩ : ∃ W, w.alloc (.cells (vcells ⟨4, i, m, t, l⟩ (.slice a l.length c)) 46) = W := ⟨_, rfl⟩
  have bW : Below w.heap.size w W := by rw [← hW]; exact alloc_v (Below.refl _ _) _
  have e1 : W.heap[w.heap.size]? = some (.cells (vcells ⟨4, i, m, t, l⟩ (.slice a l.length c)) 46 (0, 0)) := by rw [← hW]; exact World.alloc_heap_new w _
  have zW : w.heap.size < W.heap.size := (Array.getElem?_eq_some_iff.1 e1).1
  have x0 := cells_at e1 0 _ rfl
  have hN := owns_new W (UInt8.ofNat 4) 4 rfl
  obtain ⟨W1, hW1⟩ : ∃ W1, W.alloc (.cells #[.int .u8 4] 5) = W1 := ⟨_, rfl⟩
  have FIN := hide (fun (U : World) (r : Value) (bs : List UInt8) (h1 : U.ownsRow W.heap.size 5 1 r bs.length (cellsOf bs)) (h2 : W1.grownBy U (some W.heap.size)) => (laid_endS bW h1 (hW1.symm ▸ h2) : LaidAt w U r bs))
  rw [hW1] at hN
  have RW : RowB W1 W.heap.size (some W.heap.size) W1 (.slice (some ⟨W.heap.size, 0, none⟩) 1 1) [UInt8.ofNat 4] := RowB.start hN
  have zW1 : W.heap.size < W1.heap.size := by rw [← hW1, World.size_alloc]; omega
  have HB := hide (fun (U : World) (g : W1.grownBy U (some W.heap.size)) => (g.block w.heap.size (by omega) (by simp; omega)).trans ((show W1.heap[w.heap.size]? = W.heap[w.heap.size]? by rw [← hW1]; exact Below.heap_alloc _ _ _ zW).trans e1))
  have HE := hide (encV_eq ⟨4, i, m, t, l⟩)
  simp only at HE
  obtain ⟨ok1, ⟨ok2, ok3⟩, ok4, ok5⟩ := hok
  simp only at ok1 ok2 ok3 ok4 ok5
  have b1 := HB.out W1 (grown_self _ _)
  have y0 := cells_at b1 0 _ rfl
  have y3 := cells_at b1 3 _ rfl
  have HV := hide (fun w : World => refUv_k t.size (by omega) w)
  have HLN := hide (uvarint_length 9 t.size (by omega))
  have hwr : IntKind.u64.wrap ((t.size : Nat) : Int) = ((t.size : Nat) : Int) := by rw [IntKind.wrap_u64]; omega
  obtain ⟨V, hV⟩ : ∃ V, W1.drew = V := ⟨_, rfl⟩
  have bV : Below W1.heap.size W1 V := by rw [← hV]; exact below_drawn W1
  have R0 := RW.below bV
  have z3 := cells_at (HB.out V R0.gr) 3 _ rfl
  have HP := hide (fun (w2 : World) (u : Value) (hu : w2.ownsRow V.heap.size 5 1 u (uvarint t.size).length (cellsOf (uvarint t.size))) (hb : Below V.heap.size V w2) => (show (RowB W1 W.heap.size (some W.heap.size) w2 _ _) ∧ _ from ⟨R0.below hb, R0.pushRow (by omega) hu hb (uvarint_pos _) (by have := HLN.out; simp; omega) 33⟩))
  have HS := hide (fun (w3 : World) (v3 : Value) (R3 : RowB W1 W.heap.size (some W.heap.size) w3 v3 ([UInt8.ofNat 4] ++ uvarint t.size)) => R3.pushStr (by omega) t (by have := HLN.out; simp; omega) 33)
  have HT : Hid ([UInt8.ofNat 4] ++ uvarint t.size ++ t.data.toList = encV ⟨4, i, m, t, l⟩) := hide (by rw [HE.out]; simp [txt])
  clear e1 b1 hN R0 RW bV HE
  go_enter Tryz.func67, Tryz.ntmps67
  go_wp2
  go_region_law
    (first
      | ((go_simp; (try rw [hV]); (try rw [hwr]); go_at_call 102; with_reducible refine (HV.out _).mono ?_; rintro e w2 ⟨u, rfl, A1, A2⟩; obtain ⟨R2, v3, w3, hrun, R3⟩ := HP.out _ _ A1 A2; have k2 := cells_at (HB.out w2 R2.gr) 3 _ rfl; have k3 := cells_at (HB.out w3 R3.gr) 3 _ rfl; obtain ⟨v5, w5, hrun5, O5, G5⟩ := HS.out _ _ R3; have HRN := hide hrun; have HR5 := hide hrun5; have HR := hide (FIN.out _ _ _ O5 G5); clear hrun R3 A1 A2 HP R2 hrun5 O5 G5))
      | ((refine step_runV _ (by rfl) (.tmp 42) (.tmp 47) 33 (by rfl) _ _ (by rfl) (by rfl) _ w3 HRN.out ?_))
      | ((refine step_runS _ (by rfl) (.tmp 48) (.tmp 50) 33 9 (by rfl) _ _ (by rfl) (by rfl) _ w5 HR5.out ?_)))
  all_goals
    go_wp2
    go_ret
    refine ⟨v5, rfl, ?_⟩
    rw [← HT.out]
    exact HR.out
theorem laid_k : ∀ n, LaidC n
  | 0 => fun _ _ _ _ _ _ _ _ h _ => h.elim
  | n + 1 => fun v w B sl hf hok hz hBw hi hn => by
    obtain ⟨⟨hu, hg⟩, hall⟩ := form_parts hf
    obtain ⟨a, c, rfl, _⟩ := hi.len
    have hsz : ∀ x ∈ v.items, x.size ≤ 1000000000 := fun x hx => by have := Vl.size_item hx; omega
    have hll : v.items.length ≤ 1000000000 := by have := size_len v; omega
    obtain ⟨k, i, m, t, l⟩ := v
    unfold goodB at hg
    simp only at *
    split at hg
    · rename_i h
      rcases h with rfl | rfl | rfl | rfl
      · exact laid_int i m t l a c w hok
      · exact laid_row5 (laid_k n) i m t l a c w hok hBw hi hall hsz hll hn
      · exact laid_row6 (laid_k n) i m t l a c w hok hBw hi hall hsz hll hn
      · exact laid_row7 (laid_k n) i m t l a c w hok hBw hi hall hsz hll hn
    · split at hg
      · rename_i h
        subst h
        exact laid_bool i m t l a c w hok (by simpa using hg)
      · split at hg
        · rename_i h
          subst h
          exact laid_sym i m t l a c w hok
        · split at hg
          · rename_i h
            subst h
            exact laid_gauss i m t l a c w hok
          · cases hg
set_option maxRecDepth 100000 in
theorem refEncode_k (v : Vl) (w : World) (n : Nat) (sl : Value) (hok : v.ok) (hz : v.size ≤ 1000000000) (hs : ItemsAt w w.heap.size n sl v.items) :
    Calls Tryz.prog 36 #[.agg (vcells v sl)] w fun e w' => ∃ bv, e = .returned (.tuple #[bv, .int .i64 (bif rightV v then 0 else 40)]) ∧ LaidAt w w' bv (bif rightV v then encV v else []) := by
  obtain ⟨W, hW⟩ : ∃ W, w.alloc (.cells (vcells v sl) 46) = W := ⟨_, rfl⟩
  have bW : Below w.heap.size w W := by rw [← hW]; exact alloc_v (Below.refl _ _) _
  have e1 : W.heap[w.heap.size]? = some (.cells (vcells v sl) 46 (0, 0)) := by rw [← hW]; exact World.alloc_heap_new w _
  have x0 := cells_at e1 0 _ rfl
  have x1 := cells_at e1 1 _ rfl
  have x2 := cells_at e1 2 _ rfl
  have x3 := cells_at e1 3 _ rfl
  have x4 := cells_at e1 4 _ rfl
  have zW : w.heap.size < W.heap.size := (Array.getElem?_eq_some_iff.1 e1).1
  have HR := hide (refRight_k v W n sl hok.1 ((hs.below bW).up bW.size))
  have HE := hide (fun (h : rightV v = true) (U : World) (b : Below W.heap.size W U) => laid_k n v U w.heap.size sl (form_right h) hok hz (trans_v bW b).size (hs.below (trans_v bW b)) (enc_short hs hok h))
  obtain ⟨a, c, rfl, _⟩ := hs.len
  clear hs e1
  cases hx : rightV v
  · rw [hx] at HR
    go_enter Tryz.func36, Tryz.ntmps36
    go_wp2_with (go_at_call 29; refine HR.out.mono ?_; clear HR; rintro e w2 ⟨rfl, b2⟩)
    go_ret2
    exact ⟨_, rfl, World.ownsRow_nil _ _ _ _, trans_v bW b2⟩
  · rw [hx] at HR
    have HE := hide (HE.out hx)
    clear hx
    go_enter Tryz.func36, Tryz.ntmps36
    go_wp2_with (first
      | (go_at_call 29; refine HR.out.mono ?_; clear HR; rintro e w2 ⟨rfl, b2⟩; have hc := (bcellV b2).1)
      | (go_at_call 67; refine (HE.out _ b2).mono ?_; clear HE; rintro e w3 ⟨bv, rfl, r3⟩))
    go_ret2
    exact ⟨_, rfl, own_base r3.1 (trans_v bW b2).size, trans_v (trans_v bW b2) r3.2⟩
end Go.Proofs.YtcedpdneanjbkaaGreatDoor
