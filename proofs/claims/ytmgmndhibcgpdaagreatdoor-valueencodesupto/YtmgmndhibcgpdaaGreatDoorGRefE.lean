/- The reference's zigzag and uvarint. -/
import Derived.Test.YtmgmndhibcgpdaaGreatDoorZVEncode
namespace Go.Proofs.YtmgmndhibcgpdaaGreatDoor
open Go.RowKit Go.Lib

set_option maxRecDepth 100000 in
theorem refZig_k (x : Int) (h0 : -9223372036854775808 ≤ x) (h1 : x ≤ 9223372036854775807) (w : World) :
    Calls Tryz.prog 99 #[.int .i64 x] w fun e w' => e = .returned (.int .u64 (zz x : Int)) ∧ w = w' := by
  by_cases h : x < 0
  · go_enter Tryz.func99, Tryz.ntmps99
    go_wp2
    go_ret
    exact ⟨by unfold zz; rw [if_neg (by omega)]; rw [show (((-2 * x - 1).toNat : Nat) : Int) = 2 * -(x + 1) + 1 by omega]; rfl, rfl⟩
  · go_enter Tryz.func99, Tryz.ntmps99
    go_wp2
    go_ret
    exact ⟨by unfold zz; rw [if_pos (by omega)]; rw [show (((2 * x).toNat : Nat) : Int) = 2 * x by omega]; rfl, rfl⟩
def RefUvC (u : Nat) : Prop := ∀ w : World, Calls Tryz.prog 98 #[.int .u64 (u : Int)] w fun e w' => ∃ v, e = .returned v ∧ w'.ownsRow w.heap.size 5 1 v (uvarint u).length (cellsOf (uvarint u)) ∧ Below w.heap.size w w'
theorem owns_new (w : World) (x : UInt8) (y : Int) (hy : (x.toNat : Int) = y) : (w.alloc (.cells #[.int .u8 y] 5)).ownsRow w.heap.size 5 1 (.slice (some ⟨w.heap.size, 0, none⟩) 1 1) 1 (cellsOf [x]) := by
  subst hy
  exact ⟨rfl, .inr ⟨w.heap.size, 1, _, rfl, Nat.le_refl _, World.alloc_heap_new w _, Nat.le_refl _, by unfold maxLen; omega, rfl, rfl⟩⟩
set_option maxRecDepth 100000 in
theorem refUv_small (u : Nat) (h : u < 128) : RefUvC u := by
  intro w
  go_enter Tryz.func98, Tryz.ntmps98
  go_wp2
  go_ret
  refine ⟨_, rfl, ?_, alloc_v (Below.refl _ _) _⟩
  rw [uvarint_small h]
  exact owns_new w _ _ (by simp; omega)
set_option maxRecDepth 100000 in
set_option maxHeartbeats 1000000 in
theorem refUv_more (u : Nat) (h : 128 ≤ u) (hu : u < 18446744073709551616) (hC : RefUvC (u / 128)) : RefUvC u := by
  intro w
  have h' : ¬ ((u : Int) < 128) := by omega
  have HC := hide hC
  have hy : bits .or .u8 ((u : Int) % 256) 128 = (((u % 128 + 128).toUInt8.toNat : Nat) : Int) := by
    rw [u8_or128_any _ (by omega) (by omega)]
    have : (u % 128 + 128).toUInt8.toNat = u % 128 + 128 := by simp; omega
    rw [this]
    omega
  have HY := hide hy
  have HDD := hide (show (u : Int) / 128 = ((u / 128 : Nat) : Int) by omega)
  clear hy
  have HLN := hide (uvarint_length 9 (u / 128) (by omega))
  have HP := hide (uvarint_pos (u / 128))
  have HE := hide (uvarint_big h)
  have hN := owns_new w (u % 128 + 128).toUInt8 _ rfl
  have RB := hide (RowB.start hN)
  clear hC hN
  go_enter Tryz.func98, Tryz.ntmps98
  go_wp2_with (first
    | (go_at_call 98; rw [HY.out, HDD.out]; refine (HC.out _).mono ?_; clear HC; rintro e w2 ⟨v2, rfl, o2, b2⟩; obtain ⟨v3, w3, hrun, r3⟩ := RB.out.pushRow (by simp) o2 b2 HP.out (by have := HLN.out; simp; omega) 45; have HR := hide hrun; have R3 := hide r3; clear hrun r3 o2)
    | (at_builtin; refine Lib.wpList_append_run _ rfl (.tmp 11) (.tmp 14) 45 45 rfl _ _ rfl rfl _ _ HR.out ?_; clear HR))
  go_ret
  refine ⟨_, rfl, ?_, (alloc_v (Below.refl _ _) _).grown R3.out.gr (by simp) (fun k hk => by simp [Value.ownBlock] at hk; omega)⟩
  rw [HE.out]
  exact R3.out.row
theorem refUv_k (u : Nat) (hu : u < 18446744073709551616) : RefUvC u := by
  have H : ∀ n u, u ≤ n → u < 18446744073709551616 → RefUvC u := by
    intro n
    induction n with
    | zero => intro u h _; exact refUv_small u (by omega)
    | succ n ih =>
      intro u h h2
      by_cases h3 : u < 128
      · exact refUv_small u h3
      · exact refUv_more u (by omega) h2 (ih (u / 128) (by omega) (by omega))
  exact H u u (Nat.le_refl _) hu
end Go.Proofs.YtmgmndhibcgpdaaGreatDoor

/- The reference's laid and Encode: a bool, a number, the rows. -/
namespace Go.Proofs.YtmgmndhibcgpdaaGreatDoor
open Go.RowKit Go.Lib

theorem own_base {w : World} {L L' : Nat} {e : TypeId} {size : Nat} {v : Value} {k : Nat} {xs : List Value} (h : w.ownsRow L e size v k xs) (hl : L' ≤ L) : w.ownsRow L' e size v k xs := by
  refine ⟨h.1, ?_⟩
  rcases h.2 with h0 | ⟨g, cap, cur, hv, hb, rest⟩
  · exact .inl h0
  · exact .inr ⟨g, cap, cur, hv, by omega, rest⟩
/-- What laid leaves: a row of its own. -/
def LaidAt (w w' : World) (r : Value) (bs : List UInt8) : Prop := w'.ownsRow w.heap.size 5 1 r bs.length (cellsOf bs) ∧ Below w.heap.size w w'
theorem laid_end {w W U : World} {o : Obj} {r : Value} {bs : List UInt8} (bW : Below w.heap.size w W) (h : RowB (W.alloc o) W.heap.size (some W.heap.size) U r bs) : LaidAt w U r bs :=
  ⟨own_base h.row bW.size, (alloc_v bW o).grown h.gr (by have := bW.size; simp; omega) (fun k hk => by have := bW.size; cases hk; omega)⟩
set_option maxRecDepth 100000 in
set_option maxHeartbeats 1000000 in
theorem laid_bool (i m : Int) (t : ByteArray) (l : List Vl) (a : Option Addr) (c : Nat) (w : World) (hok : (⟨1, i, m, t, l⟩ : Vl).ok) (hi : i = 0 ∨ i = 1) :
    Calls Tryz.prog 57 #[.agg (vcells ⟨1, i, m, t, l⟩ (.slice a l.length c))] w fun e w' => ∃ r, e = .returned r ∧ LaidAt w w' r (encV ⟨1, i, m, t, l⟩) := by
  obtain ⟨W, hW⟩ : ∃ W, w.alloc (.cells (vcells ⟨1, i, m, t, l⟩ (.slice a l.length c)) 25) = W := ⟨_, rfl⟩
  have bW : Below w.heap.size w W := by rw [← hW]; exact alloc_v (Below.refl _ _) _
  have e1 : W.heap[w.heap.size]? = some (.cells (vcells ⟨1, i, m, t, l⟩ (.slice a l.length c)) 25 (0, 0)) := by rw [← hW]; exact World.alloc_heap_new w _
  have zW : w.heap.size < W.heap.size := (Array.getElem?_eq_some_iff.1 e1).1
  have x0 := cells_at e1 0 _ rfl
  have hN := owns_new W (UInt8.ofNat 1) 1 rfl
  obtain ⟨W1, hW1⟩ : ∃ W1, W.alloc (.cells #[.int .u8 1] 5) = W1 := ⟨_, rfl⟩
  have FIN := hide (fun (U : World) (r : Value) (bs : List UInt8) (h : RowB W1 W.heap.size (some W.heap.size) U r bs) => (laid_end bW (hW1.symm ▸ h) : LaidAt w U r bs))
  rw [hW1] at hN
  have RW : RowB W1 W.heap.size (some W.heap.size) W1 (.slice (some ⟨W.heap.size, 0, none⟩) 1 1) [UInt8.ofNat 1] := RowB.start hN
  have zW1 : W.heap.size < W1.heap.size := by rw [← hW1, World.size_alloc]; omega
  have HB := hide (fun (U : World) (g : W1.grownBy U (some W.heap.size)) => (g.block w.heap.size (by omega) (by simp; omega)).trans ((show W1.heap[w.heap.size]? = W.heap[w.heap.size]? by rw [← hW1]; exact Below.heap_alloc _ _ _ zW).trans e1))
  have HE := hide (encV_eq ⟨1, i, m, t, l⟩)
  simp only at HE
  obtain ⟨ok1, ⟨ok2, ok3⟩, ok4, ok5⟩ := hok
  simp only at ok1 ok2 ok3 ok4 ok5
  have b1 := HB.out W1 (grown_self _ _)
  have y0 := cells_at b1 0 _ rfl
  have y1 := cells_at b1 1 _ rfl
  have y2 := cells_at b1 2 _ rfl
  have y3 := cells_at b1 3 _ rfl
  have y4 := cells_at b1 4 _ rfl
  obtain ⟨v2, w2, hrun2, R2⟩ := RW.pushByte (by omega) (UInt8.ofNat i.toNat) i (by rcases hi with rfl | rfl <;> rfl) (by simp) 45
  have HR2 := hide hrun2
  have HR := hide (FIN.out _ _ _ R2)
  have hib : 0 ≤ i := by omega
  have hic : i ≤ 1 := by omega
  clear hrun2 R2 RW e1 b1 hN HB
  go_enter Tryz.func57, Tryz.ntmps57
  go_wp2_with (at_builtin; refine Lib.wpList_append_run _ rfl (.tmp 13) (.tmp 17) 45 45 rfl _ _ rfl rfl _ _ HR2.out ?_; clear HR2)
  go_ret
  refine ⟨_, rfl, ?_⟩
  rw [HE.out]
  simpa using HR.out
set_option maxRecDepth 100000 in
set_option maxHeartbeats 1000000 in
theorem laid_int (i m : Int) (t : ByteArray) (l : List Vl) (a : Option Addr) (c : Nat) (w : World) (hok : (⟨2, i, m, t, l⟩ : Vl).ok) :
    Calls Tryz.prog 57 #[.agg (vcells ⟨2, i, m, t, l⟩ (.slice a l.length c))] w fun e w' => ∃ r, e = .returned r ∧ LaidAt w w' r (encV ⟨2, i, m, t, l⟩) := by
  obtain ⟨W, hW⟩ : ∃ W, w.alloc (.cells (vcells ⟨2, i, m, t, l⟩ (.slice a l.length c)) 25) = W := ⟨_, rfl⟩
  have bW : Below w.heap.size w W := by rw [← hW]; exact alloc_v (Below.refl _ _) _
  have e1 : W.heap[w.heap.size]? = some (.cells (vcells ⟨2, i, m, t, l⟩ (.slice a l.length c)) 25 (0, 0)) := by rw [← hW]; exact World.alloc_heap_new w _
  have zW : w.heap.size < W.heap.size := (Array.getElem?_eq_some_iff.1 e1).1
  have x0 := cells_at e1 0 _ rfl
  have hN := owns_new W (UInt8.ofNat 2) 2 rfl
  obtain ⟨W1, hW1⟩ : ∃ W1, W.alloc (.cells #[.int .u8 2] 5) = W1 := ⟨_, rfl⟩
  have FIN := hide (fun (U : World) (r : Value) (bs : List UInt8) (h : RowB W1 W.heap.size (some W.heap.size) U r bs) => (laid_end bW (hW1.symm ▸ h) : LaidAt w U r bs))
  rw [hW1] at hN
  have RW : RowB W1 W.heap.size (some W.heap.size) W1 (.slice (some ⟨W.heap.size, 0, none⟩) 1 1) [UInt8.ofNat 2] := RowB.start hN
  have zW1 : W.heap.size < W1.heap.size := by rw [← hW1, World.size_alloc]; omega
  have HB := hide (fun (U : World) (g : W1.grownBy U (some W.heap.size)) => (g.block w.heap.size (by omega) (by simp; omega)).trans ((show W1.heap[w.heap.size]? = W.heap[w.heap.size]? by rw [← hW1]; exact Below.heap_alloc _ _ _ zW).trans e1))
  have HE := hide (encV_eq ⟨2, i, m, t, l⟩)
  simp only at HE
  obtain ⟨ok1, ⟨ok2, ok3⟩, ok4, ok5⟩ := hok
  simp only at ok1 ok2 ok3 ok4 ok5
  have b1 := HB.out W1 (grown_self _ _)
  have y0 := cells_at b1 0 _ rfl
  have y1 := cells_at b1 1 _ rfl
  have y2 := cells_at b1 2 _ rfl
  have y3 := cells_at b1 3 _ rfl
  have y4 := cells_at b1 4 _ rfl
  have HZ := hide (refZig_k i ok2 ok3)
  have HV := hide (refUv_k (zz i) (zz_lt i ok2 ok3))
  have HLN := hide (uvarint_length 9 (zz i) (by have := zz_lt i ok2 ok3; omega))
  have HP := hide (fun (w2 : World) (u : Value) (hu : w2.ownsRow W1.heap.size 5 1 u (uvarint (zz i)).length (cellsOf (uvarint (zz i)))) (hb : Below W1.heap.size W1 w2) => RW.pushRow (by omega) hu hb (uvarint_pos _) (by have := HLN.out; simp; omega) 45)
  clear RW e1 b1 hN HB
  go_enter Tryz.func57, Tryz.ntmps57
  go_wp2_with (first
    | (go_at_call 99; refine (HZ.out _).mono ?_; clear HZ; rintro e wq ⟨rfl, rfl⟩)
    | (go_at_call 98; refine (HV.out _).mono ?_; clear HV; rintro e w2 ⟨u, rfl, A1, A2⟩; obtain ⟨v3, w3, hrun, R3⟩ := HP.out _ _ A1 A2; have HR2 := hide hrun; have HR := hide (FIN.out _ _ _ R3); clear hrun R3 A1 A2 HP)
    | (at_builtin; refine Lib.wpList_append_run _ rfl (.tmp 21) (.tmp 25) 45 45 rfl _ _ rfl rfl _ _ HR2.out ?_; clear HR2))
  go_ret
  refine ⟨_, rfl, ?_⟩
  rw [HE.out]
  simpa using HR.out
end Go.Proofs.YtmgmndhibcgpdaaGreatDoor

/- The reference's laid: the rows. -/
namespace Go.Proofs.YtmgmndhibcgpdaaGreatDoor
open Go.RowKit Go.Lib

def LaidC (n : Nat) : Prop := ∀ (v : Vl) (w : World) (B : Nat) (sl : Value), formV v = true → v.ok → v.size ≤ 1000000000 → B ≤ w.heap.size → ItemsAt w B n sl v.items → (encV v).length ≤ 1000000000000 →
  Calls Tryz.prog 57 #[.agg (vcells v sl)] w fun e w' => ∃ r, e = .returned r ∧ LaidAt w w' r (encV v)
theorem encV_pos (v : Vl) : 0 < (encV v).length := by rw [encV_eq]; simp
set_option maxRecDepth 100000 in
set_option maxHeartbeats 1000000 in
theorem laid_row5 {n B : Nat} (hC : LaidC n) (i m : Int) (t : ByteArray) (l : List Vl) (a : Option Addr) (c : Nat) (w : World) (hok : (⟨5, i, m, t, l⟩ : Vl).ok) (hBw : B ≤ w.heap.size) (hi : ItemsAt w B (n + 1) (.slice a l.length c) l) (hf : ∀ x ∈ l, formV x = true) (hz : ∀ x ∈ l, x.size ≤ 1000000000) (hll : l.length ≤ 1000000000) (hn : (encV ⟨5, i, m, t, l⟩).length ≤ 1000000000000) :
    Calls Tryz.prog 57 #[.agg (vcells ⟨5, i, m, t, l⟩ (.slice a l.length c))] w fun e w' => ∃ r, e = .returned r ∧ LaidAt w w' r (encV ⟨5, i, m, t, l⟩) := by
  obtain ⟨W, hW⟩ : ∃ W, w.alloc (.cells (vcells ⟨5, i, m, t, l⟩ (.slice a l.length c)) 25) = W := ⟨_, rfl⟩
  have bW : Below w.heap.size w W := by rw [← hW]; exact alloc_v (Below.refl _ _) _
  have e1 : W.heap[w.heap.size]? = some (.cells (vcells ⟨5, i, m, t, l⟩ (.slice a l.length c)) 25 (0, 0)) := by rw [← hW]; exact World.alloc_heap_new w _
  have zW : w.heap.size < W.heap.size := (Array.getElem?_eq_some_iff.1 e1).1
  have x0 := cells_at e1 0 _ rfl
  have hN := owns_new W (UInt8.ofNat 5) 5 rfl
  obtain ⟨W1, hW1⟩ : ∃ W1, W.alloc (.cells #[.int .u8 5] 5) = W1 := ⟨_, rfl⟩
  have FIN := hide (fun (U : World) (r : Value) (bs : List UInt8) (h : RowB W1 W.heap.size (some W.heap.size) U r bs) => (laid_end bW (hW1.symm ▸ h) : LaidAt w U r bs))
  rw [hW1] at hN
  have RW : RowB W1 W.heap.size (some W.heap.size) W1 (.slice (some ⟨W.heap.size, 0, none⟩) 1 1) [UInt8.ofNat 5] := RowB.start hN
  have zW1 : W.heap.size < W1.heap.size := by rw [← hW1, World.size_alloc]; omega
  have HB := hide (fun (U : World) (g : W1.grownBy U (some W.heap.size)) => (g.block w.heap.size (by omega) (by simp; omega)).trans ((show W1.heap[w.heap.size]? = W.heap[w.heap.size]? by rw [← hW1]; exact Below.heap_alloc _ _ _ zW).trans e1))
  have HE := hide (encV_eq ⟨5, i, m, t, l⟩)
  simp only at HE
  obtain ⟨ok1, ⟨ok2, ok3⟩, ok4, ok5⟩ := hok
  simp only at ok1 ok2 ok3 ok4 ok5
  have b1 := HB.out W1 (grown_self _ _)
  have y0 := cells_at b1 0 _ rfl
  have y1 := cells_at b1 1 _ rfl
  have y2 := cells_at b1 2 _ rfl
  have y3 := cells_at b1 3 _ rfl
  have y4 := cells_at b1 4 _ rfl
  have hlen := congrArg List.length HE.out
  simp at hlen
  have HU := hide (refUv_k l.length (by omega))
  have HP := hide (fun (w2 : World) (u : Value) (hu : w2.ownsRow W1.heap.size 5 1 u (uvarint l.length).length (cellsOf (uvarint l.length))) (hb : Below W1.heap.size W1 w2) => RW.pushRow (by omega) hu hb (uvarint_pos _) (by simp; omega) 45)
  have bW1 : Below W.heap.size W W1 := by rw [← hW1]; exact alloc_v (Below.refl _ _) _
  have HI := hide (hi.below ((trans_v bW bW1).mono hBw))
  have hbv : ∀ k, some W.heap.size = some k → B ≤ k := fun k e => by cases e; omega
  have HLEN : Hid (∀ k, (UInt8.ofNat 5 :: (uvarint l.length ++ ((l.take k).map encV).flatten)).length ≤ 1000000000000) := hide (fun k => by have := flat_le l k; simp at this ⊢; omega)
  have HCC := hide hC
  have HF := hide hf
  have HZ := hide hz
  clear RW e1 b1 hN hlen hi hC hf hz
  go_enter Tryz.func57, Tryz.ntmps57
  go_wp2_with (first
    | (go_at_call 98; refine (HU.out _).mono ?_; clear HU; rintro e w2 ⟨u, rfl, A1, A2⟩; obtain ⟨v3, w3, hrun, R3⟩ := HP.out _ _ A1 A2; have HR2 := hide hrun; have HR3 := hide R3; have u4 := cells_at (HB.out w3 R3.gr) 4 _ rfl; clear hrun R3 A1 A2 HP)
    | (at_builtin; refine Lib.wpList_append_run _ rfl (.tmp 52) (.tmp 57) 45 45 rfl _ _ rfl rfl _ _ HR2.out ?_; clear HR2))
  clear x0 y0 y1 y2 y3 y4 u4 hW hW1
  go_loopw [3, 4] (fun b i wr => ∃ k : Nat, k ≤ l.length ∧ i = .int .i64 k ∧ RowB W1 W.heap.size (some W.heap.size) wr b (UInt8.ofNat 5 :: (uvarint l.length ++ ((l.take k).map encV).flatten))) (fun _ i _ => l.length - (RowKit.intOf i).toNat)
  case atStart => exact ⟨0, Nat.zero_le _, rfl, by simpa using HR3.out⟩
  case round =>
    obtain ⟨k, hk, rfl, hR⟩ := hrel
    have x4 := cells_at (HB.out wr hR.gr) 4 _ rfl
    by_cases hlt : k < l.length
    · obtain ⟨b1, o1, s1, rfl, g1, p0, p1, p2, p3, p4, p5, p6⟩ := (HI.out.grownO hR.gr hbv (by omega)).item k hlt
      have gz := hR.gr.size
      have l1 : b1 < wr.heap.size := by omega
      have hl1 := HLEN.out (k + 1)
      rw [flat_take l k hlt] at hl1
      simp at hl1
      have HC := hide (HCC.out l[k] wr B s1 (HF.out _ (List.getElem_mem hlt)) p6 (HZ.out _ (List.getElem_mem hlt)) (by omega) p5 (by omega))
      have HM := hide (fun (U : World) (r : Value) (h : LaidAt wr U r (encV l[k])) => (show ∃ v' w', (Builtin.append_ #[45, 45] 45 #[_, r]).run Tryz.prog U = .ok v' w' ∧ RowB W1 W.heap.size (some W.heap.size) w' v' (UInt8.ofNat 5 :: (uvarint l.length ++ ((l.take (k + 1)).map encV).flatten)) from by
        obtain ⟨v', w', h1, h2⟩ := hR.pushRow (by omega) h.1 h.2 (encV_pos _) (by simp; omega) 45
        refine ⟨v', w', h1, ?_⟩
        rw [flat_take l k hlt]
        simpa using h2))
      obtain ⟨xx1, yy1, rfl, _⟩ := p5.len
      clear p5 p6 g1 hR gz hl1
      generalize encV l[k] = ev at *
      generalize l[k].items = xi at *
      generalize l[k] = x at *
      go_wp2_with (first
        | (go_at_call 57; refine HC.out.mono ?_; clear HC; rintro e w5 ⟨v5, rfl, r5⟩; obtain ⟨v6, w6, hrun, R6⟩ := HM.out _ _ r5; have HR6 := hide hrun; have R6' := hide R6; clear r5 HM hrun R6)
        | (at_builtin; refine Lib.wpList_append_run _ rfl (.tmp 66) (.tmp 72) 45 45 rfl _ _ rfl rfl _ _ HR6.out ?_; clear HR6))
      go_roundw
      case rel => exact ⟨k + 1, by omega, by go_num, R6'.out⟩
      case measure => simp [RowKit.intOf]; omega
    · rw [List.take_of_length_le (by omega)] at hR
      have HR := hide (FIN.out _ _ _ hR)
      clear hR
      go_wp2
      go_ret
      refine ⟨_, rfl, ?_⟩
      rw [HE.out]
      simpa using HR.out
set_option maxRecDepth 100000 in
set_option maxHeartbeats 1000000 in
theorem laid_row6 {n B : Nat} (hC : LaidC n) (i m : Int) (t : ByteArray) (l : List Vl) (a : Option Addr) (c : Nat) (w : World) (hok : (⟨6, i, m, t, l⟩ : Vl).ok) (hBw : B ≤ w.heap.size) (hi : ItemsAt w B (n + 1) (.slice a l.length c) l) (hf : ∀ x ∈ l, formV x = true) (hz : ∀ x ∈ l, x.size ≤ 1000000000) (hll : l.length ≤ 1000000000) (hn : (encV ⟨6, i, m, t, l⟩).length ≤ 1000000000000) :
    Calls Tryz.prog 57 #[.agg (vcells ⟨6, i, m, t, l⟩ (.slice a l.length c))] w fun e w' => ∃ r, e = .returned r ∧ LaidAt w w' r (encV ⟨6, i, m, t, l⟩) := by
  obtain ⟨W, hW⟩ : ∃ W, w.alloc (.cells (vcells ⟨6, i, m, t, l⟩ (.slice a l.length c)) 25) = W := ⟨_, rfl⟩
  have bW : Below w.heap.size w W := by rw [← hW]; exact alloc_v (Below.refl _ _) _
  have e1 : W.heap[w.heap.size]? = some (.cells (vcells ⟨6, i, m, t, l⟩ (.slice a l.length c)) 25 (0, 0)) := by rw [← hW]; exact World.alloc_heap_new w _
  have zW : w.heap.size < W.heap.size := (Array.getElem?_eq_some_iff.1 e1).1
  have x0 := cells_at e1 0 _ rfl
  have hN := owns_new W (UInt8.ofNat 6) 6 rfl
  obtain ⟨W1, hW1⟩ : ∃ W1, W.alloc (.cells #[.int .u8 6] 5) = W1 := ⟨_, rfl⟩
  have FIN := hide (fun (U : World) (r : Value) (bs : List UInt8) (h : RowB W1 W.heap.size (some W.heap.size) U r bs) => (laid_end bW (hW1.symm ▸ h) : LaidAt w U r bs))
  rw [hW1] at hN
  have RW : RowB W1 W.heap.size (some W.heap.size) W1 (.slice (some ⟨W.heap.size, 0, none⟩) 1 1) [UInt8.ofNat 6] := RowB.start hN
  have zW1 : W.heap.size < W1.heap.size := by rw [← hW1, World.size_alloc]; omega
  have HB := hide (fun (U : World) (g : W1.grownBy U (some W.heap.size)) => (g.block w.heap.size (by omega) (by simp; omega)).trans ((show W1.heap[w.heap.size]? = W.heap[w.heap.size]? by rw [← hW1]; exact Below.heap_alloc _ _ _ zW).trans e1))
  have HE := hide (encV_eq ⟨6, i, m, t, l⟩)
  simp only at HE
  obtain ⟨ok1, ⟨ok2, ok3⟩, ok4, ok5⟩ := hok
  simp only at ok1 ok2 ok3 ok4 ok5
  have b1 := HB.out W1 (grown_self _ _)
  have y0 := cells_at b1 0 _ rfl
  have y1 := cells_at b1 1 _ rfl
  have y2 := cells_at b1 2 _ rfl
  have y3 := cells_at b1 3 _ rfl
  have y4 := cells_at b1 4 _ rfl
  have hlen := congrArg List.length HE.out
  simp at hlen
  have HU := hide (refUv_k l.length (by omega))
  have HP := hide (fun (w2 : World) (u : Value) (hu : w2.ownsRow W1.heap.size 5 1 u (uvarint l.length).length (cellsOf (uvarint l.length))) (hb : Below W1.heap.size W1 w2) => RW.pushRow (by omega) hu hb (uvarint_pos _) (by simp; omega) 45)
  have bW1 : Below W.heap.size W W1 := by rw [← hW1]; exact alloc_v (Below.refl _ _) _
  have HI := hide (hi.below ((trans_v bW bW1).mono hBw))
  have hbv : ∀ k, some W.heap.size = some k → B ≤ k := fun k e => by cases e; omega
  have HLEN : Hid (∀ k, (UInt8.ofNat 6 :: (uvarint l.length ++ ((l.take k).map encV).flatten)).length ≤ 1000000000000) := hide (fun k => by have := flat_le l k; simp at this ⊢; omega)
  have HCC := hide hC
  have HF := hide hf
  have HZ := hide hz
  clear RW e1 b1 hN hlen hi hC hf hz
  go_enter Tryz.func57, Tryz.ntmps57
  go_wp2_with (first
    | (go_at_call 98; refine (HU.out _).mono ?_; clear HU; rintro e w2 ⟨u, rfl, A1, A2⟩; obtain ⟨v3, w3, hrun, R3⟩ := HP.out _ _ A1 A2; have HR2 := hide hrun; have HR3 := hide R3; have u4 := cells_at (HB.out w3 R3.gr) 4 _ rfl; clear hrun R3 A1 A2 HP)
    | (at_builtin; refine Lib.wpList_append_run _ rfl (.tmp 52) (.tmp 57) 45 45 rfl _ _ rfl rfl _ _ HR2.out ?_; clear HR2))
  clear x0 y0 y1 y2 y3 y4 u4 hW hW1
  go_loopw [3, 4] (fun b i wr => ∃ k : Nat, k ≤ l.length ∧ i = .int .i64 k ∧ RowB W1 W.heap.size (some W.heap.size) wr b (UInt8.ofNat 6 :: (uvarint l.length ++ ((l.take k).map encV).flatten))) (fun _ i _ => l.length - (RowKit.intOf i).toNat)
  case atStart => exact ⟨0, Nat.zero_le _, rfl, by simpa using HR3.out⟩
  case round =>
    obtain ⟨k, hk, rfl, hR⟩ := hrel
    have x4 := cells_at (HB.out wr hR.gr) 4 _ rfl
    by_cases hlt : k < l.length
    · obtain ⟨b1, o1, s1, rfl, g1, p0, p1, p2, p3, p4, p5, p6⟩ := (HI.out.grownO hR.gr hbv (by omega)).item k hlt
      have gz := hR.gr.size
      have l1 : b1 < wr.heap.size := by omega
      have hl1 := HLEN.out (k + 1)
      rw [flat_take l k hlt] at hl1
      simp at hl1
      have HC := hide (HCC.out l[k] wr B s1 (HF.out _ (List.getElem_mem hlt)) p6 (HZ.out _ (List.getElem_mem hlt)) (by omega) p5 (by omega))
      have HM := hide (fun (U : World) (r : Value) (h : LaidAt wr U r (encV l[k])) => (show ∃ v' w', (Builtin.append_ #[45, 45] 45 #[_, r]).run Tryz.prog U = .ok v' w' ∧ RowB W1 W.heap.size (some W.heap.size) w' v' (UInt8.ofNat 6 :: (uvarint l.length ++ ((l.take (k + 1)).map encV).flatten)) from by
        obtain ⟨v', w', h1, h2⟩ := hR.pushRow (by omega) h.1 h.2 (encV_pos _) (by simp; omega) 45
        refine ⟨v', w', h1, ?_⟩
        rw [flat_take l k hlt]
        simpa using h2))
      obtain ⟨xx1, yy1, rfl, _⟩ := p5.len
      clear p5 p6 g1 hR gz hl1
      generalize encV l[k] = ev at *
      generalize l[k].items = xi at *
      generalize l[k] = x at *
      go_wp2_with (first
        | (go_at_call 57; refine HC.out.mono ?_; clear HC; rintro e w5 ⟨v5, rfl, r5⟩; obtain ⟨v6, w6, hrun, R6⟩ := HM.out _ _ r5; have HR6 := hide hrun; have R6' := hide R6; clear r5 HM hrun R6)
        | (at_builtin; refine Lib.wpList_append_run _ rfl (.tmp 66) (.tmp 72) 45 45 rfl _ _ rfl rfl _ _ HR6.out ?_; clear HR6))
      go_roundw
      case rel => exact ⟨k + 1, by omega, by go_num, R6'.out⟩
      case measure => simp [RowKit.intOf]; omega
    · rw [List.take_of_length_le (by omega)] at hR
      have HR := hide (FIN.out _ _ _ hR)
      clear hR
      go_wp2
      go_ret
      refine ⟨_, rfl, ?_⟩
      rw [HE.out]
      simpa using HR.out
set_option maxRecDepth 100000 in
set_option maxHeartbeats 1000000 in
theorem laid_row7 {n B : Nat} (hC : LaidC n) (i m : Int) (t : ByteArray) (l : List Vl) (a : Option Addr) (c : Nat) (w : World) (hok : (⟨7, i, m, t, l⟩ : Vl).ok) (hBw : B ≤ w.heap.size) (hi : ItemsAt w B (n + 1) (.slice a l.length c) l) (hf : ∀ x ∈ l, formV x = true) (hz : ∀ x ∈ l, x.size ≤ 1000000000) (hll : l.length ≤ 1000000000) (hn : (encV ⟨7, i, m, t, l⟩).length ≤ 1000000000000) :
    Calls Tryz.prog 57 #[.agg (vcells ⟨7, i, m, t, l⟩ (.slice a l.length c))] w fun e w' => ∃ r, e = .returned r ∧ LaidAt w w' r (encV ⟨7, i, m, t, l⟩) := by
  obtain ⟨W, hW⟩ : ∃ W, w.alloc (.cells (vcells ⟨7, i, m, t, l⟩ (.slice a l.length c)) 25) = W := ⟨_, rfl⟩
  have bW : Below w.heap.size w W := by rw [← hW]; exact alloc_v (Below.refl _ _) _
  have e1 : W.heap[w.heap.size]? = some (.cells (vcells ⟨7, i, m, t, l⟩ (.slice a l.length c)) 25 (0, 0)) := by rw [← hW]; exact World.alloc_heap_new w _
  have zW : w.heap.size < W.heap.size := (Array.getElem?_eq_some_iff.1 e1).1
  have x0 := cells_at e1 0 _ rfl
  have hN := owns_new W (UInt8.ofNat 7) 7 rfl
  obtain ⟨W1, hW1⟩ : ∃ W1, W.alloc (.cells #[.int .u8 7] 5) = W1 := ⟨_, rfl⟩
  have FIN := hide (fun (U : World) (r : Value) (bs : List UInt8) (h : RowB W1 W.heap.size (some W.heap.size) U r bs) => (laid_end bW (hW1.symm ▸ h) : LaidAt w U r bs))
  rw [hW1] at hN
  have RW : RowB W1 W.heap.size (some W.heap.size) W1 (.slice (some ⟨W.heap.size, 0, none⟩) 1 1) [UInt8.ofNat 7] := RowB.start hN
  have zW1 : W.heap.size < W1.heap.size := by rw [← hW1, World.size_alloc]; omega
  have HB := hide (fun (U : World) (g : W1.grownBy U (some W.heap.size)) => (g.block w.heap.size (by omega) (by simp; omega)).trans ((show W1.heap[w.heap.size]? = W.heap[w.heap.size]? by rw [← hW1]; exact Below.heap_alloc _ _ _ zW).trans e1))
  have HE := hide (encV_eq ⟨7, i, m, t, l⟩)
  simp only at HE
  obtain ⟨ok1, ⟨ok2, ok3⟩, ok4, ok5⟩ := hok
  simp only at ok1 ok2 ok3 ok4 ok5
  have b1 := HB.out W1 (grown_self _ _)
  have y0 := cells_at b1 0 _ rfl
  have y1 := cells_at b1 1 _ rfl
  have y2 := cells_at b1 2 _ rfl
  have y3 := cells_at b1 3 _ rfl
  have y4 := cells_at b1 4 _ rfl
  have hlen := congrArg List.length HE.out
  simp at hlen
  have HU := hide (refUv_k l.length (by omega))
  have HP := hide (fun (w2 : World) (u : Value) (hu : w2.ownsRow W1.heap.size 5 1 u (uvarint l.length).length (cellsOf (uvarint l.length))) (hb : Below W1.heap.size W1 w2) => RW.pushRow (by omega) hu hb (uvarint_pos _) (by simp; omega) 45)
  have bW1 : Below W.heap.size W W1 := by rw [← hW1]; exact alloc_v (Below.refl _ _) _
  have HI := hide (hi.below ((trans_v bW bW1).mono hBw))
  have hbv : ∀ k, some W.heap.size = some k → B ≤ k := fun k e => by cases e; omega
  have HLEN : Hid (∀ k, (UInt8.ofNat 7 :: (uvarint l.length ++ ((l.take k).map encV).flatten)).length ≤ 1000000000000) := hide (fun k => by have := flat_le l k; simp at this ⊢; omega)
  have HCC := hide hC
  have HF := hide hf
  have HZ := hide hz
  clear RW e1 b1 hN hlen hi hC hf hz
  go_enter Tryz.func57, Tryz.ntmps57
  go_wp2_with (first
    | (go_at_call 98; refine (HU.out _).mono ?_; clear HU; rintro e w2 ⟨u, rfl, A1, A2⟩; obtain ⟨v3, w3, hrun, R3⟩ := HP.out _ _ A1 A2; have HR2 := hide hrun; have HR3 := hide R3; have u4 := cells_at (HB.out w3 R3.gr) 4 _ rfl; clear hrun R3 A1 A2 HP)
    | (at_builtin; refine Lib.wpList_append_run _ rfl (.tmp 52) (.tmp 57) 45 45 rfl _ _ rfl rfl _ _ HR2.out ?_; clear HR2))
  clear x0 y0 y1 y2 y3 y4 u4 hW hW1
  go_loopw [3, 4] (fun b i wr => ∃ k : Nat, k ≤ l.length ∧ i = .int .i64 k ∧ RowB W1 W.heap.size (some W.heap.size) wr b (UInt8.ofNat 7 :: (uvarint l.length ++ ((l.take k).map encV).flatten))) (fun _ i _ => l.length - (RowKit.intOf i).toNat)
  case atStart => exact ⟨0, Nat.zero_le _, rfl, by simpa using HR3.out⟩
  case round =>
    obtain ⟨k, hk, rfl, hR⟩ := hrel
    have x4 := cells_at (HB.out wr hR.gr) 4 _ rfl
    by_cases hlt : k < l.length
    · obtain ⟨b1, o1, s1, rfl, g1, p0, p1, p2, p3, p4, p5, p6⟩ := (HI.out.grownO hR.gr hbv (by omega)).item k hlt
      have gz := hR.gr.size
      have l1 : b1 < wr.heap.size := by omega
      have hl1 := HLEN.out (k + 1)
      rw [flat_take l k hlt] at hl1
      simp at hl1
      have HC := hide (HCC.out l[k] wr B s1 (HF.out _ (List.getElem_mem hlt)) p6 (HZ.out _ (List.getElem_mem hlt)) (by omega) p5 (by omega))
      have HM := hide (fun (U : World) (r : Value) (h : LaidAt wr U r (encV l[k])) => (show ∃ v' w', (Builtin.append_ #[45, 45] 45 #[_, r]).run Tryz.prog U = .ok v' w' ∧ RowB W1 W.heap.size (some W.heap.size) w' v' (UInt8.ofNat 7 :: (uvarint l.length ++ ((l.take (k + 1)).map encV).flatten)) from by
        obtain ⟨v', w', h1, h2⟩ := hR.pushRow (by omega) h.1 h.2 (encV_pos _) (by simp; omega) 45
        refine ⟨v', w', h1, ?_⟩
        rw [flat_take l k hlt]
        simpa using h2))
      obtain ⟨xx1, yy1, rfl, _⟩ := p5.len
      clear p5 p6 g1 hR gz hl1
      generalize encV l[k] = ev at *
      generalize l[k].items = xi at *
      generalize l[k] = x at *
      go_wp2_with (first
        | (go_at_call 57; refine HC.out.mono ?_; clear HC; rintro e w5 ⟨v5, rfl, r5⟩; obtain ⟨v6, w6, hrun, R6⟩ := HM.out _ _ r5; have HR6 := hide hrun; have R6' := hide R6; clear r5 HM hrun R6)
        | (at_builtin; refine Lib.wpList_append_run _ rfl (.tmp 66) (.tmp 72) 45 45 rfl _ _ rfl rfl _ _ HR6.out ?_; clear HR6))
      go_roundw
      case rel => exact ⟨k + 1, by omega, by go_num, R6'.out⟩
      case measure => simp [RowKit.intOf]; omega
    · rw [List.take_of_length_le (by omega)] at hR
      have HR := hide (FIN.out _ _ _ hR)
      clear hR
      go_wp2
      go_ret
      refine ⟨_, rfl, ?_⟩
      rw [HE.out]
      simpa using HR.out
end Go.Proofs.YtmgmndhibcgpdaaGreatDoor
