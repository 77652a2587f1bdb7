/- What each call on the document's own reader answers, and what it does to it. -/
import Derived.Test.YtcedpdneanjbkaaGreatDoorGGvA
import Derived.Deep.QuietTactic
import Derived.BigQuiet
import Derived.Deep.RegionHeld3
import Derived.Deep.CutRange
import Derived.Deep.DeepCutAuto
import Derived.Test.YtcedpdneanjbkaaGreatDoorGHead
import Derived.Test.YtcedpdneanjbkaaGreatDoorGE4
import Derived.Test.YtcedpdneanjbkaaGreatDoorGEM
namespace Go.Proofs.YtcedpdneanjbkaaGreatDoor
open Go.RowKit

/-- The document's reader: all bytes L, the place at; its bytes' memory lies from lo on, below it. -/
def Rf (w : World) (pb lo : Nat) (L : List UInt8) (at_ : Nat) : Prop :=
  at_ ≤ L.length ∧ w.frozen? ⟨pb, 1, none⟩ = false ∧ w.cell? ⟨pb, 1, none⟩ = some (.int .i64 at_) ∧ ∃ v, w.cell? ⟨pb, 0, none⟩ = some v ∧ BytesIn w lo pb v L

theorem Rf.kept {w w' : World} {pb lo : Nat} {L : List UInt8} {at_ : Nat} (h : Rf w pb lo L at_) (hw : ∀ k, lo ≤ k → k ≤ pb → w'.heap[k]? = w.heap[k]?) (hlo : lo ≤ pb) : Rf w' pb lo L at_ := by
  obtain ⟨h0, h2, h1, v, h3, h4⟩ := h
  have e := hw pb hlo (Nat.le_refl _)
  exact ⟨h0, by rw [World.frozen?_of_block (w := w) e]; exact h2, by rw [World.cell?_of_block (w := w) e]; exact h1, v, by rw [World.cell?_of_block (w := w) e]; exact h3, h4.mono (fun b o hb hb' => World.cell?_of_block (w := w) (hw b hb (by omega))) (Nat.le_refl _) (Nat.le_refl _)⟩

theorem Rf.set {w : World} {pb lo : Nat} {L : List UInt8} {at_ : Nat} (h : Rf w pb lo L at_) (q : Nat) (hq : q ≤ L.length) : Rf (w.setCell ⟨pb, 1, none⟩ (.int .i64 q)) pb lo L q := by
  obtain ⟨h0, h2, h1, v, h3, h4⟩ := h
  refine ⟨hq, ?_, ?_, v, ?_, h4.mono (fun b o hb hb' => cell?_setCell_ne _ _ _ _ _ _ (by omega)) (Nat.le_refl _) (Nat.le_refl _)⟩
  · rw [World.frozen?_setCell]; exact h2
  · exact World.cell?_setCell_same _ _ _ h1
  · exact (World.cell?_setCell_other _ _ _ _ (by simp)).trans h3

theorem grownBy_drewN (w : World) (n : Nat) (r : Option Nat) : w.grownBy (w.drewN n) r := ⟨rfl, rfl, rfl, Nat.le_refl _, fun _ _ _ => rfl⟩
theorem grownBy_trans {w w1 w2 : World} {r : Option Nat} (h : w.grownBy w1 r) (k : w1.grownBy w2 r) : w.grownBy w2 r :=
  ⟨k.os.trans h.os, k.tape.trans h.tape, k.output.trans h.output, Nat.le_trans h.size k.size, fun i hi hr => (k.block i (Nat.lt_of_lt_of_le hi h.size) hr).trans (h.block i hi hr)⟩

theorem getElem_drop_cell {w : World} {b off at_ : Nat} {L : List UInt8} (h7 : ∀ j (h : j < L.length), w.cell? ⟨b, off + j, none⟩ = some (.int .u8 (L[j].toNat : Int))) (k : Nat) (hk : k < (L.drop at_).length) :
    w.cell? ⟨b, off + (at_ + k), none⟩ = some (.int .u8 ((L.drop at_)[k].toNat : Int)) := by
  rw [List.length_drop] at hk
  have := h7 (at_ + k) (by omega)
  rw [List.getElem_drop]
  exact this

def acc_ref_claim (acc n k : Nat) : Prop :=
  bits .or .u64 (acc : Int) (IntKind.u64.wrap ((n : Int) % 128 * 2 ^ (7 * k))) = ((acc + n % 128 * 2 ^ (7 * k) : Nat) : Int)

theorem acc_ref (acc n k : Nat) (hk : k ≤ 9) (hacc : acc < 2 ^ (7 * k)) (hn : n < 256) (h9 : k = 9 → n = 1) : acc_ref_claim acc n k := by
  have h := acc_walk acc n k hk hacc hn h9
  unfold acc_walk_claim at h
  unfold acc_ref_claim
  have h1 : bits .andNot .u8 (n : Int) 128 = (n : Int) % 128 := by
    have := u8_andNot_nat n 128 hn (by decide)
    rw [show 255 - 128 = 127 from rfl, nat_mask7] at this
    exact this
  have h2 : IntKind.u64.wrap ((n : Int) % 128) = (n : Int) % 128 := by rw [IntKind.wrap_u64]; omega
  rw [h1, h2] at h
  exact h

theorem acc_ref_zero (acc n k : Nat) (hn : n = 0) (h : acc_ref_claim acc n k) : bits .or .u64 (acc : Int) (IntKind.u64.wrap 0) = ((acc + n % 128 * 2 ^ (7 * k) : Nat) : Int) := by
  subst hn
  unfold acc_ref_claim at h
  rw [show (((0 : Nat) : Int) % 128 * 2 ^ (7 * k)) = 0 by simp] at h
  exact h
theorem acc_ref_last (acc : Nat) (h : acc_ref_claim acc 1 9) : bits .or .u64 (acc : Int) 9223372036854775808 = ((acc + 1 % 128 * 2 ^ (7 * 9) : Nat) : Int) := by
  unfold acc_ref_claim at h
  rw [show IntKind.u64.wrap (((1 : Nat) : Int) % 128 * 2 ^ (7 * 9)) = 9223372036854775808 by decide] at h
  exact h

theorem Rf.fin {w : World} {pb lo : Nat} {L : List UInt8} {at_ k : Nat} (h : Rf w pb lo L at_) (hk : at_ + k < L.length) (nd : Nat) :
    Rf ((w.setCell ⟨pb, 1, none⟩ (.int .i64 ((at_ : Int) + (k : Int) + 1))).drewN nd) pb lo L (at_ + (k + 1)) := by
  have R := h.set (at_ + (k + 1)) (by omega)
  rw [show ((at_ + (k + 1) : Nat) : Int) = (at_ : Int) + (k : Int) + 1 by omega] at R
  exact R

end Go.Proofs.YtcedpdneanjbkaaGreatDoor

/- The reference's Decode: its numbers. -/
namespace Go.Proofs.YtcedpdneanjbkaaGreatDoor
open Go.RowKit

/-- Where the reference's take goes on; -1: nowhere. -/
def tkI (r : List UInt8) (i : Nat) : Int := if (front r).2.2 = 0 then ((i + (front r).2.1 : Nat) : Int) else -1
theorem tkI_yes {r : List UInt8} {i v u : Nat} (h : (v, u, 0) = front r) : (front r).1 = v ∧ tkI r i = ((i + u : Nat) : Int) := by
  unfold tkI
  rw [← h]
  exact ⟨rfl, rfl⟩
theorem tkI_no {r : List UInt8} {i e : Nat} (h : (0, 0, e) = front r) (he : e ≠ 0) : (front r).1 = 0 ∧ tkI r i = -1 := by
  unfold tkI
  rw [← h]
  exact ⟨rfl, if_neg he⟩
theorem and127 (n : Nat) (h : n < 256) : bits .and .u64 (n : Int) 127 = (n : Int) % 128 := by
  have h1 : bits .and .u64 (n : Int) ((127 : Nat) : Int) = ((n &&& 127 : Nat) : Int) := u64_and_nat n 127 (by omega) (by omega)
  rw [nat_mask7] at h1
  rw [show (127 : Int) = ((127 : Nat) : Int) from rfl, h1]
  omega
set_option maxRecDepth 100000 in
set_option maxHeartbeats 4000000 in
theorem take4_k (w : World) (B : Nat) (a : Option Addr) (c : Nat) (l : List UInt8) (at_ : Nat) (hB : BytesIn w 0 B (.slice a l.length c) l) (hi : at_ ≤ l.length) (hl : l.length ≤ 1000000000000) :
    Calls Tryz.prog 107 #[.slice a l.length c, .int .i64 at_] w fun e w' => e = .returned (.tuple #[.int .u64 (front (l.drop at_)).1, .int .i64 (tkI (l.drop at_) at_)]) ∧ w' = w := by
  have hel := hB.plain.elim
  clear hB
  go_enter Tryz.func107, Tryz.ntmps107
  go_wp2
  go_loopw [6, 7, 8] (fun t i _ wr => ∃ k acc : Nat, wr = w ∧ k ≤ (l.drop at_).length ∧ k ≤ 9 ∧ acc < 2 ^ (7 * k) ∧ i = .int .i64 k ∧ t = .int .u64 acc ∧ frontGo k acc ((l.drop at_).drop k) = front (l.drop at_)) (fun _ i _ _ => (l.drop at_).length - (intOf i).toNat)
  case atStart => exact ⟨0, 0, rfl, Nat.zero_le _, by omega, by decide, rfl, rfl, rfl⟩
  case round =>
    obtain ⟨k, acc, rfl, hk, hk9, hacc, rfl, rfl, hfr⟩ := hrel
    have hdl : (l.drop at_).length = l.length - at_ := List.length_drop
    by_cases hlt : k < (l.drop at_).length
    · have hcell : ∃ b off, a = some ⟨b, off, none⟩ ∧ wr.cell? ⟨b, off + (at_ + k), none⟩ = some (.int .u8 ((l.drop at_)[k].toNat : Int)) := by
        rcases hel with ⟨e, _⟩ | ⟨_, b, off, c', e, h7⟩
        · rw [e] at hlt; simp at hlt
        · simp only [Value.slice.injEq] at e
          exact ⟨b, off, e.1, getElem_drop_cell h7 k hlt⟩
      obtain ⟨b, off, rfl, hcell⟩ := hcell
      rw [List.drop_eq_getElem_cons hlt, frontGo] at hfr
      generalize (l.drop at_)[k] = x at hcell hfr
      have hx : x.toNat < 256 := x.toNat_lt
      have HA : Hid (acc < 2 ^ (7 * k)) := hacc
      have hkL : at_ + k < l.length := by omega
      clear hacc hel hdl
      generalize x.toNat = n at hcell hx hfr
      have hand := and127 n hx
      have HFR := hide hfr
      clear hfr
      have d1 : (at_ : Int) + (k : Int) < (l.length : Int) := by omega
      have d2 : (0 : Int) ≤ (at_ : Int) + (k : Int) := by omega
      by_cases h9 : k = 9
      · by_cases h1' : n = 1
        · have HW := hide (acc_ref acc n k hk9 HA.out hx (fun _ => h1'))
          have HF : Hid ((acc + n % 128 * 2 ^ (7 * k), k + 1, 0) = front (l.drop at_)) := by
            have hfr := HFR.out
            rw [if_neg (by omega), if_neg (by omega), if_neg (by omega)] at hfr
            exact hfr
          clear HFR
          have HE := hide (tkI_yes (i := at_) HF.out)
          clear HF
          subst h9
          subst h1'
          go_wp2
          go_ret2
          exact ⟨by rw [HE.out.1, HE.out.2]; exact ret_two (acc_ref_last acc HW.out) (by omega), rfl⟩
        · have HF : Hid ((0, 0, 12) = front (l.drop at_)) := by
            have hfr := HFR.out
            rw [if_pos ⟨h9, h1'⟩] at hfr
            exact hfr
          clear HFR
          have HE := hide (tkI_no (i := at_) HF.out (by decide))
          clear HF
          subst h9
          by_cases h0 : n = 0
          · subst h0
            go_wp2
            go_ret2
            exact ⟨by rw [HE.out.1, HE.out.2]; rfl, rfl⟩
          · have h2 : (1 : Int) < (n : Int) := by omega
            go_wp2
            go_ret2
            exact ⟨by rw [HE.out.1, HE.out.2]; rfl, rfl⟩
      · have HW := hide (acc_ref acc n k hk9 HA.out hx (fun e => absurd e h9))
        by_cases h128 : 128 ≤ n
        · have HF : Hid (frontGo (k + 1) (acc + n % 128 * 2 ^ (7 * k)) (List.drop (k + 1) (l.drop at_)) = front (l.drop at_)) := by
            have hfr := HFR.out
            rw [if_neg (fun h => h9 h.1), if_pos h128] at hfr
            exact hfr
          clear HFR
          go_wp2
          go_roundw
          case rel => exact ⟨k + 1, _, by trivial, by omega, by omega, acc_lt _ n _ HA.out, by go_num, congrArg (Value.int .u64) HW.out, HF.out⟩
          case measure => simp [intOf]; omega
        · by_cases h0' : n = 0 ∧ 0 < k
          · have HF : Hid ((0, 0, 12) = front (l.drop at_)) := by
              have hfr := HFR.out
              rw [if_neg (fun h => h9 h.1), if_neg h128, if_pos h0'] at hfr
              exact hfr
            obtain ⟨h0a, h0b⟩ := h0'
            have HE := hide (tkI_no (i := at_) HF.out (by decide))
            clear HFR HW HF
            subst h0a
            go_wp2
            go_ret2
            exact ⟨by rw [HE.out.1, HE.out.2]; rfl, rfl⟩
          · have HF : Hid ((acc + n % 128 * 2 ^ (7 * k), k + 1, 0) = front (l.drop at_)) := by
              have hfr := HFR.out
              rw [if_neg (fun h => h9 h.1), if_neg h128, if_neg h0'] at hfr
              exact hfr
            have HE := hide (tkI_yes (i := at_) HF.out)
            clear HFR HF
            by_cases hn0 : n = 0
            · have hk0 : k < 1 := by omega
              have hn1 : n < 1 := by omega
              clear h0' hn0
              go_wp2
              go_ret2
              exact ⟨by rw [HE.out.1, HE.out.2]; exact ret_two (by first | exact acc_ref_zero acc n k (by omega) HW.out | exact HW.out) (by omega), rfl⟩
            · have hn1 : 0 < n := by omega
              clear h0' hn0
              go_wp2
              all_goals
                go_ret2
                exact ⟨by rw [HE.out.1, HE.out.2]; exact ret_two HW.out (by omega), rfl⟩
    · have he : k = (l.drop at_).length := by omega
      have HF : Hid ((0, 0, 10) = front (l.drop at_)) := by
        have hfr := hfr
        rw [List.drop_of_length_le (by omega), frontGo] at hfr
        exact hfr
      have HE := hide (tkI_no (i := at_) HF.out (by decide))
      have d1 : ¬ ((at_ : Int) + (k : Int) < (l.length : Int)) := by omega
      clear hel hfr HF hacc hlt he
      go_wp2
      go_ret2
      exact ⟨by rw [HE.out.1, HE.out.2]; rfl, rfl⟩
theorem unz_odd4 (u : Nat) (h : u % 2 = 1) : -((u / 2 : Nat) : Int) - 1 = unz u := by unfold unz; rw [if_neg (by omega)]
theorem unz_even4 (u : Nat) (h : u % 2 = 0) : ((u / 2 : Nat) : Int) = unz u := by unfold unz; rw [if_pos h]
set_option maxRecDepth 100000 in
theorem unzig_k (u : Nat) (hu : u < 18446744073709551616) (w : World) : Calls Tryz.prog 108 #[.int .u64 u] w fun e w' => e = .returned (.int .i64 (unz u)) ∧ w' = w := by
  have hd : IntKind.i64.wrap (((u / 2 : Nat) : Int)) = ((u / 2 : Nat) : Int) := by rw [IntKind.wrap_i64]; omega
  have hdu : (u : Int) / 2 = ((u / 2 : Nat) : Int) := by omega
  by_cases h : u % 2 = 1
  · have hm : (u : Int) % 2 = 1 := by omega
    have HZ := hide (unz_odd4 u h)
    generalize u / 2 = q at *
    go_enter Tryz.func108, Tryz.ntmps108
    go_wp2
    go_ret
    exact ⟨by rw [← HZ.out]; first | rfl | (congr 2; omega), rfl⟩
  · have hm : (u : Int) % 2 = 0 := by omega
    have HZ := hide (unz_even4 u (by omega))
    generalize u / 2 = q at *
    go_enter Tryz.func108, Tryz.ntmps108
    go_wp2
    go_ret
    exact ⟨by rw [← HZ.out]; rfl, rfl⟩
end Go.Proofs.YtcedpdneanjbkaaGreatDoor

/- The reference's Decode: a value that has no items, and what is none. -/
namespace Go.Proofs.YtcedpdneanjbkaaGreatDoor
open Go.RowKit

/-- How many parts may come, in a cell. -/
def LeftI (w : World) (lb : Nat) (z : Int) : Prop := w.heap[lb]? = some (.cells #[.int .i64 z] 3 (0, 0))
/-- What read answers: a value, where it goes on, how many parts were begun. -/
def RdYes (w : World) (lb n : Nat) (v : Vl) (p' q' : Nat) (e : Ending) (w' : World) : Prop := ∃ s', e = .returned (.tuple #[.agg (vcells v s'), .int .i64 p']) ∧ ItemsIn w' (fun b => w.heap.size ≤ b ∧ b < w'.heap.size) n s' v.items ∧ LeftI w' lb ((4096 : Int) - q') ∧ w.grownBy w' (some lb)
def RdNo (w : World) (lb : Nat) (e : Ending) (w' : World) : Prop := ∃ (k i m : Int) (t : ByteArray) (a : Option Addr) (n c : Nat), e = .returned (.tuple #[.agg #[.int .i64 k, .int .i64 i, .int .i64 m, .string t, .slice a n c], .int .i64 (-1)]) ∧ w.grownBy w' (some lb)
/-- Within read: the result's block, and how many may come. -/
structure RSt (w X : World) (lb : Nat) (z : Int) : Prop where
  res : X.heap[w.heap.size]? = some (.cells zcells 46 (0, 0))
  lft : LeftI X lb z
  gr : w.grownBy X (some lb)
  lt : lb < w.heap.size
  sz : X.heap.size = w.heap.size + 1
theorem rst_start (w W : World) (lb : Nat) (z : Int) (hL : LeftI w lb z) (hW : w.alloc (.cells zcells 46) = W) : RSt w (W.setCell ⟨lb, 0, none⟩ (.int .i64 (z - 1))) lb (z - 1) := by
  have hlb : lb < w.heap.size := (Array.getElem?_eq_some_iff.1 hL).1
  have bW : Below w.heap.size w W := by rw [← hW]; exact alloc_v (Below.refl _ _) _
  have zW : W.heap.size = w.heap.size + 1 := by rw [← hW]; simp
  have e1 : W.heap[w.heap.size]? = some (.cells zcells 46 (0, 0)) := by rw [← hW]; exact World.alloc_heap_new w _
  have f1 : LeftI W lb z := (bW.block _ hlb).trans hL
  have f2 := heap_setCell_same _ _ 0 _ _ (.int .i64 (z - 1)) f1
  exact ⟨(Below.heap_setCell _ _ _ _ (by show w.heap.size ≠ lb; omega)).trans e1, f2, grown_more (grown_of_below bW) (grown_set1 _ _ _ _), hlb, by simp [World.setCell, zW]⟩
/-- The value is laid into the result. -/
theorem RSt.done {w X : World} {lb : Nat} {z : Int} (h : RSt w X lb z) (x0 x1 x2 x3 x4 : Value) (V : Array Value) :
    ((((((X.setCell ⟨w.heap.size, 0, none⟩ x0).setCell ⟨w.heap.size, 1, none⟩ x1).setCell ⟨w.heap.size, 2, none⟩ x2).setCell ⟨w.heap.size, 3, none⟩ x3).setCell ⟨w.heap.size, 4, none⟩ x4).alloc (.cells V 46)).heap[w.heap.size]? = some (.cells #[x0, x1, x2, x3, x4] 46 (0, 0)) ∧
    LeftI ((((((X.setCell ⟨w.heap.size, 0, none⟩ x0).setCell ⟨w.heap.size, 1, none⟩ x1).setCell ⟨w.heap.size, 2, none⟩ x2).setCell ⟨w.heap.size, 3, none⟩ x3).setCell ⟨w.heap.size, 4, none⟩ x4).alloc (.cells V 46)) lb z ∧
    w.grownBy ((((((X.setCell ⟨w.heap.size, 0, none⟩ x0).setCell ⟨w.heap.size, 1, none⟩ x1).setCell ⟨w.heap.size, 2, none⟩ x2).setCell ⟨w.heap.size, 3, none⟩ x3).setCell ⟨w.heap.size, 4, none⟩ x4).alloc (.cells V 46)) (some lb) := by
  have g1 := heap_setCell_same _ _ 0 _ _ x0 h.res
  have g2 := heap_setCell_same _ _ 1 _ _ x1 g1
  have g3 := heap_setCell_same _ _ 2 _ _ x2 g2
  have g4 := heap_setCell_same _ _ 3 _ _ x3 g3
  have g5 := heap_setCell_same _ _ 4 _ _ x4 g4
  have hl := h.lt
  have nl : lb ≠ w.heap.size := by omega
  have hz : (((((X.setCell ⟨w.heap.size, 0, none⟩ x0).setCell ⟨w.heap.size, 1, none⟩ x1).setCell ⟨w.heap.size, 2, none⟩ x2).setCell ⟨w.heap.size, 3, none⟩ x3).setCell ⟨w.heap.size, 4, none⟩ x4).heap.size = w.heap.size + 1 := by simp [World.setCell, h.sz]
  refine ⟨(Below.heap_alloc _ _ _ (by omega)).trans g5, ?_, grown_more (grown_far (grown_far (grown_far (grown_far (grown_far h.gr (Nat.le_refl _)) (Nat.le_refl _)) (Nat.le_refl _)) (Nat.le_refl _)) (Nat.le_refl _)) (grown_of_below (alloc_v (Below.refl _ _) _))⟩
  unfold LeftI
  rw [Below.heap_alloc _ _ _ (by omega), Below.heap_setCell _ _ _ _ nl, Below.heap_setCell _ _ _ _ nl, Below.heap_setCell _ _ _ _ nl, Below.heap_setCell _ _ _ _ nl, Below.heap_setCell _ _ _ _ nl]
  exact h.lft
theorem itemsIn_nil (w : World) (S : Nat → Prop) (n : Nat) : ItemsIn w S (n + 1) (.slice none 0 0) [] := ⟨none, 0, rfl, Nat.zero_le _, fun j hj => by simp at hj⟩
set_option maxRecDepth 100000 in
set_option maxHeartbeats 4000000 in
theorem read_low (n : Nat) (w : World) (lb B q i : Nat) (sl : Value) (l : List UInt8) (hL : LeftI w lb ((4096 : Int) - q)) (hB : BytesIn w 0 B sl l) (hb : B ≤ lb) (hi : i < l.length) (hl : l.length ≤ 1000000000000) (hq : q + 1 ≤ 4096) (hn : n ≤ 15) (k : UInt8) (r : List UInt8) (hs : l.drop i = k :: r) (hk : k.toNat = 0) :
    Calls Tryz.prog 76 #[sl, .int .i64 i, .int .i64 ((16 : Int) - n), .pointer (some ⟨lb, 0, none⟩)] w fun e w' => RdNo w lb e w' := by
  obtain ⟨a, c, rfl, _⟩ := id hB
  have hlb : lb < w.heap.size := (Array.getElem?_eq_some_iff.1 hL).1
  obtain ⟨z, hz⟩ : ∃ z : Int, (4096 : Int) - q = z := ⟨_, rfl⟩
  have hzq : ((4096 : Int) - ((q + 1 : Nat) : Int)) = z - 1 := by omega
  have hz0 : 1 ≤ z ∧ z ≤ 4096 := by omega
  rw [hz] at hL
  obtain ⟨W, hW⟩ : ∃ W, w.alloc (.cells zcells 46) = W := ⟨_, rfl⟩
  have bW : Below w.heap.size w W := by rw [← hW]; exact alloc_v (Below.refl _ _) _
  have zW : W.heap.size = w.heap.size + 1 := by rw [← hW]; simp
  have f1 : LeftI W lb z := (bW.block _ hlb).trans hL
  have x0 := cells_at f1 0 _ rfl
  have v0 := frozen_at f1 0
  have hsub : IntKind.i64.wrap (z - 1) = z - 1 := by rw [IntKind.wrap_i64]; omega
  have hzn : ¬ (z - 1 < 0) := by omega
  have hdn : ¬ ((16 : Int) < (16 : Int) - n) := by omega
  have hdl : (l.drop i).length = l.length - i := List.length_drop
  have hrl : r.length + 1 = l.length - i := by rw [hs] at hdl; simpa using hdl
  have hdc := List.drop_eq_getElem_cons hi
  rw [hs] at hdc
  obtain ⟨hk1, hr1⟩ := List.cons.inj hdc
  have HDR : Hid (l.drop (i + 1) = r) := hide hr1.symm
  have S := hide (rst_start w W lb z hL hW)
  have sz := (rst_start w W lb z hL hW).sz
  have GX : w.grownBy (W.setCell ⟨lb, 0, none⟩ (.int .i64 (z - 1))) (some lb) := grown_more (grown_of_below bW) (grown_set1 _ _ _ _)
  have HBX := hB.grownV GX hb (by omega)
  have hcell : ∃ b off, a = some ⟨b, off, none⟩ ∧ (W.setCell ⟨lb, 0, none⟩ (.int .i64 (z - 1))).cell? ⟨b, off + i, none⟩ = some (.int .u8 (k.toNat : Int)) := by
    rcases HBX.plain.elim with ⟨e, _⟩ | ⟨_, b, off, c', e, h7⟩
    · rw [e] at hi; simp at hi
    · simp only [Value.slice.injEq] at e
      refine ⟨b, off, e.1, ?_⟩
      have h8 := h7 i hi
      rw [← hk1] at h8
      exact h8
  obtain ⟨b, off, rfl, hcell⟩ := hcell
  have p0 : (0 : Int) ≤ (i : Int) := by omega
  have p1 : (i : Int) < (l.length : Int) := by omega
  rw [show (k.toNat : Int) = 0 by omega] at hcell
  clear hk
  have r0 := cells_at S.out.res 0 _ rfl
  have rz0 := frozen_at S.out.res 0
  have r1 := cells_at S.out.res 1 _ rfl
  have rz1 := frozen_at S.out.res 1
  have r2 := cells_at S.out.res 2 _ rfl
  have rz2 := frozen_at S.out.res 2
  have r3 := cells_at S.out.res 3 _ rfl
  have rz3 := frozen_at S.out.res 3
  have r4 := cells_at S.out.res 4 _ rfl
  have rz4 := frozen_at S.out.res 4
  have ZQ := hide hzq
  clear hL hB f1 GX hzq hdl hs hz HBX hdc hk1 hr1 hrl
  go_enter Tryz.func76, Tryz.ntmps76
  go_wp2
  have D := RSt.done S.out (.int .i64 0) (.int .i64 0) (.int .i64 0) (.string ⟨#[]⟩) (.slice none 0 0) #[.int .i64 0, .int .i64 0, .int .i64 0, .string ⟨#[]⟩, .slice none 0 0]
  refine bodyPost_ret (results_struct_tmp rfl _ _ w.heap.size _ _ _ _ rfl D.1 Tryz.underlying46 rfl infoVal5) rfl ?_
  exact ⟨_, _, _, _, _, _, _, rfl, D.2.2⟩
set_option maxRecDepth 100000 in
set_option maxHeartbeats 4000000 in
theorem read_high (n : Nat) (w : World) (lb B q i : Nat) (sl : Value) (l : List UInt8) (hL : LeftI w lb ((4096 : Int) - q)) (hB : BytesIn w 0 B sl l) (hb : B ≤ lb) (hi : i < l.length) (hl : l.length ≤ 1000000000000) (hq : q + 1 ≤ 4096) (hn : n ≤ 15) (k : UInt8) (r : List UInt8) (hs : l.drop i = k :: r) (hk : 7 < k.toNat) :
    Calls Tryz.prog 76 #[sl, .int .i64 i, .int .i64 ((16 : Int) - n), .pointer (some ⟨lb, 0, none⟩)] w fun e w' => RdNo w lb e w' := by
  obtain ⟨a, c, rfl, _⟩ := id hB
  have hlb : lb < w.heap.size := (Array.getElem?_eq_some_iff.1 hL).1
  obtain ⟨z, hz⟩ : ∃ z : Int, (4096 : Int) - q = z := ⟨_, rfl⟩
  have hzq : ((4096 : Int) - ((q + 1 : Nat) : Int)) = z - 1 := by omega
  have hz0 : 1 ≤ z ∧ z ≤ 4096 := by omega
  rw [hz] at hL
  obtain ⟨W, hW⟩ : ∃ W, w.alloc (.cells zcells 46) = W := ⟨_, rfl⟩
  have bW : Below w.heap.size w W := by rw [← hW]; exact alloc_v (Below.refl _ _) _
  have zW : W.heap.size = w.heap.size + 1 := by rw [← hW]; simp
  have f1 : LeftI W lb z := (bW.block _ hlb).trans hL
  have x0 := cells_at f1 0 _ rfl
  have v0 := frozen_at f1 0
  have hsub : IntKind.i64.wrap (z - 1) = z - 1 := by rw [IntKind.wrap_i64]; omega
  have hzn : ¬ (z - 1 < 0) := by omega
  have hdn : ¬ ((16 : Int) < (16 : Int) - n) := by omega
  have hdl : (l.drop i).length = l.length - i := List.length_drop
  have hrl : r.length + 1 = l.length - i := by rw [hs] at hdl; simpa using hdl
  have hdc := List.drop_eq_getElem_cons hi
  rw [hs] at hdc
  obtain ⟨hk1, hr1⟩ := List.cons.inj hdc
  have HDR : Hid (l.drop (i + 1) = r) := hide hr1.symm
  have S := hide (rst_start w W lb z hL hW)
  have sz := (rst_start w W lb z hL hW).sz
  have GX : w.grownBy (W.setCell ⟨lb, 0, none⟩ (.int .i64 (z - 1))) (some lb) := grown_more (grown_of_below bW) (grown_set1 _ _ _ _)
  have HBX := hB.grownV GX hb (by omega)
  have hcell : ∃ b off, a = some ⟨b, off, none⟩ ∧ (W.setCell ⟨lb, 0, none⟩ (.int .i64 (z - 1))).cell? ⟨b, off + i, none⟩ = some (.int .u8 (k.toNat : Int)) := by
    rcases HBX.plain.elim with ⟨e, _⟩ | ⟨_, b, off, c', e, h7⟩
    · rw [e] at hi; simp at hi
    · simp only [Value.slice.injEq] at e
      refine ⟨b, off, e.1, ?_⟩
      have h8 := h7 i hi
      rw [← hk1] at h8
      exact h8
  obtain ⟨b, off, rfl, hcell⟩ := hcell
  have p0 : (0 : Int) ≤ (i : Int) := by omega
  have p1 : (i : Int) < (l.length : Int) := by omega
  have hkl := k.toNat_lt
  obtain ⟨y, hy⟩ : ∃ y : Int, (k.toNat : Int) = y := ⟨_, rfl⟩
  have hwy : wrap64 y = y := by unfold wrap64; omega
  have n1 : (y == 1) = false := beq_eq_false_iff_ne.2 (by omega)
  rw [hy] at hcell
  have hy7 : (7 : Int) < y := by omega
  have hy2 : ¬ (y < 2) := by omega
  clear hk hkl hy
  have r0 := cells_at S.out.res 0 _ rfl
  have rz0 := frozen_at S.out.res 0
  have r1 := cells_at S.out.res 1 _ rfl
  have rz1 := frozen_at S.out.res 1
  have r2 := cells_at S.out.res 2 _ rfl
  have rz2 := frozen_at S.out.res 2
  have r3 := cells_at S.out.res 3 _ rfl
  have rz3 := frozen_at S.out.res 3
  have r4 := cells_at S.out.res 4 _ rfl
  have rz4 := frozen_at S.out.res 4
  have ZQ := hide hzq
  clear hL hB f1 GX hzq hdl hs hz HBX hdc hk1 hr1 hrl
  go_enter Tryz.func76, Tryz.ntmps76
  go_wp2
  have D := RSt.done S.out (.int .i64 y) (.int .i64 0) (.int .i64 0) (.string ⟨#[]⟩) (.slice none 0 0) #[.int .i64 y, .int .i64 0, .int .i64 0, .string ⟨#[]⟩, .slice none 0 0]
  refine bodyPost_ret (results_struct_tmp rfl _ _ w.heap.size _ _ _ _ rfl D.1 Tryz.underlying46 rfl infoVal5) rfl ?_
  exact ⟨_, _, _, _, _, _, _, rfl, D.2.2⟩
set_option maxRecDepth 100000 in
set_option maxHeartbeats 4000000 in
theorem read_bool_no (n : Nat) (w : World) (lb B q i : Nat) (sl : Value) (l : List UInt8) (hL : LeftI w lb ((4096 : Int) - q)) (hB : BytesIn w 0 B sl l) (hb : B ≤ lb) (hi : i < l.length) (hl : l.length ≤ 1000000000000) (hq : q + 1 ≤ 4096) (hn : n ≤ 15) (k : UInt8) (r : List UInt8) (hs : l.drop i = k :: r) (hk : k.toNat = 1) (hr : r = []) :
    Calls Tryz.prog 76 #[sl, .int .i64 i, .int .i64 ((16 : Int) - n), .pointer (some ⟨lb, 0, none⟩)] w fun e w' => RdNo w lb e w' := by
  obtain ⟨a, c, rfl, _⟩ := id hB
  have hlb : lb < w.heap.size := (Array.getElem?_eq_some_iff.1 hL).1
  obtain ⟨z, hz⟩ : ∃ z : Int, (4096 : Int) - q = z := ⟨_, rfl⟩
  have hzq : ((4096 : Int) - ((q + 1 : Nat) : Int)) = z - 1 := by omega
  have hz0 : 1 ≤ z ∧ z ≤ 4096 := by omega
  rw [hz] at hL
  obtain ⟨W, hW⟩ : ∃ W, w.alloc (.cells zcells 46) = W := ⟨_, rfl⟩
  have bW : Below w.heap.size w W := by rw [← hW]; exact alloc_v (Below.refl _ _) _
  have zW : W.heap.size = w.heap.size + 1 := by rw [← hW]; simp
  have f1 : LeftI W lb z := (bW.block _ hlb).trans hL
  have x0 := cells_at f1 0 _ rfl
  have v0 := frozen_at f1 0
  have hsub : IntKind.i64.wrap (z - 1) = z - 1 := by rw [IntKind.wrap_i64]; omega
  have hzn : ¬ (z - 1 < 0) := by omega
  have hdn : ¬ ((16 : Int) < (16 : Int) - n) := by omega
  have hdl : (l.drop i).length = l.length - i := List.length_drop
  have hrl : r.length + 1 = l.length - i := by rw [hs] at hdl; simpa using hdl
  have hdc := List.drop_eq_getElem_cons hi
  rw [hs] at hdc
  obtain ⟨hk1, hr1⟩ := List.cons.inj hdc
  have HDR : Hid (l.drop (i + 1) = r) := hide hr1.symm
  have S := hide (rst_start w W lb z hL hW)
  have sz := (rst_start w W lb z hL hW).sz
  have GX : w.grownBy (W.setCell ⟨lb, 0, none⟩ (.int .i64 (z - 1))) (some lb) := grown_more (grown_of_below bW) (grown_set1 _ _ _ _)
  have HBX := hB.grownV GX hb (by omega)
  have hcell : ∃ b off, a = some ⟨b, off, none⟩ ∧ (W.setCell ⟨lb, 0, none⟩ (.int .i64 (z - 1))).cell? ⟨b, off + i, none⟩ = some (.int .u8 (k.toNat : Int)) := by
    rcases HBX.plain.elim with ⟨e, _⟩ | ⟨_, b, off, c', e, h7⟩
    · rw [e] at hi; simp at hi
    · simp only [Value.slice.injEq] at e
      refine ⟨b, off, e.1, ?_⟩
      have h8 := h7 i hi
      rw [← hk1] at h8
      exact h8
  obtain ⟨b, off, rfl, hcell⟩ := hcell
  have p0 : (0 : Int) ≤ (i : Int) := by omega
  have p1 : (i : Int) < (l.length : Int) := by omega
  have p2 : (i : Int) + 1 = (l.length : Int) := by rw [hr] at hrl; simp at hrl; omega
  rw [show (k.toNat : Int) = 1 by omega] at hcell
  clear hk
  have r0 := cells_at S.out.res 0 _ rfl
  have rz0 := frozen_at S.out.res 0
  have r1 := cells_at S.out.res 1 _ rfl
  have rz1 := frozen_at S.out.res 1
  have r2 := cells_at S.out.res 2 _ rfl
  have rz2 := frozen_at S.out.res 2
  have r3 := cells_at S.out.res 3 _ rfl
  have rz3 := frozen_at S.out.res 3
  have r4 := cells_at S.out.res 4 _ rfl
  have rz4 := frozen_at S.out.res 4
  have p3 : (l.length : Int) ≤ (i : Int) + 1 := by omega
  have ZQ := hide hzq
  clear hL hB f1 GX hzq hdl hs hz HBX hdc hk1 hr1 hrl
  go_enter Tryz.func76, Tryz.ntmps76
  go_wp2
  have D := RSt.done S.out (.int .i64 1) (.int .i64 0) (.int .i64 0) (.string ⟨#[]⟩) (.slice none 0 0) #[.int .i64 1, .int .i64 0, .int .i64 0, .string ⟨#[]⟩, .slice none 0 0]
  refine bodyPost_ret (results_struct_tmp rfl _ _ w.heap.size _ _ _ _ rfl D.1 Tryz.underlying46 rfl infoVal5) rfl ?_
  exact ⟨_, _, _, _, _, _, _, rfl, D.2.2⟩
set_option maxRecDepth 100000 in
set_option maxHeartbeats 4000000 in
theorem read_bool (n : Nat) (w : World) (lb B q i : Nat) (sl : Value) (l : List UInt8) (hL : LeftI w lb ((4096 : Int) - q)) (hB : BytesIn w 0 B sl l) (hb : B ≤ lb) (hi : i < l.length) (hl : l.length ≤ 1000000000000) (hq : q + 1 ≤ 4096) (hn : n ≤ 15) (k : UInt8) (r : List UInt8) (hs : l.drop i = k :: r) (hk : k.toNat = 1) (y : UInt8) (r2 : List UInt8) (hr : r = y :: r2) :
    Calls Tryz.prog 76 #[sl, .int .i64 i, .int .i64 ((16 : Int) - n), .pointer (some ⟨lb, 0, none⟩)] w fun e w' => RdYes w lb (n + 1) ⟨1, y.toNat, 0, ⟨#[]⟩, []⟩ (i + 2) (q + 1) e w' := by
  obtain ⟨a, c, rfl, _⟩ := id hB
  have hlb : lb < w.heap.size := (Array.getElem?_eq_some_iff.1 hL).1
  obtain ⟨z, hz⟩ : ∃ z : Int, (4096 : Int) - q = z := ⟨_, rfl⟩
  have hzq : ((4096 : Int) - ((q + 1 : Nat) : Int)) = z - 1 := by omega
  have hz0 : 1 ≤ z ∧ z ≤ 4096 := by omega
  rw [hz] at hL
  obtain ⟨W, hW⟩ : ∃ W, w.alloc (.cells zcells 46) = W := ⟨_, rfl⟩
  have bW : Below w.heap.size w W := by rw [← hW]; exact alloc_v (Below.refl _ _) _
  have zW : W.heap.size = w.heap.size + 1 := by rw [← hW]; simp
  have f1 : LeftI W lb z := (bW.block _ hlb).trans hL
  have x0 := cells_at f1 0 _ rfl
  have v0 := frozen_at f1 0
  have hsub : IntKind.i64.wrap (z - 1) = z - 1 := by rw [IntKind.wrap_i64]; omega
  have hzn : ¬ (z - 1 < 0) := by omega
  have hdn : ¬ ((16 : Int) < (16 : Int) - n) := by omega
  have hdl : (l.drop i).length = l.length - i := List.length_drop
  have hrl : r.length + 1 = l.length - i := by rw [hs] at hdl; simpa using hdl
  have hdc := List.drop_eq_getElem_cons hi
  rw [hs] at hdc
  obtain ⟨hk1, hr1⟩ := List.cons.inj hdc
  have HDR : Hid (l.drop (i + 1) = r) := hide hr1.symm
  have S := hide (rst_start w W lb z hL hW)
  have sz := (rst_start w W lb z hL hW).sz
  have GX : w.grownBy (W.setCell ⟨lb, 0, none⟩ (.int .i64 (z - 1))) (some lb) := grown_more (grown_of_below bW) (grown_set1 _ _ _ _)
  have HBX := hB.grownV GX hb (by omega)
  have hcell : ∃ b off, a = some ⟨b, off, none⟩ ∧ (W.setCell ⟨lb, 0, none⟩ (.int .i64 (z - 1))).cell? ⟨b, off + i, none⟩ = some (.int .u8 (k.toNat : Int)) := by
    rcases HBX.plain.elim with ⟨e, _⟩ | ⟨_, b, off, c', e, h7⟩
    · rw [e] at hi; simp at hi
    · simp only [Value.slice.injEq] at e
      refine ⟨b, off, e.1, ?_⟩
      have h8 := h7 i hi
      rw [← hk1] at h8
      exact h8
  obtain ⟨b, off, rfl, hcell⟩ := hcell
  have p0 : (0 : Int) ≤ (i : Int) := by omega
  have p1 : (i : Int) < (l.length : Int) := by omega
  have hi2 : i + 1 < l.length := by rw [hr] at hrl; simp at hrl; omega
  have hcell2 : (W.setCell ⟨lb, 0, none⟩ (.int .i64 (z - 1))).cell? ⟨b, off + (i + 1), none⟩ = some (.int .u8 (y.toNat : Int)) := by
    rcases HBX.plain.elim with ⟨e, _⟩ | ⟨_, b', off', c', e, h7⟩
    · rw [e] at hi; simp at hi
    · simp only [Value.slice.injEq, Option.some.injEq, Addr.mk.injEq] at e
      obtain ⟨⟨rfl, rfl, _⟩, _⟩ := e
      have h8 := h7 (i + 1) hi2
      have hd2 := List.drop_eq_getElem_cons hi2
      rw [HDR.out, hr] at hd2
      rw [← (List.cons.inj hd2).1] at h8
      exact h8
  have p2 : (i : Int) + 1 < (l.length : Int) := by omega
  have p3 : (0 : Int) ≤ (i : Int) + 1 := by omega
  have hyl := y.toNat_lt
  obtain ⟨x, hx⟩ : ∃ x : Int, (y.toNat : Int) = x := ⟨_, rfl⟩
  have hwx : wrap64 x = x := by unfold wrap64; omega
  rw [hx] at hcell2 ⊢
  have hcell3 := fun ob : Obj => (World.cell?_alloc_some (W.setCell ⟨lb, 0, none⟩ (.int .i64 (z - 1))) ⟨b, off + (i + 1), none⟩ ob (by rw [hcell2]; rfl)).trans hcell2
  clear hx hyl
  rw [show (k.toNat : Int) = 1 by omega] at hcell
  clear hk
  have r0 := cells_at S.out.res 0 _ rfl
  have rz0 := frozen_at S.out.res 0
  have r1 := cells_at S.out.res 1 _ rfl
  have rz1 := frozen_at S.out.res 1
  have r2 := cells_at S.out.res 2 _ rfl
  have rz2 := frozen_at S.out.res 2
  have r3 := cells_at S.out.res 3 _ rfl
  have rz3 := frozen_at S.out.res 3
  have r4 := cells_at S.out.res 4 _ rfl
  have rz4 := frozen_at S.out.res 4
  have ZQ := hide hzq
  clear hL hB f1 GX hzq hdl hs hz HBX hdc hk1 hr1 hrl
  go_enter Tryz.func76, Tryz.ntmps76
  go_wp2
  have D := RSt.done S.out (.int .i64 1) (.int .i64 x) (.int .i64 0) (.string ⟨#[]⟩) (.slice none 0 0) #[.int .i64 1, .int .i64 x, .int .i64 0, .string ⟨#[]⟩, .slice none 0 0]
  refine bodyPost_ret (results_struct_tmp rfl _ _ w.heap.size _ _ _ _ rfl D.1 Tryz.underlying46 rfl infoVal5) rfl ?_
  refine ⟨.slice none 0 0, by go_num, itemsIn_nil _ _ _, ?_, D.2.2⟩
  rw [ZQ.out]
  exact D.2.1
set_option maxRecDepth 100000 in
set_option maxHeartbeats 4000000 in
theorem read_take_no2 (n : Nat) (w : World) (lb B q i : Nat) (sl : Value) (l : List UInt8) (hL : LeftI w lb ((4096 : Int) - q)) (hB : BytesIn w 0 B sl l) (hb : B ≤ lb) (hi : i < l.length) (hl : l.length ≤ 1000000000000) (hq : q + 1 ≤ 4096) (hn : n ≤ 15) (k : UInt8) (r : List UInt8) (hs : l.drop i = k :: r) (hk : k.toNat = 2) (hf : ¬ (front r).2.2 = 0) :
    Calls Tryz.prog 76 #[sl, .int .i64 i, .int .i64 ((16 : Int) - n), .pointer (some ⟨lb, 0, none⟩)] w fun e w' => RdNo w lb e w' := by
  obtain ⟨a, c, rfl, _⟩ := id hB
  have hlb : lb < w.heap.size := (Array.getElem?_eq_some_iff.1 hL).1
  obtain ⟨z, hz⟩ : ∃ z : Int, (4096 : Int) - q = z := ⟨_, rfl⟩
  have hzq : ((4096 : Int) - ((q + 1 : Nat) : Int)) = z - 1 := by omega
  have hz0 : 1 ≤ z ∧ z ≤ 4096 := by omega
  rw [hz] at hL
  obtain ⟨W, hW⟩ : ∃ W, w.alloc (.cells zcells 46) = W := ⟨_, rfl⟩
  have bW : Below w.heap.size w W := by rw [← hW]; exact alloc_v (Below.refl _ _) _
  have zW : W.heap.size = w.heap.size + 1 := by rw [← hW]; simp
  have f1 : LeftI W lb z := (bW.block _ hlb).trans hL
  have x0 := cells_at f1 0 _ rfl
  have v0 := frozen_at f1 0
  have hsub : IntKind.i64.wrap (z - 1) = z - 1 := by rw [IntKind.wrap_i64]; omega
  have hzn : ¬ (z - 1 < 0) := by omega
  have hdn : ¬ ((16 : Int) < (16 : Int) - n) := by omega
  have hdl : (l.drop i).length = l.length - i := List.length_drop
  have hrl : r.length + 1 = l.length - i := by rw [hs] at hdl; simpa using hdl
  have hdc := List.drop_eq_getElem_cons hi
  rw [hs] at hdc
  obtain ⟨hk1, hr1⟩ := List.cons.inj hdc
  have HDR : Hid (l.drop (i + 1) = r) := hide hr1.symm
  have S := hide (rst_start w W lb z hL hW)
  have sz := (rst_start w W lb z hL hW).sz
  have GX : w.grownBy (W.setCell ⟨lb, 0, none⟩ (.int .i64 (z - 1))) (some lb) := grown_more (grown_of_below bW) (grown_set1 _ _ _ _)
  have HBX := hB.grownV GX hb (by omega)
  have hcell : ∃ b off, a = some ⟨b, off, none⟩ ∧ (W.setCell ⟨lb, 0, none⟩ (.int .i64 (z - 1))).cell? ⟨b, off + i, none⟩ = some (.int .u8 (k.toNat : Int)) := by
    rcases HBX.plain.elim with ⟨e, _⟩ | ⟨_, b, off, c', e, h7⟩
    · rw [e] at hi; simp at hi
    · simp only [Value.slice.injEq] at e
      refine ⟨b, off, e.1, ?_⟩
      have h8 := h7 i hi
      rw [← hk1] at h8
      exact h8
  obtain ⟨b, off, rfl, hcell⟩ := hcell
  have p0 : (0 : Int) ≤ (i : Int) := by omega
  have p1 : (i : Int) < (l.length : Int) := by omega
  have HTK := hide (take4_k ((W.setCell ⟨lb, 0, none⟩ (.int .i64 (z - 1))).alloc (.cells #[.int .i64 2, .int .i64 0, .int .i64 0, .string ⟨#[]⟩, .slice none 0 0] 46)) B (some ⟨b, off, none⟩) c l (i + 1) (hB.grownV (grown_more GX (grown_of_below (alloc_v (Below.refl _ _) _))) hb (by omega)) (by omega) hl)
  rw [HDR.out, show ((i + 1 : Nat) : Int) = (i : Int) + 1 by omega] at HTK
  rw [show tkI r (i + 1) = -1 from if_neg hf] at HTK
  generalize (front r).1 = fv at *
  clear hf
  rw [show (k.toNat : Int) = 2 by omega] at hcell
  clear hk
  have r0 := cells_at S.out.res 0 _ rfl
  have rz0 := frozen_at S.out.res 0
  have r1 := cells_at S.out.res 1 _ rfl
  have rz1 := frozen_at S.out.res 1
  have r2 := cells_at S.out.res 2 _ rfl
  have rz2 := frozen_at S.out.res 2
  have r3 := cells_at S.out.res 3 _ rfl
  have rz3 := frozen_at S.out.res 3
  have r4 := cells_at S.out.res 4 _ rfl
  have rz4 := frozen_at S.out.res 4
  have ZQ := hide hzq
  clear hL hB f1 GX hzq hdl hs hz HBX hdc hk1 hr1 hrl
  go_enter Tryz.func76, Tryz.ntmps76
  go_wp2_with (go_at_call 107; refine HTK.out.mono ?_; clear HTK; rintro e w2 ⟨rfl, rfl⟩)
  have D := RSt.done S.out (.int .i64 2) (.int .i64 0) (.int .i64 0) (.string ⟨#[]⟩) (.slice none 0 0) #[.int .i64 2, .int .i64 0, .int .i64 0, .string ⟨#[]⟩, .slice none 0 0]
  refine bodyPost_ret (results_struct_tmp rfl _ _ w.heap.size _ _ _ _ rfl D.1 Tryz.underlying46 rfl infoVal5) rfl ?_
  exact ⟨_, _, _, _, _, _, _, rfl, D.2.2⟩
set_option maxRecDepth 100000 in
set_option maxHeartbeats 4000000 in
theorem read_take_no3 (n : Nat) (w : World) (lb B q i : Nat) (sl : Value) (l : List UInt8) (hL : LeftI w lb ((4096 : Int) - q)) (hB : BytesIn w 0 B sl l) (hb : B ≤ lb) (hi : i < l.length) (hl : l.length ≤ 1000000000000) (hq : q + 1 ≤ 4096) (hn : n ≤ 15) (k : UInt8) (r : List UInt8) (hs : l.drop i = k :: r) (hk : k.toNat = 3) (hf : ¬ (front r).2.2 = 0) :
    Calls Tryz.prog 76 #[sl, .int .i64 i, .int .i64 ((16 : Int) - n), .pointer (some ⟨lb, 0, none⟩)] w fun e w' => RdNo w lb e w' := by
  obtain ⟨a, c, rfl, _⟩ := id hB
  have hlb : lb < w.heap.size := (Array.getElem?_eq_some_iff.1 hL).1
  obtain ⟨z, hz⟩ : ∃ z : Int, (4096 : Int) - q = z := ⟨_, rfl⟩
  have hzq : ((4096 : Int) - ((q + 1 : Nat) : Int)) = z - 1 := by omega
  have hz0 : 1 ≤ z ∧ z ≤ 4096 := by omega
  rw [hz] at hL
  obtain ⟨W, hW⟩ : ∃ W, w.alloc (.cells zcells 46) = W := ⟨_, rfl⟩
  have bW : Below w.heap.size w W := by rw [← hW]; exact alloc_v (Below.refl _ _) _
  have zW : W.heap.size = w.heap.size + 1 := by rw [← hW]; simp
  have f1 : LeftI W lb z := (bW.block _ hlb).trans hL
  have x0 := cells_at f1 0 _ rfl
  have v0 := frozen_at f1 0
  have hsub : IntKind.i64.wrap (z - 1) = z - 1 := by rw [IntKind.wrap_i64]; omega
  have hzn : ¬ (z - 1 < 0) := by omega
  have hdn : ¬ ((16 : Int) < (16 : Int) - n) := by omega
  have hdl : (l.drop i).length = l.length - i := List.length_drop
  have hrl : r.length + 1 = l.length - i := by rw [hs] at hdl; simpa using hdl
  have hdc := List.drop_eq_getElem_cons hi
  rw [hs] at hdc
  obtain ⟨hk1, hr1⟩ := List.cons.inj hdc
  have HDR : Hid (l.drop (i + 1) = r) := hide hr1.symm
  have S := hide (rst_start w W lb z hL hW)
  have sz := (rst_start w W lb z hL hW).sz
  have GX : w.grownBy (W.setCell ⟨lb, 0, none⟩ (.int .i64 (z - 1))) (some lb) := grown_more (grown_of_below bW) (grown_set1 _ _ _ _)
  have HBX := hB.grownV GX hb (by omega)
  have hcell : ∃ b off, a = some ⟨b, off, none⟩ ∧ (W.setCell ⟨lb, 0, none⟩ (.int .i64 (z - 1))).cell? ⟨b, off + i, none⟩ = some (.int .u8 (k.toNat : Int)) := by
    rcases HBX.plain.elim with ⟨e, _⟩ | ⟨_, b, off, c', e, h7⟩
    · rw [e] at hi; simp at hi
    · simp only [Value.slice.injEq] at e
      refine ⟨b, off, e.1, ?_⟩
      have h8 := h7 i hi
      rw [← hk1] at h8
      exact h8
  obtain ⟨b, off, rfl, hcell⟩ := hcell
  have p0 : (0 : Int) ≤ (i : Int) := by omega
  have p1 : (i : Int) < (l.length : Int) := by omega
  have HTK := hide (take4_k ((W.setCell ⟨lb, 0, none⟩ (.int .i64 (z - 1))).alloc (.cells #[.int .i64 3, .int .i64 0, .int .i64 0, .string ⟨#[]⟩, .slice none 0 0] 46)) B (some ⟨b, off, none⟩) c l (i + 1) (hB.grownV (grown_more GX (grown_of_below (alloc_v (Below.refl _ _) _))) hb (by omega)) (by omega) hl)
  rw [HDR.out, show ((i + 1 : Nat) : Int) = (i : Int) + 1 by omega] at HTK
  rw [show tkI r (i + 1) = -1 from if_neg hf] at HTK
  generalize (front r).1 = fv at *
  clear hf
  rw [show (k.toNat : Int) = 3 by omega] at hcell
  clear hk
  have r0 := cells_at S.out.res 0 _ rfl
  have rz0 := frozen_at S.out.res 0
  have r1 := cells_at S.out.res 1 _ rfl
  have rz1 := frozen_at S.out.res 1
  have r2 := cells_at S.out.res 2 _ rfl
  have rz2 := frozen_at S.out.res 2
  have r3 := cells_at S.out.res 3 _ rfl
  have rz3 := frozen_at S.out.res 3
  have r4 := cells_at S.out.res 4 _ rfl
  have rz4 := frozen_at S.out.res 4
  have ZQ := hide hzq
  clear hL hB f1 GX hzq hdl hs hz HBX hdc hk1 hr1 hrl
  go_enter Tryz.func76, Tryz.ntmps76
  go_wp2_with (go_at_call 107; refine HTK.out.mono ?_; clear HTK; rintro e w2 ⟨rfl, rfl⟩)
  have D := RSt.done S.out (.int .i64 3) (.int .i64 0) (.int .i64 0) (.string ⟨#[]⟩) (.slice none 0 0) #[.int .i64 3, .int .i64 0, .int .i64 0, .string ⟨#[]⟩, .slice none 0 0]
  refine bodyPost_ret (results_struct_tmp rfl _ _ w.heap.size _ _ _ _ rfl D.1 Tryz.underlying46 rfl infoVal5) rfl ?_
  exact ⟨_, _, _, _, _, _, _, rfl, D.2.2⟩
set_option maxRecDepth 100000 in
set_option maxHeartbeats 4000000 in
theorem read_take_no4 (n : Nat) (w : World) (lb B q i : Nat) (sl : Value) (l : List UInt8) (hL : LeftI w lb ((4096 : Int) - q)) (hB : BytesIn w 0 B sl l) (hb : B ≤ lb) (hi : i < l.length) (hl : l.length ≤ 1000000000000) (hq : q + 1 ≤ 4096) (hn : n ≤ 15) (k : UInt8) (r : List UInt8) (hs : l.drop i = k :: r) (hk : k.toNat = 4) (hf : ¬ (front r).2.2 = 0) :
    Calls Tryz.prog 76 #[sl, .int .i64 i, .int .i64 ((16 : Int) - n), .pointer (some ⟨lb, 0, none⟩)] w fun e w' => RdNo w lb e w' := by
  obtain ⟨a, c, rfl, _⟩ := id hB
  have hlb : lb < w.heap.size := (Array.getElem?_eq_some_iff.1 hL).1
  obtain ⟨z, hz⟩ : ∃ z : Int, (4096 : Int) - q = z := ⟨_, rfl⟩
  have hzq : ((4096 : Int) - ((q + 1 : Nat) : Int)) = z - 1 := by omega
  have hz0 : 1 ≤ z ∧ z ≤ 4096 := by omega
  rw [hz] at hL
  obtain ⟨W, hW⟩ : ∃ W, w.alloc (.cells zcells 46) = W := ⟨_, rfl⟩
  have bW : Below w.heap.size w W := by rw [← hW]; exact alloc_v (Below.refl _ _) _
  have zW : W.heap.size = w.heap.size + 1 := by rw [← hW]; simp
  have f1 : LeftI W lb z := (bW.block _ hlb).trans hL
  have x0 := cells_at f1 0 _ rfl
  have v0 := frozen_at f1 0
  have hsub : IntKind.i64.wrap (z - 1) = z - 1 := by rw [IntKind.wrap_i64]; omega
  have hzn : ¬ (z - 1 < 0) := by omega
  have hdn : ¬ ((16 : Int) < (16 : Int) - n) := by omega
  have hdl : (l.drop i).length = l.length - i := List.length_drop
  have hrl : r.length + 1 = l.length - i := by rw [hs] at hdl; simpa using hdl
  have hdc := List.drop_eq_getElem_cons hi
  rw [hs] at hdc
  obtain ⟨hk1, hr1⟩ := List.cons.inj hdc
  have HDR : Hid (l.drop (i + 1) = r) := hide hr1.symm
  have S := hide (rst_start w W lb z hL hW)
  have sz := (rst_start w W lb z hL hW).sz
  have GX : w.grownBy (W.setCell ⟨lb, 0, none⟩ (.int .i64 (z - 1))) (some lb) := grown_more (grown_of_below bW) (grown_set1 _ _ _ _)
  have HBX := hB.grownV GX hb (by omega)
  have hcell : ∃ b off, a = some ⟨b, off, none⟩ ∧ (W.setCell ⟨lb, 0, none⟩ (.int .i64 (z - 1))).cell? ⟨b, off + i, none⟩ = some (.int .u8 (k.toNat : Int)) := by
    rcases HBX.plain.elim with ⟨e, _⟩ | ⟨_, b, off, c', e, h7⟩
    · rw [e] at hi; simp at hi
    · simp only [Value.slice.injEq] at e
      refine ⟨b, off, e.1, ?_⟩
      have h8 := h7 i hi
      rw [← hk1] at h8
      exact h8
  obtain ⟨b, off, rfl, hcell⟩ := hcell
  have p0 : (0 : Int) ≤ (i : Int) := by omega
  have p1 : (i : Int) < (l.length : Int) := by omega
  have HTK := hide (take4_k ((W.setCell ⟨lb, 0, none⟩ (.int .i64 (z - 1))).alloc (.cells #[.int .i64 4, .int .i64 0, .int .i64 0, .string ⟨#[]⟩, .slice none 0 0] 46)) B (some ⟨b, off, none⟩) c l (i + 1) (hB.grownV (grown_more GX (grown_of_below (alloc_v (Below.refl _ _) _))) hb (by omega)) (by omega) hl)
  rw [HDR.out, show ((i + 1 : Nat) : Int) = (i : Int) + 1 by omega] at HTK
  rw [show tkI r (i + 1) = -1 from if_neg hf] at HTK
  generalize (front r).1 = fv at *
  clear hf
  rw [show (k.toNat : Int) = 4 by omega] at hcell
  clear hk
  have r0 := cells_at S.out.res 0 _ rfl
  have rz0 := frozen_at S.out.res 0
  have r1 := cells_at S.out.res 1 _ rfl
  have rz1 := frozen_at S.out.res 1
  have r2 := cells_at S.out.res 2 _ rfl
  have rz2 := frozen_at S.out.res 2
  have r3 := cells_at S.out.res 3 _ rfl
  have rz3 := frozen_at S.out.res 3
  have r4 := cells_at S.out.res 4 _ rfl
  have rz4 := frozen_at S.out.res 4
  have ZQ := hide hzq
  clear hL hB f1 GX hzq hdl hs hz HBX hdc hk1 hr1 hrl
  go_enter Tryz.func76, Tryz.ntmps76
  go_wp2_with (go_at_call 107; refine HTK.out.mono ?_; clear HTK; rintro e w2 ⟨rfl, rfl⟩)
  have D := RSt.done S.out (.int .i64 4) (.int .i64 0) (.int .i64 0) (.string ⟨#[]⟩) (.slice none 0 0) #[.int .i64 4, .int .i64 0, .int .i64 0, .string ⟨#[]⟩, .slice none 0 0]
  refine bodyPost_ret (results_struct_tmp rfl _ _ w.heap.size _ _ _ _ rfl D.1 Tryz.underlying46 rfl infoVal5) rfl ?_
  exact ⟨_, _, _, _, _, _, _, rfl, D.2.2⟩
set_option maxRecDepth 100000 in
set_option maxHeartbeats 4000000 in
theorem read_take_no5 (n : Nat) (w : World) (lb B q i : Nat) (sl : Value) (l : List UInt8) (hL : LeftI w lb ((4096 : Int) - q)) (hB : BytesIn w 0 B sl l) (hb : B ≤ lb) (hi : i < l.length) (hl : l.length ≤ 1000000000000) (hq : q + 1 ≤ 4096) (hn : n ≤ 15) (k : UInt8) (r : List UInt8) (hs : l.drop i = k :: r) (hk : k.toNat = 5) (hf : ¬ (front r).2.2 = 0) :
    Calls Tryz.prog 76 #[sl, .int .i64 i, .int .i64 ((16 : Int) - n), .pointer (some ⟨lb, 0, none⟩)] w fun e w' => RdNo w lb e w' := by
  obtain ⟨a, c, rfl, _⟩ := id hB
  have hlb : lb < w.heap.size := (Array.getElem?_eq_some_iff.1 hL).1
  obtain ⟨z, hz⟩ : ∃ z : Int, (4096 : Int) - q = z := ⟨_, rfl⟩
  have hzq : ((4096 : Int) - ((q + 1 : Nat) : Int)) = z - 1 := by omega
  have hz0 : 1 ≤ z ∧ z ≤ 4096 := by omega
  rw [hz] at hL
  obtain ⟨W, hW⟩ : ∃ W, w.alloc (.cells zcells 46) = W := ⟨_, rfl⟩
  have bW : Below w.heap.size w W := by rw [← hW]; exact alloc_v (Below.refl _ _) _
  have zW : W.heap.size = w.heap.size + 1 := by rw [← hW]; simp
  have f1 : LeftI W lb z := (bW.block _ hlb).trans hL
  have x0 := cells_at f1 0 _ rfl
  have v0 := frozen_at f1 0
  have hsub : IntKind.i64.wrap (z - 1) = z - 1 := by rw [IntKind.wrap_i64]; omega
  have hzn : ¬ (z - 1 < 0) := by omega
  have hdn : ¬ ((16 : Int) < (16 : Int) - n) := by omega
  have hdl : (l.drop i).length = l.length - i := List.length_drop
  have hrl : r.length + 1 = l.length - i := by rw [hs] at hdl; simpa using hdl
  have hdc := List.drop_eq_getElem_cons hi
  rw [hs] at hdc
  obtain ⟨hk1, hr1⟩ := List.cons.inj hdc
  have HDR : Hid (l.drop (i + 1) = r) := hide hr1.symm
  have S := hide (rst_start w W lb z hL hW)
  have sz := (rst_start w W lb z hL hW).sz
  have GX : w.grownBy (W.setCell ⟨lb, 0, none⟩ (.int .i64 (z - 1))) (some lb) := grown_more (grown_of_below bW) (grown_set1 _ _ _ _)
  have HBX := hB.grownV GX hb (by omega)
  have hcell : ∃ b off, a = some ⟨b, off, none⟩ ∧ (W.setCell ⟨lb, 0, none⟩ (.int .i64 (z - 1))).cell? ⟨b, off + i, none⟩ = some (.int .u8 (k.toNat : Int)) := by
    rcases HBX.plain.elim with ⟨e, _⟩ | ⟨_, b, off, c', e, h7⟩
    · rw [e] at hi; simp at hi
    · simp only [Value.slice.injEq] at e
      refine ⟨b, off, e.1, ?_⟩
      have h8 := h7 i hi
      rw [← hk1] at h8
      exact h8
  obtain ⟨b, off, rfl, hcell⟩ := hcell
  have p0 : (0 : Int) ≤ (i : Int) := by omega
  have p1 : (i : Int) < (l.length : Int) := by omega
  have HTK := hide (take4_k ((W.setCell ⟨lb, 0, none⟩ (.int .i64 (z - 1))).alloc (.cells #[.int .i64 5, .int .i64 0, .int .i64 0, .string ⟨#[]⟩, .slice none 0 0] 46)) B (some ⟨b, off, none⟩) c l (i + 1) (hB.grownV (grown_more GX (grown_of_below (alloc_v (Below.refl _ _) _))) hb (by omega)) (by omega) hl)
  rw [HDR.out, show ((i + 1 : Nat) : Int) = (i : Int) + 1 by omega] at HTK
  rw [show tkI r (i + 1) = -1 from if_neg hf] at HTK
  generalize (front r).1 = fv at *
  clear hf
  rw [show (k.toNat : Int) = 5 by omega] at hcell
  clear hk
  have r0 := cells_at S.out.res 0 _ rfl
  have rz0 := frozen_at S.out.res 0
  have r1 := cells_at S.out.res 1 _ rfl
  have rz1 := frozen_at S.out.res 1
  have r2 := cells_at S.out.res 2 _ rfl
  have rz2 := frozen_at S.out.res 2
  have r3 := cells_at S.out.res 3 _ rfl
  have rz3 := frozen_at S.out.res 3
  have r4 := cells_at S.out.res 4 _ rfl
  have rz4 := frozen_at S.out.res 4
  have ZQ := hide hzq
  clear hL hB f1 GX hzq hdl hs hz HBX hdc hk1 hr1 hrl
  go_enter Tryz.func76, Tryz.ntmps76
  go_wp2_with (go_at_call 107; refine HTK.out.mono ?_; clear HTK; rintro e w2 ⟨rfl, rfl⟩)
  have D := RSt.done S.out (.int .i64 5) (.int .i64 0) (.int .i64 0) (.string ⟨#[]⟩) (.slice none 0 0) #[.int .i64 5, .int .i64 0, .int .i64 0, .string ⟨#[]⟩, .slice none 0 0]
  refine bodyPost_ret (results_struct_tmp rfl _ _ w.heap.size _ _ _ _ rfl D.1 Tryz.underlying46 rfl infoVal5) rfl ?_
  exact ⟨_, _, _, _, _, _, _, rfl, D.2.2⟩
set_option maxRecDepth 100000 in
set_option maxHeartbeats 4000000 in
theorem read_take_no6 (n : Nat) (w : World) (lb B q i : Nat) (sl : Value) (l : List UInt8) (hL : LeftI w lb ((4096 : Int) - q)) (hB : BytesIn w 0 B sl l) (hb : B ≤ lb) (hi : i < l.length) (hl : l.length ≤ 1000000000000) (hq : q + 1 ≤ 4096) (hn : n ≤ 15) (k : UInt8) (r : List UInt8) (hs : l.drop i = k :: r) (hk : k.toNat = 6) (hf : ¬ (front r).2.2 = 0) :
    Calls Tryz.prog 76 #[sl, .int .i64 i, .int .i64 ((16 : Int) - n), .pointer (some ⟨lb, 0, none⟩)] w fun e w' => RdNo w lb e w' := by
  obtain ⟨a, c, rfl, _⟩ := id hB
  have hlb : lb < w.heap.size := (Array.getElem?_eq_some_iff.1 hL).1
  obtain ⟨z, hz⟩ : ∃ z : Int, (4096 : Int) - q = z := ⟨_, rfl⟩
  have hzq : ((4096 : Int) - ((q + 1 : Nat) : Int)) = z - 1 := by omega
  have hz0 : 1 ≤ z ∧ z ≤ 4096 := by omega
  rw [hz] at hL
  obtain ⟨W, hW⟩ : ∃ W, w.alloc (.cells zcells 46) = W := ⟨_, rfl⟩
  have bW : Below w.heap.size w W := by rw [← hW]; exact alloc_v (Below.refl _ _) _
  have zW : W.heap.size = w.heap.size + 1 := by rw [← hW]; simp
  have f1 : LeftI W lb z := (bW.block _ hlb).trans hL
  have x0 := cells_at f1 0 _ rfl
  have v0 := frozen_at f1 0
  have hsub : IntKind.i64.wrap (z - 1) = z - 1 := by rw [IntKind.wrap_i64]; omega
  have hzn : ¬ (z - 1 < 0) := by omega
  have hdn : ¬ ((16 : Int) < (16 : Int) - n) := by omega
  have hdl : (l.drop i).length = l.length - i := List.length_drop
  have hrl : r.length + 1 = l.length - i := by rw [hs] at hdl; simpa using hdl
  have hdc := List.drop_eq_getElem_cons hi
  rw [hs] at hdc
  obtain ⟨hk1, hr1⟩ := List.cons.inj hdc
  have HDR : Hid (l.drop (i + 1) = r) := hide hr1.symm
  have S := hide (rst_start w W lb z hL hW)
  have sz := (rst_start w W lb z hL hW).sz
  have GX : w.grownBy (W.setCell ⟨lb, 0, none⟩ (.int .i64 (z - 1))) (some lb) := grown_more (grown_of_below bW) (grown_set1 _ _ _ _)
  have HBX := hB.grownV GX hb (by omega)
  have hcell : ∃ b off, a = some ⟨b, off, none⟩ ∧ (W.setCell ⟨lb, 0, none⟩ (.int .i64 (z - 1))).cell? ⟨b, off + i, none⟩ = some (.int .u8 (k.toNat : Int)) := by
    rcases HBX.plain.elim with ⟨e, _⟩ | ⟨_, b, off, c', e, h7⟩
    · rw [e] at hi; simp at hi
    · simp only [Value.slice.injEq] at e
      refine ⟨b, off, e.1, ?_⟩
      have h8 := h7 i hi
      rw [← hk1] at h8
      exact h8
  obtain ⟨b, off, rfl, hcell⟩ := hcell
  have p0 : (0 : Int) ≤ (i : Int) := by omega
  have p1 : (i : Int) < (l.length : Int) := by omega
  have HTK := hide (take4_k ((W.setCell ⟨lb, 0, none⟩ (.int .i64 (z - 1))).alloc (.cells #[.int .i64 6, .int .i64 0, .int .i64 0, .string ⟨#[]⟩, .slice none 0 0] 46)) B (some ⟨b, off, none⟩) c l (i + 1) (hB.grownV (grown_more GX (grown_of_below (alloc_v (Below.refl _ _) _))) hb (by omega)) (by omega) hl)
  rw [HDR.out, show ((i + 1 : Nat) : Int) = (i : Int) + 1 by omega] at HTK
  rw [show tkI r (i + 1) = -1 from if_neg hf] at HTK
  generalize (front r).1 = fv at *
  clear hf
  rw [show (k.toNat : Int) = 6 by omega] at hcell
  clear hk
  have r0 := cells_at S.out.res 0 _ rfl
  have rz0 := frozen_at S.out.res 0
  have r1 := cells_at S.out.res 1 _ rfl
  have rz1 := frozen_at S.out.res 1
  have r2 := cells_at S.out.res 2 _ rfl
  have rz2 := frozen_at S.out.res 2
  have r3 := cells_at S.out.res 3 _ rfl
  have rz3 := frozen_at S.out.res 3
  have r4 := cells_at S.out.res 4 _ rfl
  have rz4 := frozen_at S.out.res 4
  have ZQ := hide hzq
  clear hL hB f1 GX hzq hdl hs hz HBX hdc hk1 hr1 hrl
  go_enter Tryz.func76, Tryz.ntmps76
  go_wp2_with (go_at_call 107; refine HTK.out.mono ?_; clear HTK; rintro e w2 ⟨rfl, rfl⟩)
  have D := RSt.done S.out (.int .i64 6) (.int .i64 0) (.int .i64 0) (.string ⟨#[]⟩) (.slice none 0 0) #[.int .i64 6, .int .i64 0, .int .i64 0, .string ⟨#[]⟩, .slice none 0 0]
  refine bodyPost_ret (results_struct_tmp rfl _ _ w.heap.size _ _ _ _ rfl D.1 Tryz.underlying46 rfl infoVal5) rfl ?_
  exact ⟨_, _, _, _, _, _, _, rfl, D.2.2⟩
set_option maxRecDepth 100000 in
set_option maxHeartbeats 4000000 in
theorem read_take_no7 (n : Nat) (w : World) (lb B q i : Nat) (sl : Value) (l : List UInt8) (hL : LeftI w lb ((4096 : Int) - q)) (hB : BytesIn w 0 B sl l) (hb : B ≤ lb) (hi : i < l.length) (hl : l.length ≤ 1000000000000) (hq : q + 1 ≤ 4096) (hn : n ≤ 15) (k : UInt8) (r : List UInt8) (hs : l.drop i = k :: r) (hk : k.toNat = 7) (hf : ¬ (front r).2.2 = 0) :
    Calls Tryz.prog 76 #[sl, .int .i64 i, .int .i64 ((16 : Int) - n), .pointer (some ⟨lb, 0, none⟩)] w fun e w' => RdNo w lb e w' := by
  obtain ⟨a, c, rfl, _⟩ := id hB
  have hlb : lb < w.heap.size := (Array.getElem?_eq_some_iff.1 hL).1
  obtain ⟨z, hz⟩ : ∃ z : Int, (4096 : Int) - q = z := ⟨_, rfl⟩
  have hzq : ((4096 : Int) - ((q + 1 : Nat) : Int)) = z - 1 := by omega
  have hz0 : 1 ≤ z ∧ z ≤ 4096 := by omega
  rw [hz] at hL
  obtain ⟨W, hW⟩ : ∃ W, w.alloc (.cells zcells 46) = W := ⟨_, rfl⟩
  have bW : Below w.heap.size w W := by rw [← hW]; exact alloc_v (Below.refl _ _) _
  have zW : W.heap.size = w.heap.size + 1 := by rw [← hW]; simp
  have f1 : LeftI W lb z := (bW.block _ hlb).trans hL
  have x0 := cells_at f1 0 _ rfl
  have v0 := frozen_at f1 0
  have hsub : IntKind.i64.wrap (z - 1) = z - 1 := by rw [IntKind.wrap_i64]; omega
  have hzn : ¬ (z - 1 < 0) := by omega
  have hdn : ¬ ((16 : Int) < (16 : Int) - n) := by omega
  have hdl : (l.drop i).length = l.length - i := List.length_drop
  have hrl : r.length + 1 = l.length - i := by rw [hs] at hdl; simpa using hdl
  have hdc := List.drop_eq_getElem_cons hi
  rw [hs] at hdc
  obtain ⟨hk1, hr1⟩ := List.cons.inj hdc
  have HDR : Hid (l.drop (i + 1) = r) := hide hr1.symm
  have S := hide (rst_start w W lb z hL hW)
  have sz := (rst_start w W lb z hL hW).sz
  have GX : w.grownBy (W.setCell ⟨lb, 0, none⟩ (.int .i64 (z - 1))) (some lb) := grown_more (grown_of_below bW) (grown_set1 _ _ _ _)
  have HBX := hB.grownV GX hb (by omega)
  have hcell : ∃ b off, a = some ⟨b, off, none⟩ ∧ (W.setCell ⟨lb, 0, none⟩ (.int .i64 (z - 1))).cell? ⟨b, off + i, none⟩ = some (.int .u8 (k.toNat : Int)) := by
    rcases HBX.plain.elim with ⟨e, _⟩ | ⟨_, b, off, c', e, h7⟩
    · rw [e] at hi; simp at hi
    · simp only [Value.slice.injEq] at e
      refine ⟨b, off, e.1, ?_⟩
      have h8 := h7 i hi
      rw [← hk1] at h8
      exact h8
  obtain ⟨b, off, rfl, hcell⟩ := hcell
  have p0 : (0 : Int) ≤ (i : Int) := by omega
  have p1 : (i : Int) < (l.length : Int) := by omega
  have HTK := hide (take4_k ((W.setCell ⟨lb, 0, none⟩ (.int .i64 (z - 1))).alloc (.cells #[.int .i64 7, .int .i64 0, .int .i64 0, .string ⟨#[]⟩, .slice none 0 0] 46)) B (some ⟨b, off, none⟩) c l (i + 1) (hB.grownV (grown_more GX (grown_of_below (alloc_v (Below.refl _ _) _))) hb (by omega)) (by omega) hl)
  rw [HDR.out, show ((i + 1 : Nat) : Int) = (i : Int) + 1 by omega] at HTK
  rw [show tkI r (i + 1) = -1 from if_neg hf] at HTK
  generalize (front r).1 = fv at *
  clear hf
  rw [show (k.toNat : Int) = 7 by omega] at hcell
  clear hk
  have r0 := cells_at S.out.res 0 _ rfl
  have rz0 := frozen_at S.out.res 0
  have r1 := cells_at S.out.res 1 _ rfl
  have rz1 := frozen_at S.out.res 1
  have r2 := cells_at S.out.res 2 _ rfl
  have rz2 := frozen_at S.out.res 2
  have r3 := cells_at S.out.res 3 _ rfl
  have rz3 := frozen_at S.out.res 3
  have r4 := cells_at S.out.res 4 _ rfl
  have rz4 := frozen_at S.out.res 4
  have ZQ := hide hzq
  clear hL hB f1 GX hzq hdl hs hz HBX hdc hk1 hr1 hrl
  go_enter Tryz.func76, Tryz.ntmps76
  go_wp2_with (go_at_call 107; refine HTK.out.mono ?_; clear HTK; rintro e w2 ⟨rfl, rfl⟩)
  have D := RSt.done S.out (.int .i64 7) (.int .i64 0) (.int .i64 0) (.string ⟨#[]⟩) (.slice none 0 0) #[.int .i64 7, .int .i64 0, .int .i64 0, .string ⟨#[]⟩, .slice none 0 0]
  refine bodyPost_ret (results_struct_tmp rfl _ _ w.heap.size _ _ _ _ rfl D.1 Tryz.underlying46 rfl infoVal5) rfl ?_
  exact ⟨_, _, _, _, _, _, _, rfl, D.2.2⟩
set_option maxRecDepth 100000 in
set_option maxHeartbeats 4000000 in
theorem read_int (n : Nat) (w : World) (lb B q i : Nat) (sl : Value) (l : List UInt8) (hL : LeftI w lb ((4096 : Int) - q)) (hB : BytesIn w 0 B sl l) (hb : B ≤ lb) (hi : i < l.length) (hl : l.length ≤ 1000000000000) (hq : q + 1 ≤ 4096) (hn : n ≤ 15) (k : UInt8) (r : List UInt8) (hs : l.drop i = k :: r) (hk : k.toNat = 2) (hf : (front r).2.2 = 0) :
    Calls Tryz.prog 76 #[sl, .int .i64 i, .int .i64 ((16 : Int) - n), .pointer (some ⟨lb, 0, none⟩)] w fun e w' => RdYes w lb (n + 1) ⟨2, unz (front r).1, 0, ⟨#[]⟩, []⟩ (i + 1 + (front r).2.1) (q + 1) e w' := by
  obtain ⟨a, c, rfl, _⟩ := id hB
  have hlb : lb < w.heap.size := (Array.getElem?_eq_some_iff.1 hL).1
  obtain ⟨z, hz⟩ : ∃ z : Int, (4096 : Int) - q = z := ⟨_, rfl⟩
  have hzq : ((4096 : Int) - ((q + 1 : Nat) : Int)) = z - 1 := by omega
  have hz0 : 1 ≤ z ∧ z ≤ 4096 := by omega
  rw [hz] at hL
  obtain ⟨W, hW⟩ : ∃ W, w.alloc (.cells zcells 46) = W := ⟨_, rfl⟩
  have bW : Below w.heap.size w W := by rw [← hW]; exact alloc_v (Below.refl _ _) _
  have zW : W.heap.size = w.heap.size + 1 := by rw [← hW]; simp
  have f1 : LeftI W lb z := (bW.block _ hlb).trans hL
  have x0 := cells_at f1 0 _ rfl
  have v0 := frozen_at f1 0
  have hsub : IntKind.i64.wrap (z - 1) = z - 1 := by rw [IntKind.wrap_i64]; omega
  have hzn : ¬ (z - 1 < 0) := by omega
  have hdn : ¬ ((16 : Int) < (16 : Int) - n) := by omega
  have hdl : (l.drop i).length = l.length - i := List.length_drop
  have hrl : r.length + 1 = l.length - i := by rw [hs] at hdl; simpa using hdl
  have hdc := List.drop_eq_getElem_cons hi
  rw [hs] at hdc
  obtain ⟨hk1, hr1⟩ := List.cons.inj hdc
  have HDR : Hid (l.drop (i + 1) = r) := hide hr1.symm
  have S := hide (rst_start w W lb z hL hW)
  have sz := (rst_start w W lb z hL hW).sz
  have GX : w.grownBy (W.setCell ⟨lb, 0, none⟩ (.int .i64 (z - 1))) (some lb) := grown_more (grown_of_below bW) (grown_set1 _ _ _ _)
  have HBX := hB.grownV GX hb (by omega)
  have hcell : ∃ b off, a = some ⟨b, off, none⟩ ∧ (W.setCell ⟨lb, 0, none⟩ (.int .i64 (z - 1))).cell? ⟨b, off + i, none⟩ = some (.int .u8 (k.toNat : Int)) := by
    rcases HBX.plain.elim with ⟨e, _⟩ | ⟨_, b, off, c', e, h7⟩
    · rw [e] at hi; simp at hi
    · simp only [Value.slice.injEq] at e
      refine ⟨b, off, e.1, ?_⟩
      have h8 := h7 i hi
      rw [← hk1] at h8
      exact h8
  obtain ⟨b, off, rfl, hcell⟩ := hcell
  have p0 : (0 : Int) ≤ (i : Int) := by omega
  have p1 : (i : Int) < (l.length : Int) := by omega
  have HTK := hide (take4_k ((W.setCell ⟨lb, 0, none⟩ (.int .i64 (z - 1))).alloc (.cells #[.int .i64 2, .int .i64 0, .int .i64 0, .string ⟨#[]⟩, .slice none 0 0] 46)) B (some ⟨b, off, none⟩) c l (i + 1) (hB.grownV (grown_more GX (grown_of_below (alloc_v (Below.refl _ _) _))) hb (by omega)) (by omega) hl)
  rw [HDR.out, show ((i + 1 : Nat) : Int) = (i : Int) + 1 by omega] at HTK
  rw [show tkI r (i + 1) = ((i + 1 + (front r).2.1 : Nat) : Int) from if_pos hf] at HTK
  have hfl := front_lt r
  have hff := front_fits r
  clear hf
  have hpp : i + 1 + (front r).2.1 ≤ l.length := by omega
  generalize (front r).1 = fv at *
  generalize hpq : i + 1 + (front r).2.1 = pq at *
  rw [show (k.toNat : Int) = 2 by omega] at hcell
  clear hk
  have r0 := cells_at S.out.res 0 _ rfl
  have rz0 := frozen_at S.out.res 0
  have r1 := cells_at S.out.res 1 _ rfl
  have rz1 := frozen_at S.out.res 1
  have r2 := cells_at S.out.res 2 _ rfl
  have rz2 := frozen_at S.out.res 2
  have r3 := cells_at S.out.res 3 _ rfl
  have rz3 := frozen_at S.out.res 3
  have r4 := cells_at S.out.res 4 _ rfl
  have rz4 := frozen_at S.out.res 4
  have ZQ := hide hzq
  clear hL hB f1 GX hzq hdl hs hz HBX hdc hk1 hr1 hrl
  go_enter Tryz.func76, Tryz.ntmps76
  go_wp2_with (first
    | (go_at_call 107; refine HTK.out.mono ?_; clear HTK; rintro e w2 ⟨rfl, rfl⟩)
    | (go_at_call 108; refine (unzig_k fv hfl _).mono ?_; rintro e w3 ⟨rfl, rfl⟩))
  have D := RSt.done S.out (.int .i64 2) (.int .i64 (unz fv)) (.int .i64 0) (.string ⟨#[]⟩) (.slice none 0 0) #[.int .i64 2, .int .i64 (unz fv), .int .i64 0, .string ⟨#[]⟩, .slice none 0 0]
  refine bodyPost_ret (results_struct_tmp rfl _ _ w.heap.size _ _ _ _ rfl D.1 Tryz.underlying46 rfl infoVal5) rfl ?_
  refine ⟨.slice none 0 0, rfl, itemsIn_nil _ _ _, ?_, D.2.2⟩
  rw [ZQ.out]
  exact D.2.1
set_option maxRecDepth 100000 in
set_option maxHeartbeats 4000000 in
theorem read_gauss_no (n : Nat) (w : World) (lb B q i : Nat) (sl : Value) (l : List UInt8) (hL : LeftI w lb ((4096 : Int) - q)) (hB : BytesIn w 0 B sl l) (hb : B ≤ lb) (hi : i < l.length) (hl : l.length ≤ 1000000000000) (hq : q + 1 ≤ 4096) (hn : n ≤ 15) (k : UInt8) (r : List UInt8) (hs : l.drop i = k :: r) (hk : k.toNat = 3) (hf : (front r).2.2 = 0) (hf2 : ¬ (front (r.drop (front r).2.1)).2.2 = 0) :
    Calls Tryz.prog 76 #[sl, .int .i64 i, .int .i64 ((16 : Int) - n), .pointer (some ⟨lb, 0, none⟩)] w fun e w' => RdNo w lb e w' := by
  obtain ⟨a, c, rfl, _⟩ := id hB
  have hlb : lb < w.heap.size := (Array.getElem?_eq_some_iff.1 hL).1
  obtain ⟨z, hz⟩ : ∃ z : Int, (4096 : Int) - q = z := ⟨_, rfl⟩
  have hzq : ((4096 : Int) - ((q + 1 : Nat) : Int)) = z - 1 := by omega
  have hz0 : 1 ≤ z ∧ z ≤ 4096 := by omega
  rw [hz] at hL
  obtain ⟨W, hW⟩ : ∃ W, w.alloc (.cells zcells 46) = W := ⟨_, rfl⟩
  have bW : Below w.heap.size w W := by rw [← hW]; exact alloc_v (Below.refl _ _) _
  have zW : W.heap.size = w.heap.size + 1 := by rw [← hW]; simp
  have f1 : LeftI W lb z := (bW.block _ hlb).trans hL
  have x0 := cells_at f1 0 _ rfl
  have v0 := frozen_at f1 0
  have hsub : IntKind.i64.wrap (z - 1) = z - 1 := by rw [IntKind.wrap_i64]; omega
  have hzn : ¬ (z - 1 < 0) := by omega
  have hdn : ¬ ((16 : Int) < (16 : Int) - n) := by omega
  have hdl : (l.drop i).length = l.length - i := List.length_drop
  have hrl : r.length + 1 = l.length - i := by rw [hs] at hdl; simpa using hdl
  have hdc := List.drop_eq_getElem_cons hi
  rw [hs] at hdc
  obtain ⟨hk1, hr1⟩ := List.cons.inj hdc
  have HDR : Hid (l.drop (i + 1) = r) := hide hr1.symm
  have S := hide (rst_start w W lb z hL hW)
  have sz := (rst_start w W lb z hL hW).sz
  have GX : w.grownBy (W.setCell ⟨lb, 0, none⟩ (.int .i64 (z - 1))) (some lb) := grown_more (grown_of_below bW) (grown_set1 _ _ _ _)
  have HBX := hB.grownV GX hb (by omega)
  have hcell : ∃ b off, a = some ⟨b, off, none⟩ ∧ (W.setCell ⟨lb, 0, none⟩ (.int .i64 (z - 1))).cell? ⟨b, off + i, none⟩ = some (.int .u8 (k.toNat : Int)) := by
    rcases HBX.plain.elim with ⟨e, _⟩ | ⟨_, b, off, c', e, h7⟩
    · rw [e] at hi; simp at hi
    · simp only [Value.slice.injEq] at e
      refine ⟨b, off, e.1, ?_⟩
      have h8 := h7 i hi
      rw [← hk1] at h8
      exact h8
  obtain ⟨b, off, rfl, hcell⟩ := hcell
  have p0 : (0 : Int) ≤ (i : Int) := by omega
  have p1 : (i : Int) < (l.length : Int) := by omega
  have HTK := hide (take4_k ((W.setCell ⟨lb, 0, none⟩ (.int .i64 (z - 1))).alloc (.cells #[.int .i64 3, .int .i64 0, .int .i64 0, .string ⟨#[]⟩, .slice none 0 0] 46)) B (some ⟨b, off, none⟩) c l (i + 1) (hB.grownV (grown_more GX (grown_of_below (alloc_v (Below.refl _ _) _))) hb (by omega)) (by omega) hl)
  rw [HDR.out, show ((i + 1 : Nat) : Int) = (i : Int) + 1 by omega] at HTK
  rw [show tkI r (i + 1) = ((i + 1 + (front r).2.1 : Nat) : Int) from if_pos hf] at HTK
  have hfl := front_lt r
  have hff := front_fits r
  clear hf
  obtain ⟨r2, hr2⟩ : ∃ r2, r.drop (front r).2.1 = r2 := ⟨_, rfl⟩
  rw [hr2] at hf2
  have HDR2 : Hid (l.drop (i + 1 + (front r).2.1) = r2) := hide (by rw [← hr2, ← HDR.out, List.drop_drop])
  have hpp : i + 1 + (front r).2.1 ≤ l.length := by omega
  generalize (front r).1 = fv at *
  generalize hpq : i + 1 + (front r).2.1 = pq at *
  have HTK2 := hide (take4_k ((W.setCell ⟨lb, 0, none⟩ (.int .i64 (z - 1))).alloc (.cells #[.int .i64 3, .int .i64 (unz fv), .int .i64 0, .string ⟨#[]⟩, .slice none 0 0] 46)) B (some ⟨b, off, none⟩) c l pq (hB.grownV (grown_more GX (grown_of_below (alloc_v (Below.refl _ _) _))) hb (by omega)) (by omega) hl)
  rw [HDR2.out] at HTK2
  rw [show tkI r2 pq = -1 from if_neg hf2] at HTK2
  have hfl2 := front_lt r2
  generalize (front r2).1 = fw at *
  clear hf2
  have HU1 := hide (unzig_k fv hfl ((W.setCell ⟨lb, 0, none⟩ (.int .i64 (z - 1))).alloc (.cells #[.int .i64 3, .int .i64 0, .int .i64 0, .string ⟨#[]⟩, .slice none 0 0] 46)))
  have HU2 := hide (fun U => unzig_k fw hfl2 U)
  rw [show (k.toNat : Int) = 3 by omega] at hcell
  clear hk
  have r0 := cells_at S.out.res 0 _ rfl
  have rz0 := frozen_at S.out.res 0
  have r1 := cells_at S.out.res 1 _ rfl
  have rz1 := frozen_at S.out.res 1
  have r2 := cells_at S.out.res 2 _ rfl
  have rz2 := frozen_at S.out.res 2
  have r3 := cells_at S.out.res 3 _ rfl
  have rz3 := frozen_at S.out.res 3
  have r4 := cells_at S.out.res 4 _ rfl
  have rz4 := frozen_at S.out.res 4
  have ZQ := hide hzq
  clear hL hB f1 GX hzq hdl hs hz HBX hdc hk1 hr1 hrl
  go_enter Tryz.func76, Tryz.ntmps76
  go_wp2_with (first
    | (go_at_call 107; with_reducible refine HTK.out.mono ?_; clear HTK; rintro e w2 ⟨rfl, rfl⟩)
    | (go_at_call 107; with_reducible refine HTK2.out.mono ?_; clear HTK2; rintro e w4 ⟨rfl, rfl⟩)
    | (go_at_call 108; refine HU1.out.mono ?_; clear HU1; rintro e w3 ⟨rfl, rfl⟩)
    | (go_at_call 108; refine (HU2.out _).mono ?_; clear HU2; rintro e w5 ⟨rfl, rfl⟩))
  have D := RSt.done S.out (.int .i64 3) (.int .i64 (unz fv)) (.int .i64 (unz fw)) (.string ⟨#[]⟩) (.slice none 0 0) #[.int .i64 3, .int .i64 (unz fv), .int .i64 (unz fw), .string ⟨#[]⟩, .slice none 0 0]
  refine bodyPost_ret (results_struct_tmp rfl _ _ w.heap.size _ _ _ _ rfl D.1 Tryz.underlying46 rfl infoVal5) rfl ?_
  exact ⟨_, _, _, _, _, _, _, rfl, D.2.2⟩
set_option maxRecDepth 100000 in
set_option maxHeartbeats 4000000 in
theorem read_gauss (n : Nat) (w : World) (lb B q i : Nat) (sl : Value) (l : List UInt8) (hL : LeftI w lb ((4096 : Int) - q)) (hB : BytesIn w 0 B sl l) (hb : B ≤ lb) (hi : i < l.length) (hl : l.length ≤ 1000000000000) (hq : q + 1 ≤ 4096) (hn : n ≤ 15) (k : UInt8) (r : List UInt8) (hs : l.drop i = k :: r) (hk : k.toNat = 3) (hf : (front r).2.2 = 0) (hf2 : (front (r.drop (front r).2.1)).2.2 = 0) :
    Calls Tryz.prog 76 #[sl, .int .i64 i, .int .i64 ((16 : Int) - n), .pointer (some ⟨lb, 0, none⟩)] w fun e w' => RdYes w lb (n + 1) ⟨3, unz (front r).1, unz (front (r.drop (front r).2.1)).1, ⟨#[]⟩, []⟩ (i + 1 + (front r).2.1 + (front (r.drop (front r).2.1)).2.1) (q + 1) e w' := by
  obtain ⟨a, c, rfl, _⟩ := id hB
  have hlb : lb < w.heap.size := (Array.getElem?_eq_some_iff.1 hL).1
  obtain ⟨z, hz⟩ : ∃ z : Int, (4096 : Int) - q = z := ⟨_, rfl⟩
  have hzq : ((4096 : Int) - ((q + 1 : Nat) : Int)) = z - 1 := by omega
  have hz0 : 1 ≤ z ∧ z ≤ 4096 := by omega
  rw [hz] at hL
  obtain ⟨W, hW⟩ : ∃ W, w.alloc (.cells zcells 46) = W := ⟨_, rfl⟩
  have bW : Below w.heap.size w W := by rw [← hW]; exact alloc_v (Below.refl _ _) _
  have zW : W.heap.size = w.heap.size + 1 := by rw [← hW]; simp
  have f1 : LeftI W lb z := (bW.block _ hlb).trans hL
  have x0 := cells_at f1 0 _ rfl
  have v0 := frozen_at f1 0
  have hsub : IntKind.i64.wrap (z - 1) = z - 1 := by rw [IntKind.wrap_i64]; omega
  have hzn : ¬ (z - 1 < 0) := by omega
  have hdn : ¬ ((16 : Int) < (16 : Int) - n) := by omega
  have hdl : (l.drop i).length = l.length - i := List.length_drop
  have hrl : r.length + 1 = l.length - i := by rw [hs] at hdl; simpa using hdl
  have hdc := List.drop_eq_getElem_cons hi
  rw [hs] at hdc
  obtain ⟨hk1, hr1⟩ := List.cons.inj hdc
  have HDR : Hid (l.drop (i + 1) = r) := hide hr1.symm
  have S := hide (rst_start w W lb z hL hW)
  have sz := (rst_start w W lb z hL hW).sz
  have GX : w.grownBy (W.setCell ⟨lb, 0, none⟩ (.int .i64 (z - 1))) (some lb) := grown_more (grown_of_below bW) (grown_set1 _ _ _ _)
  have HBX := hB.grownV GX hb (by omega)
  have hcell : ∃ b off, a = some ⟨b, off, none⟩ ∧ (W.setCell ⟨lb, 0, none⟩ (.int .i64 (z - 1))).cell? ⟨b, off + i, none⟩ = some (.int .u8 (k.toNat : Int)) := by
    rcases HBX.plain.elim with ⟨e, _⟩ | ⟨_, b, off, c', e, h7⟩
    · rw [e] at hi; simp at hi
    · simp only [Value.slice.injEq] at e
      refine ⟨b, off, e.1, ?_⟩
      have h8 := h7 i hi
      rw [← hk1] at h8
      exact h8
  obtain ⟨b, off, rfl, hcell⟩ := hcell
  have p0 : (0 : Int) ≤ (i : Int) := by omega
  have p1 : (i : Int) < (l.length : Int) := by omega
  have HTK := hide (take4_k ((W.setCell ⟨lb, 0, none⟩ (.int .i64 (z - 1))).alloc (.cells #[.int .i64 3, .int .i64 0, .int .i64 0, .string ⟨#[]⟩, .slice none 0 0] 46)) B (some ⟨b, off, none⟩) c l (i + 1) (hB.grownV (grown_more GX (grown_of_below (alloc_v (Below.refl _ _) _))) hb (by omega)) (by omega) hl)
  rw [HDR.out, show ((i + 1 : Nat) : Int) = (i : Int) + 1 by omega] at HTK
  rw [show tkI r (i + 1) = ((i + 1 + (front r).2.1 : Nat) : Int) from if_pos hf] at HTK
  have hfl := front_lt r
  have hff := front_fits r
  clear hf
  obtain ⟨r2, hr2⟩ : ∃ r2, r.drop (front r).2.1 = r2 := ⟨_, rfl⟩
  rw [hr2] at hf2 ⊢
  have HDR2 : Hid (l.drop (i + 1 + (front r).2.1) = r2) := hide (by rw [← hr2, ← HDR.out, List.drop_drop])
  have hpp : i + 1 + (front r).2.1 ≤ l.length := by omega
  generalize (front r).1 = fv at *
  generalize hpq : i + 1 + (front r).2.1 = pq at *
  have HTK2 := hide (take4_k ((W.setCell ⟨lb, 0, none⟩ (.int .i64 (z - 1))).alloc (.cells #[.int .i64 3, .int .i64 (unz fv), .int .i64 0, .string ⟨#[]⟩, .slice none 0 0] 46)) B (some ⟨b, off, none⟩) c l pq (hB.grownV (grown_more GX (grown_of_below (alloc_v (Below.refl _ _) _))) hb (by omega)) (by omega) hl)
  rw [HDR2.out] at HTK2
  rw [show tkI r2 pq = ((pq + (front r2).2.1 : Nat) : Int) from if_pos hf2] at HTK2
  have hfl2 := front_lt r2
  have hff2 := front_fits r2
  generalize (front r2).1 = fw at *
  generalize hpq2 : pq + (front r2).2.1 = pq2 at *
  clear hf2
  have HU1 := hide (unzig_k fv hfl ((W.setCell ⟨lb, 0, none⟩ (.int .i64 (z - 1))).alloc (.cells #[.int .i64 3, .int .i64 0, .int .i64 0, .string ⟨#[]⟩, .slice none 0 0] 46)))
  have HU2 := hide (fun U => unzig_k fw hfl2 U)
  rw [show (k.toNat : Int) = 3 by omega] at hcell
  clear hk
  have r0 := cells_at S.out.res 0 _ rfl
  have rz0 := frozen_at S.out.res 0
  have r1 := cells_at S.out.res 1 _ rfl
  have rz1 := frozen_at S.out.res 1
  have r2 := cells_at S.out.res 2 _ rfl
  have rz2 := frozen_at S.out.res 2
  have r3 := cells_at S.out.res 3 _ rfl
  have rz3 := frozen_at S.out.res 3
  have r4 := cells_at S.out.res 4 _ rfl
  have rz4 := frozen_at S.out.res 4
  have ZQ := hide hzq
  clear hL hB f1 GX hzq hdl hs hz HBX hdc hk1 hr1 hrl
  go_enter Tryz.func76, Tryz.ntmps76
  go_wp2_with (first
    | (go_at_call 107; with_reducible refine HTK.out.mono ?_; clear HTK; rintro e w2 ⟨rfl, rfl⟩)
    | (go_at_call 107; with_reducible refine HTK2.out.mono ?_; clear HTK2; rintro e w4 ⟨rfl, rfl⟩)
    | (go_at_call 108; refine HU1.out.mono ?_; clear HU1; rintro e w3 ⟨rfl, rfl⟩)
    | (go_at_call 108; refine (HU2.out _).mono ?_; clear HU2; rintro e w5 ⟨rfl, rfl⟩))
  have D := RSt.done S.out (.int .i64 3) (.int .i64 (unz fv)) (.int .i64 (unz fw)) (.string ⟨#[]⟩) (.slice none 0 0) #[.int .i64 3, .int .i64 (unz fv), .int .i64 (unz fw), .string ⟨#[]⟩, .slice none 0 0]
  refine bodyPost_ret (results_struct_tmp rfl _ _ w.heap.size _ _ _ _ rfl D.1 Tryz.underlying46 rfl infoVal5) rfl ?_
  refine ⟨.slice none 0 0, rfl, itemsIn_nil _ _ _, ?_, D.2.2⟩
  rw [ZQ.out]
  exact D.2.1
set_option maxRecDepth 100000 in
set_option maxHeartbeats 4000000 in
theorem read_sym_no (n : Nat) (w : World) (lb B q i : Nat) (sl : Value) (l : List UInt8) (hL : LeftI w lb ((4096 : Int) - q)) (hB : BytesIn w 0 B sl l) (hb : B ≤ lb) (hi : i < l.length) (hl : l.length ≤ 1000000000000) (hq : q + 1 ≤ 4096) (hn : n ≤ 15) (k : UInt8) (r : List UInt8) (hs : l.drop i = k :: r) (hk : k.toNat = 4) (hf : (front r).2.2 = 0) (hlong : ¬ (front r).1 ≤ r.length - (front r).2.1) :
    Calls Tryz.prog 76 #[sl, .int .i64 i, .int .i64 ((16 : Int) - n), .pointer (some ⟨lb, 0, none⟩)] w fun e w' => RdNo w lb e w' := by
  obtain ⟨a, c, rfl, _⟩ := id hB
  have hlb : lb < w.heap.size := (Array.getElem?_eq_some_iff.1 hL).1
  obtain ⟨z, hz⟩ : ∃ z : Int, (4096 : Int) - q = z := ⟨_, rfl⟩
  have hzq : ((4096 : Int) - ((q + 1 : Nat) : Int)) = z - 1 := by omega
  have hz0 : 1 ≤ z ∧ z ≤ 4096 := by omega
  rw [hz] at hL
  obtain ⟨W, hW⟩ : ∃ W, w.alloc (.cells zcells 46) = W := ⟨_, rfl⟩
  have bW : Below w.heap.size w W := by rw [← hW]; exact alloc_v (Below.refl _ _) _
  have zW : W.heap.size = w.heap.size + 1 := by rw [← hW]; simp
  have f1 : LeftI W lb z := (bW.block _ hlb).trans hL
  have x0 := cells_at f1 0 _ rfl
  have v0 := frozen_at f1 0
  have hsub : IntKind.i64.wrap (z - 1) = z - 1 := by rw [IntKind.wrap_i64]; omega
  have hzn : ¬ (z - 1 < 0) := by omega
  have hdn : ¬ ((16 : Int) < (16 : Int) - n) := by omega
  have hdl : (l.drop i).length = l.length - i := List.length_drop
  have hrl : r.length + 1 = l.length - i := by rw [hs] at hdl; simpa using hdl
  have hdc := List.drop_eq_getElem_cons hi
  rw [hs] at hdc
  obtain ⟨hk1, hr1⟩ := List.cons.inj hdc
  have HDR : Hid (l.drop (i + 1) = r) := hide hr1.symm
  have S := hide (rst_start w W lb z hL hW)
  have sz := (rst_start w W lb z hL hW).sz
  have GX : w.grownBy (W.setCell ⟨lb, 0, none⟩ (.int .i64 (z - 1))) (some lb) := grown_more (grown_of_below bW) (grown_set1 _ _ _ _)
  have HBX := hB.grownV GX hb (by omega)
  have hcell : ∃ b off, a = some ⟨b, off, none⟩ ∧ (W.setCell ⟨lb, 0, none⟩ (.int .i64 (z - 1))).cell? ⟨b, off + i, none⟩ = some (.int .u8 (k.toNat : Int)) := by
    rcases HBX.plain.elim with ⟨e, _⟩ | ⟨_, b, off, c', e, h7⟩
    · rw [e] at hi; simp at hi
    · simp only [Value.slice.injEq] at e
      refine ⟨b, off, e.1, ?_⟩
      have h8 := h7 i hi
      rw [← hk1] at h8
      exact h8
  obtain ⟨b, off, rfl, hcell⟩ := hcell
  have p0 : (0 : Int) ≤ (i : Int) := by omega
  have p1 : (i : Int) < (l.length : Int) := by omega
  have HTK := hide (take4_k ((W.setCell ⟨lb, 0, none⟩ (.int .i64 (z - 1))).alloc (.cells #[.int .i64 4, .int .i64 0, .int .i64 0, .string ⟨#[]⟩, .slice none 0 0] 46)) B (some ⟨b, off, none⟩) c l (i + 1) (hB.grownV (grown_more GX (grown_of_below (alloc_v (Below.refl _ _) _))) hb (by omega)) (by omega) hl)
  rw [HDR.out, show ((i + 1 : Nat) : Int) = (i : Int) + 1 by omega] at HTK
  rw [show tkI r (i + 1) = ((i + 1 + (front r).2.1 : Nat) : Int) from if_pos hf] at HTK
  have hfl := front_lt r
  have hff := front_fits r
  clear hf
  have hrl2 : l.length - (i + 1 + (front r).2.1) < (front r).1 := by omega
  clear hlong
  have hpp : i + 1 + (front r).2.1 ≤ l.length := by omega
  generalize (front r).1 = fv at *
  generalize hpq : i + 1 + (front r).2.1 = pq at *
  have p4 : IntKind.u64.wrap ((l.length : Int) - (pq : Int)) = (l.length : Int) - (pq : Int) := by rw [IntKind.wrap_u64]; omega
  have p5 : (l.length : Int) - (pq : Int) < (fv : Int) := by omega
  rw [show (k.toNat : Int) = 4 by omega] at hcell
  clear hk
  have r0 := cells_at S.out.res 0 _ rfl
  have rz0 := frozen_at S.out.res 0
  have r1 := cells_at S.out.res 1 _ rfl
  have rz1 := frozen_at S.out.res 1
  have r2 := cells_at S.out.res 2 _ rfl
  have rz2 := frozen_at S.out.res 2
  have r3 := cells_at S.out.res 3 _ rfl
  have rz3 := frozen_at S.out.res 3
  have r4 := cells_at S.out.res 4 _ rfl
  have rz4 := frozen_at S.out.res 4
  have ZQ := hide hzq
  clear hL hB f1 GX hzq hdl hs hz HBX hdc hk1 hr1 hrl
  go_enter Tryz.func76, Tryz.ntmps76
  go_wp2_with (go_at_call 107; refine HTK.out.mono ?_; clear HTK; rintro e w2 ⟨rfl, rfl⟩)
  have D := RSt.done S.out (.int .i64 4) (.int .i64 0) (.int .i64 0) (.string ⟨#[]⟩) (.slice none 0 0) #[.int .i64 4, .int .i64 0, .int .i64 0, .string ⟨#[]⟩, .slice none 0 0]
  refine bodyPost_ret (results_struct_tmp rfl _ _ w.heap.size _ _ _ _ rfl D.1 Tryz.underlying46 rfl infoVal5) rfl ?_
  exact ⟨_, _, _, _, _, _, _, rfl, D.2.2⟩
end Go.Proofs.YtcedpdneanjbkaaGreatDoor

/- The reference's read: names, rows of items, and all of it. -/
namespace Go.Proofs.YtcedpdneanjbkaaGreatDoor
open Go.RowKit

/-- The value is laid into the result, in any world. -/
theorem rd_fin {w X : World} {lb : Nat} (hr : X.heap[w.heap.size]? = some (.cells zcells 46 (0, 0))) (hg : w.grownBy X (some lb)) (x0 x1 x2 x3 x4 : Value) :
    (((((X.setCell ⟨w.heap.size, 0, none⟩ x0).setCell ⟨w.heap.size, 1, none⟩ x1).setCell ⟨w.heap.size, 2, none⟩ x2).setCell ⟨w.heap.size, 3, none⟩ x3).setCell ⟨w.heap.size, 4, none⟩ x4).heap[w.heap.size]? = some (.cells #[x0, x1, x2, x3, x4] 46 (0, 0)) ∧
    w.grownBy (((((X.setCell ⟨w.heap.size, 0, none⟩ x0).setCell ⟨w.heap.size, 1, none⟩ x1).setCell ⟨w.heap.size, 2, none⟩ x2).setCell ⟨w.heap.size, 3, none⟩ x3).setCell ⟨w.heap.size, 4, none⟩ x4) (some lb) ∧
    (∀ b, b ≠ w.heap.size → (((((X.setCell ⟨w.heap.size, 0, none⟩ x0).setCell ⟨w.heap.size, 1, none⟩ x1).setCell ⟨w.heap.size, 2, none⟩ x2).setCell ⟨w.heap.size, 3, none⟩ x3).setCell ⟨w.heap.size, 4, none⟩ x4).heap[b]? = X.heap[b]?) ∧
    (((((X.setCell ⟨w.heap.size, 0, none⟩ x0).setCell ⟨w.heap.size, 1, none⟩ x1).setCell ⟨w.heap.size, 2, none⟩ x2).setCell ⟨w.heap.size, 3, none⟩ x3).setCell ⟨w.heap.size, 4, none⟩ x4).heap.size = X.heap.size := by
  have g1 := heap_setCell_same _ _ 0 _ _ x0 hr
  have g2 := heap_setCell_same _ _ 1 _ _ x1 g1
  have g3 := heap_setCell_same _ _ 2 _ _ x2 g2
  have g4 := heap_setCell_same _ _ 3 _ _ x3 g3
  have g5 := heap_setCell_same _ _ 4 _ _ x4 g4
  refine ⟨g5, grown_far (grown_far (grown_far (grown_far (grown_far hg (Nat.le_refl _)) (Nat.le_refl _)) (Nat.le_refl _)) (Nat.le_refl _)) (Nat.le_refl _), fun b hb => ?_, by simp [World.setCell]⟩
  rw [Below.heap_setCell _ _ _ _ hb, Below.heap_setCell _ _ _ _ hb, Below.heap_setCell _ _ _ _ hb, Below.heap_setCell _ _ _ _ hb, Below.heap_setCell _ _ _ _ hb]
theorem headM_okL {l : List UInt8} {v : Vl} {k : Nat} {r : List UInt8} (h : headM l = some (v, k, r)) (hl : l.length ≤ 1048576) : v.ok ∧ v.items = [] ∧ r.length ≤ l.length ∧ k < 18446744073709551616 := by
  have e0 : (⟨#[]⟩ : ByteArray).size ≤ 1048576 := by decide
  cases l with
  | nil => simp [headM] at h
  | cons c t =>
    simp only [List.length_cons] at hl
    simp only [headM] at h
    have hf := front_lt t
    split at h
    · cases t with
      | nil => simp at h
      | cons x t =>
        simp only [Option.some.injEq, Prod.mk.injEq] at h
        obtain ⟨rfl, rfl, rfl⟩ := h
        have := x.toNat_lt
        exact ⟨ok_mk e0 ⟨by omega, by omega⟩ ⟨by omega, by omega⟩, rfl, by simp; omega, by omega⟩
    · split at h
      · split at h
        · simp only [Option.some.injEq, Prod.mk.injEq] at h
          obtain ⟨rfl, rfl, rfl⟩ := h
          exact ⟨ok_mk e0 (unz_ok _ hf) ⟨by omega, by omega⟩, rfl, by simp; omega, by omega⟩
        · cases h
      · split at h
        · split at h
          · split at h
            · simp only [Option.some.injEq, Prod.mk.injEq] at h
              obtain ⟨rfl, rfl, rfl⟩ := h
              exact ⟨ok_mk e0 (unz_ok _ hf) (unz_ok _ (front_lt _)), rfl, by simp; omega, by omega⟩
            · cases h
          · cases h
        · split at h
          · split at h
            · simp only [Option.some.injEq, Prod.mk.injEq] at h
              obtain ⟨rfl, rfl, rfl⟩ := h
              refine ⟨ok_mk ?_ ⟨by omega, by omega⟩ ⟨by omega, by omega⟩, rfl, by have := textRest_le t; simp; omega, by omega⟩
              have : (bytesOf (textOf t)).size = (textOf t).length := by unfold bytesOf; simp [ByteArray.size]
              show (bytesOf (textOf t)).size ≤ 1048576
              rw [this]
              unfold textOf
              split
              · simp; omega
              · simp
            · cases h
          · split at h
            · split at h
              · simp only [Option.some.injEq, Prod.mk.injEq] at h
                obtain ⟨rfl, rfl, rfl⟩ := h
                exact ⟨ok_mk e0 ⟨by omega, by omega⟩ ⟨by omega, by omega⟩, rfl, by simp; omega, hf⟩
              · cases h
            · simp only [Option.some.injEq, Prod.mk.injEq] at h
              obtain ⟨rfl, rfl, rfl⟩ := h
              exact ⟨ok_mk e0 ⟨by omega, by omega⟩ ⟨by omega, by omega⟩, rfl, by simp, by omega⟩
theorem itsM_okR {l : List UInt8} {g : Nat → Nat → Option (Vl × Nat × Nat)} (hg : ∀ {p q v p' q'}, p ≤ l.length → g p q = some (v, p', q') → v.ok ∧ p' ≤ l.length ∧ q < q' ∧ q' ≤ 4096) (n : Nat) {p q : Nat} {xs : List Vl} {p' q' : Nat} (hp : p ≤ l.length) (hq : q ≤ 4096) (h : itsM g n p q = some (xs, p', q')) : p' ≤ l.length ∧ q + n ≤ q' ∧ q' ≤ 4096 ∧ xs.length = n :=
  itsM_le (l := l) (fun hp h => (hg hp h).2) n hp hq h
theorem readM_ok (l : List UInt8) (hl : l.length ≤ 1048576) : ∀ (n : Nat) {p q : Nat} {v : Vl} {p' q' : Nat}, p ≤ l.length → readM l n p q = some (v, p', q') → v.ok ∧ p' ≤ l.length ∧ q < q' ∧ q' ≤ 4096
  | 0, _, _, _, _, _, _, h => by simp [readM] at h
  | n + 1, p, q, v, p', q', hp, h => by
    simp only [readM] at h
    split at h
    · cases h
    · rename_i hq
      cases e : headM (l.drop p) with
      | none => rw [e] at h; cases h
      | some t =>
        obtain ⟨u, k, r⟩ := t
        rw [e] at h
        simp only at h
        have hsz : (l.drop p).length = l.length - p := List.length_drop
        have ho := headM_okL e (by omega)
        split at h
        · cases h
        cases e2 : itsM (readM l n) k (p + ((l.drop p).length - r.length)) (q + 1) with
        | none => rw [e2] at h; cases h
        | some t =>
          obtain ⟨ys, p2, q2⟩ := t
          rw [e2] at h
          simp only [Option.some.injEq, Prod.mk.injEq] at h
          obtain ⟨rfl, rfl, rfl⟩ := h
          obtain ⟨k1, k2, k3, k4⟩ := itsM_okR (l := l) (fun hp h => readM_ok l hl n hp h) k (by omega) (by omega) e2
          exact ⟨ho.1, k1, by omega, k3⟩
/-- What read answers. -/
def RdR (w : World) (lb n : Nat) (R : Option (Vl × Nat × Nat)) (e : Ending) (w' : World) : Prop := match R with
  | none => RdNo w lb e w'
  | some (v, p', q') => RdYes w lb n v p' q' e w'
def ReadC (l : List UInt8) (n : Nat) : Prop := ∀ (w : World) (lb B q i : Nat) (sl : Value), LeftI w lb ((4096 : Int) - q) → BytesIn w 0 B sl l → B ≤ lb → i ≤ l.length → l.length ≤ 1048576 → q ≤ 4096 → n ≤ 16 →
  Calls Tryz.prog 76 #[sl, .int .i64 i, .int .i64 ((17 : Int) - n), .pointer (some ⟨lb, 0, none⟩)] w fun e w' => RdR w lb n (readM l n i q) e w'
def itsJ (xs : List Vl) : Option (List Vl × Nat × Nat) → Option (List Vl × Nat × Nat)
  | none => none
  | some (ys, t) => some (xs ++ ys, t)
/-- What is answered behind the items. -/
def RdI (w : World) (lb n : Nat) (k : Int) (R : Option (List Vl × Nat × Nat)) (e : Ending) (w' : World) : Prop := match R with
  | none => RdNo w lb e w'
  | some (xs, p', q') => RdYes w lb n ⟨k, 0, 0, ⟨#[]⟩, xs⟩ p' q' e w'
set_option maxRecDepth 100000 in
theorem slice_midL (w : World) (a : Option Addr) (c : Nat) {lo hi : Nat} {l : List UInt8} (h : BytesIn w lo hi (.slice a l.length c) l) (i j : Nat) (hij : i ≤ j) (hj : j ≤ l.length) :
    ∃ a' c', (∀ w' : World, (Instr.slice 33 (.slice a l.length c) (some (.int .i64 i)) (some (.int .i64 j)) none).run Tryz.prog w' = .ok (.slice a' (j - i) c') w') ∧
      BytesIn w lo hi (.slice a' (j - i) c') ((l.drop i).take (j - i)) := by
  obtain ⟨a', c', e, h1, h2, h3⟩ := id h
  simp only [Value.slice.injEq, true_and] at e
  obtain ⟨rfl, rfl⟩ := e
  have hd := h.drop (n := i) (by omega)
  simp only [sliced] at hd
  rw [← List.length_drop] at hd
  refine ⟨_, _, fun w' => ?_, hd.take (n := j - i) (by rw [List.length_drop]; omega)⟩
  rw [run_slice_lh (P := Tryz.prog) w' 33 a l.length c Tryz.underlying33 .i64 .i64 i j (by omega) (by omega) (by omega)]
  rfl
set_option maxRecDepth 100000 in
set_option maxHeartbeats 4000000 in
theorem read_sym (n : Nat) (w : World) (lb B q i : Nat) (sl : Value) (l : List UInt8) (hL : LeftI w lb ((4096 : Int) - q)) (hB : BytesIn w 0 B sl l) (hb : B ≤ lb) (hi : i < l.length) (hl : l.length ≤ 1048576) (hq : q + 1 ≤ 4096) (hn : n ≤ 15) (k : UInt8) (r : List UInt8) (hs : l.drop i = k :: r) (hk : k.toNat = 4) (hf : (front r).2.2 = 0) (hlong : (front r).1 ≤ r.length - (front r).2.1) :
    Calls Tryz.prog 76 #[sl, .int .i64 i, .int .i64 ((16 : Int) - n), .pointer (some ⟨lb, 0, none⟩)] w fun e w' => RdYes w lb (n + 1) ⟨4, 0, 0, bytesOf (textOf r), []⟩ (i + 1 + (front r).2.1 + (front r).1) (q + 1) e w' := by
  obtain ⟨a, c, rfl, _⟩ := id hB
  have hlb : lb < w.heap.size := (Array.getElem?_eq_some_iff.1 hL).1
  obtain ⟨z, hz⟩ : ∃ z : Int, (4096 : Int) - q = z := ⟨_, rfl⟩
  have hzq : ((4096 : Int) - ((q + 1 : Nat) : Int)) = z - 1 := by omega
  have hz0 : 1 ≤ z ∧ z ≤ 4096 := by omega
  rw [hz] at hL
  obtain ⟨W, hW⟩ : ∃ W, w.alloc (.cells zcells 46) = W := ⟨_, rfl⟩
  have bW : Below w.heap.size w W := by rw [← hW]; exact alloc_v (Below.refl _ _) _
  have zW : W.heap.size = w.heap.size + 1 := by rw [← hW]; simp
  have f1 : LeftI W lb z := (bW.block _ hlb).trans hL
  have x0 := cells_at f1 0 _ rfl
  have v0 := frozen_at f1 0
  have hsub : IntKind.i64.wrap (z - 1) = z - 1 := by rw [IntKind.wrap_i64]; omega
  have hzn : ¬ (z - 1 < 0) := by omega
  have hdn : ¬ ((16 : Int) < (16 : Int) - n) := by omega
  have hdl : (l.drop i).length = l.length - i := List.length_drop
  have hrl : r.length + 1 = l.length - i := by rw [hs] at hdl; simpa using hdl
  have hdc := List.drop_eq_getElem_cons hi
  rw [hs] at hdc
  obtain ⟨hk1, hr1⟩ := List.cons.inj hdc
  have HDR : Hid (l.drop (i + 1) = r) := hide hr1.symm
  have S := hide (rst_start w W lb z hL hW)
  have sz := (rst_start w W lb z hL hW).sz
  have GX : w.grownBy (W.setCell ⟨lb, 0, none⟩ (.int .i64 (z - 1))) (some lb) := grown_more (grown_of_below bW) (grown_set1 _ _ _ _)
  have HBX := hB.grownV GX hb (by omega)
  have hcell : ∃ b off, a = some ⟨b, off, none⟩ ∧ (W.setCell ⟨lb, 0, none⟩ (.int .i64 (z - 1))).cell? ⟨b, off + i, none⟩ = some (.int .u8 (k.toNat : Int)) := by
    rcases HBX.plain.elim with ⟨e, _⟩ | ⟨_, b, off, c', e, h7⟩
    · rw [e] at hi; simp at hi
    · simp only [Value.slice.injEq] at e
      refine ⟨b, off, e.1, ?_⟩
      have h8 := h7 i hi
      rw [← hk1] at h8
      exact h8
  obtain ⟨b, off, rfl, hcell⟩ := hcell
  have p0 : (0 : Int) ≤ (i : Int) := by omega
  have p1 : (i : Int) < (l.length : Int) := by omega
  have HTK := hide (take4_k ((W.setCell ⟨lb, 0, none⟩ (.int .i64 (z - 1))).alloc (.cells #[.int .i64 4, .int .i64 0, .int .i64 0, .string ⟨#[]⟩, .slice none 0 0] 46)) B (some ⟨b, off, none⟩) c l (i + 1) (hB.grownV (grown_more GX (grown_of_below (alloc_v (Below.refl _ _) _))) hb (by omega)) (by omega) (by omega))
  rw [HDR.out, show ((i + 1 : Nat) : Int) = (i : Int) + 1 by omega] at HTK
  rw [show tkI r (i + 1) = ((i + 1 + (front r).2.1 : Nat) : Int) from if_pos hf] at HTK
  have hfl := front_lt r
  have hff := front_fits r
  have hpp : i + 1 + (front r).2.1 + (front r).1 ≤ l.length := by omega
  obtain ⟨tx, htx⟩ : ∃ tx, bytesOf (textOf r) = tx := ⟨_, rfl⟩
  have htx2 : textOf r = (l.drop (i + 1 + (front r).2.1)).take (front r).1 := by
    unfold textOf
    rw [if_pos ⟨hf, hlong⟩, ← HDR.out, List.drop_drop]
  rw [htx]
  have HTX : Hid (bytesOf ((l.drop (i + 1 + (front r).2.1)).take (front r).1) = tx) := hide (by rw [← htx2, htx])
  clear htx htx2 hlong hf
  generalize (front r).1 = fv at *
  generalize hpq : i + 1 + (front r).2.1 = pq at *
  generalize hpq2 : pq + fv = pq2 at *
  have hB1 := hB.grownV (grown_more GX (grown_of_below (alloc_v (Below.refl _ (W.setCell ⟨lb, 0, none⟩ (.int .i64 (z - 1)))) (.cells #[.int .i64 4, .int .i64 0, .int .i64 0, .string ⟨#[]⟩, .slice none 0 0] 46)))) hb (by omega)
  obtain ⟨a1, c1, hs1, hb1⟩ := slice_midL _ (some ⟨b, off, none⟩) c hB1 pq pq2 (by omega) (by omega)
  rw [show pq2 - pq = fv by omega] at hs1 hb1
  have hcv := conv_bytes hb1.plain
  rw [HTX.out] at hcv
  have p4 : IntKind.u64.wrap ((l.length : Int) - (pq : Int)) = (l.length : Int) - (pq : Int) := by rw [IntKind.wrap_u64]; omega
  have p5 : ¬ ((l.length : Int) - (pq : Int) < (fv : Int)) := by omega
  have p6 : IntKind.i64.wrap (fv : Int) = (fv : Int) := by rw [IntKind.wrap_i64]; omega
  have p7 : (pq : Int) + (fv : Int) = (pq2 : Int) := by omega
  clear hb1 hB1
  rw [show (k.toNat : Int) = 4 by omega] at hcell
  clear hk
  have r0 := cells_at S.out.res 0 _ rfl
  have rz0 := frozen_at S.out.res 0
  have r1 := cells_at S.out.res 1 _ rfl
  have rz1 := frozen_at S.out.res 1
  have r2 := cells_at S.out.res 2 _ rfl
  have rz2 := frozen_at S.out.res 2
  have r3 := cells_at S.out.res 3 _ rfl
  have rz3 := frozen_at S.out.res 3
  have r4 := cells_at S.out.res 4 _ rfl
  have rz4 := frozen_at S.out.res 4
  have ZQ := hide hzq
  clear hL hB f1 GX hzq hdl hs hz HBX hdc hk1 hr1 hrl
  go_enter Tryz.func76, Tryz.ntmps76
  go_wp2_with (go_at_call 107; refine HTK.out.mono ?_; clear HTK; rintro e w2 ⟨rfl, rfl⟩)
  have D := RSt.done S.out (.int .i64 4) (.int .i64 0) (.int .i64 0) (.string tx) (.slice none 0 0) #[.int .i64 4, .int .i64 0, .int .i64 0, .string tx, .slice none 0 0]
  refine bodyPost_ret (results_struct_tmp rfl _ _ w.heap.size _ _ _ _ rfl D.1 Tryz.underlying46 rfl infoVal5) rfl ?_
  refine ⟨.slice none 0 0, rfl, itemsIn_nil _ _ _, ?_, D.2.2⟩
  rw [ZQ.out]
  exact D.2.1
set_option maxRecDepth 100000 in
set_option maxHeartbeats 4000000 in
theorem read_items5 (n : Nat) (w : World) (lb B q i : Nat) (sl : Value) (l : List UInt8) (hL : LeftI w lb ((4096 : Int) - q)) (hB : BytesIn w 0 B sl l) (hb : B ≤ lb) (hi : i < l.length) (hl : l.length ≤ 1048576) (hq : q + 1 ≤ 4096) (hn : n ≤ 15) (k : UInt8) (r : List UInt8) (hs : l.drop i = k :: r) (hC : ReadC l n) (hk : k.toNat = 5) (hf : (front r).2.2 = 0) :
    Calls Tryz.prog 76 #[sl, .int .i64 i, .int .i64 ((16 : Int) - n), .pointer (some ⟨lb, 0, none⟩)] w fun e w' => RdI w lb (n + 1) 5 (itsM (readM l n) (front r).1 (i + 1 + (front r).2.1) (q + 1)) e w' := by
  obtain ⟨a, c, rfl, _⟩ := id hB
  have hlb : lb < w.heap.size := (Array.getElem?_eq_some_iff.1 hL).1
  obtain ⟨z, hz⟩ : ∃ z : Int, (4096 : Int) - q = z := ⟨_, rfl⟩
  have hzq : ((4096 : Int) - ((q + 1 : Nat) : Int)) = z - 1 := by omega
  have hz0 : 1 ≤ z ∧ z ≤ 4096 := by omega
  rw [hz] at hL
  obtain ⟨W, hW⟩ : ∃ W, w.alloc (.cells zcells 46) = W := ⟨_, rfl⟩
  have bW : Below w.heap.size w W := by rw [← hW]; exact alloc_v (Below.refl _ _) _
  have zW : W.heap.size = w.heap.size + 1 := by rw [← hW]; simp
  have f1 : LeftI W lb z := (bW.block _ hlb).trans hL
  have x0 := cells_at f1 0 _ rfl
  have v0 := frozen_at f1 0
  have hsub : IntKind.i64.wrap (z - 1) = z - 1 := by rw [IntKind.wrap_i64]; omega
  have hzn : ¬ (z - 1 < 0) := by omega
  have hdn : ¬ ((16 : Int) < (16 : Int) - n) := by omega
  have hdl : (l.drop i).length = l.length - i := List.length_drop
  have hrl : r.length + 1 = l.length - i := by rw [hs] at hdl; simpa using hdl
  have hdc := List.drop_eq_getElem_cons hi
  rw [hs] at hdc
  obtain ⟨hk1, hr1⟩ := List.cons.inj hdc
  have HDR : Hid (l.drop (i + 1) = r) := hide hr1.symm
  have S := hide (rst_start w W lb z hL hW)
  have sz := (rst_start w W lb z hL hW).sz
  have GX : w.grownBy (W.setCell ⟨lb, 0, none⟩ (.int .i64 (z - 1))) (some lb) := grown_more (grown_of_below bW) (grown_set1 _ _ _ _)
  have HBX := hB.grownV GX hb (by omega)
  have hcell : ∃ b off, a = some ⟨b, off, none⟩ ∧ (W.setCell ⟨lb, 0, none⟩ (.int .i64 (z - 1))).cell? ⟨b, off + i, none⟩ = some (.int .u8 (k.toNat : Int)) := by
    rcases HBX.plain.elim with ⟨e, _⟩ | ⟨_, b, off, c', e, h7⟩
    · rw [e] at hi; simp at hi
    · simp only [Value.slice.injEq] at e
      refine ⟨b, off, e.1, ?_⟩
      have h8 := h7 i hi
      rw [← hk1] at h8
      exact h8
  obtain ⟨b, off, rfl, hcell⟩ := hcell
  have p0 : (0 : Int) ≤ (i : Int) := by omega
  have p1 : (i : Int) < (l.length : Int) := by omega
  have HTK := hide (take4_k ((W.setCell ⟨lb, 0, none⟩ (.int .i64 (z - 1))).alloc (.cells #[.int .i64 5, .int .i64 0, .int .i64 0, .string ⟨#[]⟩, .slice none 0 0] 46)) B (some ⟨b, off, none⟩) c l (i + 1) (hB.grownV (grown_more GX (grown_of_below (alloc_v (Below.refl _ _) _))) hb (by omega)) (by omega) (by omega))
  rw [HDR.out, show ((i + 1 : Nat) : Int) = (i : Int) + 1 by omega] at HTK
  rw [show tkI r (i + 1) = ((i + 1 + (front r).2.1 : Nat) : Int) from if_pos hf] at HTK
  have hfl := front_lt r
  have hff := front_fits r
  have hpp : i + 1 + (front r).2.1 ≤ l.length := by omega
  clear hf
  obtain ⟨T, hT⟩ : ∃ T, itsM (readM l n) (front r).1 (i + 1 + (front r).2.1) (q + 1) = T := ⟨_, rfl⟩
  rw [hT]
  have HTT := hide hT
  clear hT
  generalize (front r).1 = K at *
  generalize hpq : i + 1 + (front r).2.1 = pq at *
  have HGX := hide GX
  have HB := hide hB
  have HC := hide hC
  rw [show (k.toNat : Int) = 5 by omega] at hcell
  clear hk
  have r0 := cells_at S.out.res 0 _ rfl
  have rz0 := frozen_at S.out.res 0
  have r1 := cells_at S.out.res 1 _ rfl
  have rz1 := frozen_at S.out.res 1
  have r2 := cells_at S.out.res 2 _ rfl
  have rz2 := frozen_at S.out.res 2
  have r3 := cells_at S.out.res 3 _ rfl
  have rz3 := frozen_at S.out.res 3
  have r4 := cells_at S.out.res 4 _ rfl
  have rz4 := frozen_at S.out.res 4
  have ZQ := hide hzq
  clear hL hB f1 GX hzq hdl hs hz HBX hdc hk1 hr1 hrl
  go_enter Tryz.func76, Tryz.ntmps76
  go_wp2_with (go_at_call 107; refine HTK.out.mono ?_; clear HTK; rintro e w2 ⟨rfl, rfl⟩)
  clear hW x0 v0 hsub hcell sz p0 p1 r0 r1 r2 r3 r4 rz0 rz1 rz2 rz3 rz4
  obtain ⟨V0, hV0⟩ : ∃ V0, (W.setCell ⟨lb, 0, none⟩ (.int .i64 (z - 1))).alloc (.cells #[.int .i64 5, .int .i64 0, .int .i64 0, .string ⟨#[]⟩, .slice none 0 0] 46) = V0 := ⟨_, rfl⟩
  have HV0 : Hid (V0.heap[w.heap.size]? = some (.cells zcells 46 (0, 0)) ∧ V0.heap[w.heap.size + 1]? = some (.cells #[.int .i64 5, .int .i64 0, .int .i64 0, .string ⟨#[]⟩, .slice none 0 0] 46 (0, 0)) ∧ LeftI V0 lb (z - 1) ∧ w.grownBy V0 (some lb) ∧ V0.heap.size = w.heap.size + 2) := by
    rw [← hV0]
    have h1 := S.out
    have h2 := World.alloc_heap_new (W.setCell ⟨lb, 0, none⟩ (.int .i64 (z - 1))) (.cells #[.int .i64 5, .int .i64 0, .int .i64 0, .string ⟨#[]⟩, .slice none 0 0] 46)
    rw [h1.sz] at h2
    have h3 := h1.lt
    exact ⟨(Below.heap_alloc _ _ _ (by rw [h1.sz]; omega)).trans h1.res, h2, (Below.heap_alloc _ _ _ (by rw [h1.sz]; omega)).trans h1.lft, grown_more h1.gr (grown_of_below (alloc_v (Below.refl _ _) _)), by rw [World.size_alloc, h1.sz]⟩
  rw [hV0]
  clear hV0 S zW bW HGX
  go_loopw [1, 11] (fun iv nv wr => ∃ (m : Nat) (xs : List Vl) (pk qk : Nat) (o : Value), iv = .int .i64 (pk : Int) ∧ nv = .int .u64 (m : Int) ∧ m ≤ K ∧ pk ≤ l.length ∧ qk ≤ 4096 ∧ q + 1 + xs.length ≤ qk ∧ Hid (T = itsJ xs (itsM (readM l n) m pk qk)) ∧ wr.heap[w.heap.size + 1]? = some (.cells #[.int .i64 5, .int .i64 0, .int .i64 0, .string ⟨#[]⟩, o] 46 (0, 0)) ∧ OwnAt wr (w.heap.size + 2) n o xs ∧ LeftI wr lb ((4096 : Int) - qk) ∧ wr.heap[w.heap.size]? = some (.cells zcells 46 (0, 0)) ∧ w.grownBy wr (some lb) ∧ w.heap.size + 2 ≤ wr.heap.size)
    (fun _ nv _ => (intOf nv).toNat)
  case atStart =>
    refine ⟨K, [], pq, q + 1, .slice none 0 0, rfl, rfl, Nat.le_refl _, hpp, hq, Nat.le_refl _, hide ?_, HV0.out.2.1, OwnAt.nil _ _ _, ?_, HV0.out.1, HV0.out.2.2.2.1, by rw [HV0.out.2.2.2.2]; omega⟩
    · rw [HTT.out]
      cases T with
      | none => rfl
      | some t => obtain ⟨ys, t⟩ := t; rfl
    · rw [ZQ.out]
      exact HV0.out.2.2.1
  case round =>
    clear HV0 HTT
    obtain ⟨m, xs, pk, qk, o, rfl, rfl, hmK, hpk, hqk, hqq, HT, hvb, hO, hL, hrs, hgr, hsz⟩ := hrel
    cases m with
    | succ j =>
      have hm0 : (0 : Int) < ((j + 1 : Nat) : Int) := by omega
      have hwn : IntKind.u64.wrap (((j + 1 : Nat) : Int) - 1) = (j : Int) := by rw [IntKind.wrap_u64]; omega
      have hdd : (16 : Int) - n + 1 = (17 : Int) - n := by omega
      have hX := HC.out wr lb B qk pk _ hL (HB.out.grownV hgr hb (by omega)) hb hpk hl hqk (by omega)
      obtain ⟨oa, oc, rfl⟩ := hO.len
      have HV := hide (fun (U : World) (g : wr.grownBy U (some lb)) => (g.block (w.heap.size + 1) (by omega) (by simp; omega)).trans hvb)
      have HRS := hide (fun (U : World) (g : wr.grownBy U (some lb)) => (g.block w.heap.size (by omega) (by simp; omega)).trans hrs)
      have HGR := hide hgr
      simp only [itsM] at HT
      cases eg : readM l n pk qk with
      | none =>
        rw [eg] at hX HT
        have HX := hide hX
        have HTN : Hid (T = none) := HT
        clear hX hvb hO hL hrs hgr eg HT
        go_wp2_with (go_at_call 76; refine HX.out.mono ?_; clear HX; rintro e w4 ⟨xk, xi, xm, xt, xa, xn, xc, rfl, g4⟩; obtain ⟨w5, hw5⟩ : ∃ w5, w4.alloc (.cells #[.int .i64 xk, .int .i64 xi, .int .i64 xm, .string xt, .slice xa xn xc] 46) = w5 := ⟨_, rfl⟩; have g5 : wr.grownBy w5 (some lb) := (by rw [← hw5]; exact grown_more g4 (grown_of_below (alloc_v (Below.refl _ _) _))); have f4 := HV.out _ g5; have f5 := HRS.out _ g5; have v0 := cells_at f4 0 _ rfl; have v1 := cells_at f4 1 _ rfl; have v2 := cells_at f4 2 _ rfl; have v3 := cells_at f4 3 _ rfl; have v4 := cells_at f4 4 _ rfl; have r0 := cells_at f5 0 _ rfl; have rz0 := frozen_at f5 0; have r1 := cells_at f5 1 _ rfl; have rz1 := frozen_at f5 1; have r2 := cells_at f5 2 _ rfl; have rz2 := frozen_at f5 2; have r3 := cells_at f5 3 _ rfl; have rz3 := frozen_at f5 3; have r4 := cells_at f5 4 _ rfl; have rz4 := frozen_at f5 4; have F5 := hide f5; have G5 := hide g5; clear f4 f5 g4 g5)
        have D := rd_fin F5.out (grown_more HGR.out G5.out) (.int .i64 5) (.int .i64 0) (.int .i64 0) (.string ⟨#[]⟩) (.slice oa xs.length oc)
        refine bodyPost_ret (results_struct_tmp rfl _ _ w.heap.size _ _ _ _ rfl D.1 Tryz.underlying46 rfl infoVal5) rfl ?_
        rw [HTN.out]
        exact ⟨_, _, _, _, _, _, _, rfl, D.2.1⟩
      | some t =>
        obtain ⟨x, p3, q3⟩ := t
        rw [eg] at hX HT
        have hle := readM_ok l hl n hpk eg
        have HX := hide hX
        have hxl : xs.length + 1 ≤ 1000000000 := by omega
        have HP := hide (fun (U : World) (s : Value) (g : wr.grownBy U (some lb)) (i : ItemsIn U (fun b => wr.heap.size ≤ b ∧ b < U.heap.size) n s x.items) =>
          OwnAt.pushX (ty := 44) (x := x) (hO.far g.size (fun k h1 h2 => g.block k h2 (by simp; omega))) (by have := g.size; omega) (i.kept (fun _ _ _ => rfl) (fun b hb => ⟨by omega, hb.2, fun eq => by have := (hO.lt eq.symm).2; omega⟩)) hle.1 hxl)
        have HNX : Hid (T = itsJ (xs ++ [x]) (itsM (readM l n) j p3 q3)) := by
          have e : T = itsJ xs (match itsM (readM l n) j p3 q3 with | none => none | some (xs', r) => some (x :: xs', r)) := HT
          show T = _
          rw [e]
          generalize itsM (readM l n) j p3 q3 = R
          rcases R with _ | ⟨ys, t⟩
          · rfl
          · simp [itsJ]
        have HLE := hide hle
        have HQ := hide hqq
        have hp3 := hle.2.1
        clear hX hvb hO hL hrs hgr eg HT hle hxl hqq
        go_wp2_with (first
          | (go_at_call 76; refine HX.out.mono ?_; clear HX; rintro e w4 ⟨s4, rfl, i4, d4, g4⟩; obtain ⟨sa4, sc4, rfl, _⟩ := i4.len; obtain ⟨w6, hw6⟩ : ∃ w6, w4.alloc (.cells #[.int .i64 x.kind, .int .i64 x.int, .int .i64 x.im, .string x.text, .slice sa4 x.items.length sc4] 46) = w6 := ⟨_, rfl⟩; have b6 : Below w4.heap.size w4 w6 := (by rw [← hw6]; exact alloc_v (Below.refl _ _) _); have e6 : w6.heap[w4.heap.size]? = some (.cells #[.int .i64 x.kind, .int .i64 x.int, .int .i64 x.im, .string x.text, .slice sa4 x.items.length sc4] 46 (0, 0)) := (by rw [← hw6]; exact World.alloc_heap_new w4 _); have y0 := cells_at e6 0 _ rfl; have y1 := cells_at e6 1 _ rfl; have y2 := cells_at e6 2 _ rfl; have y3 := cells_at e6 3 _ rfl; have y4 := cells_at e6 4 _ rfl; have ga := grown_more g4 (grown_of_below (r := some lb) b6); have i5 := i4.kept (w' := w6) (S' := fun b => wr.heap.size ≤ b ∧ b < w6.heap.size) (fun b o hb => (bcellV b6).1 b o hb.2) (fun b hb => ⟨hb.1, by have := b6.size; omega⟩); obtain ⟨v5, w5, hrun, o5, b5⟩ := HP.out _ _ ga i5; obtain ⟨va, vc, rfl⟩ := o5.len; have k4 : w6.cell? ⟨w.heap.size + 1, 4, none⟩ = some (.slice oa xs.length oc) := cells_at (HV.out w6 ga) 4 _ rfl; have k4a := fun ob : Obj => (World.cell?_alloc_some w6 ⟨w.heap.size + 1, 4, none⟩ ob (by rw [k4]; rfl)).trans k4; have F4 := hide (HV.out _ ga); have R4 := hide (HRS.out _ ga); have lb4 : lb < w4.heap.size := (Array.getElem?_eq_some_iff.1 d4).1; have D4 := hide ((b6.block lb lb4).trans d4); have RN := hide hrun; have O5 := hide o5; have B5 := hide b5; have GA := hide ga; have f5 := (b5.block (w.heap.size + 1) (by omega)).trans F4.out; have z5 := frozen_at f5 4; have k5 := cells_at f5 4 _ rfl; have F5 := hide f5; clear hrun o5 b5 d4 g4 ga i4 i5 HP f5 b6 e6)
          | (at_builtin; refine Lib.wpList_append_run _ rfl (.tmp 145) (.tmp 147) 44 44 rfl _ _ rfl rfl _ _ RN.out ?_))
        go_roundw
        case rel =>
          have hL5 := B5.out.size
          have hL6 := GA.out.size
          have h1 : w.heap.size + 2 ≤ w6.heap.size := by omega
          have g5 := grown_L (grown_more HGR.out GA.out) B5.out (by omega) h1
          have hqq := HQ.out
          have hle := HLE.out
          refine ⟨j, xs ++ [x], p3, q3, .slice va (xs ++ [x]).length vc, by go_num, by go_num, by omega, hp3, hle.2.2.2, by rw [List.length_append, List.length_singleton]; have := hle.2.2.1; omega, HNX, ?_, ?_, ?_, ?_, grown_far g5 (by omega), ?_⟩
          · rw [List.length_append]
            exact heap_setCell_same _ _ 4 _ _ _ F5.out
          · exact O5.out.far (by simp [World.setCell]) (fun k h1 _ => Below.heap_setCell _ _ _ _ (by show k ≠ w.heap.size + 1; omega))
          · exact (Below.heap_setCell _ _ _ _ (by show lb ≠ w.heap.size + 1; omega)).trans ((B5.out.block lb (by omega)).trans D4.out)
          · exact (Below.heap_setCell _ _ _ _ (by show w.heap.size ≠ w.heap.size + 1; omega)).trans ((B5.out.block w.heap.size (by omega)).trans R4.out)
          · simp only [World.setCell]
            simpa using (show w.heap.size + 2 ≤ w5.heap.size by omega)
        case measure => simp [intOf]
    | zero =>
      have HTN : Hid (T = some (xs, pk, qk)) := by
        have e := HT.out
        simp [itsM, itsJ] at e
        exact e
      have hit := hO.items (by unfold maxLen; omega)
      obtain ⟨oa, oc, rfl⟩ := hO.len
      have v0 := cells_at hvb 0 _ rfl
      have v1 := cells_at hvb 1 _ rfl
      have v2 := cells_at hvb 2 _ rfl
      have v3 := cells_at hvb 3 _ rfl
      have v4 := cells_at hvb 4 _ rfl
      have r0 := cells_at hrs 0 _ rfl
      have rz0 := frozen_at hrs 0
      have r1 := cells_at hrs 1 _ rfl
      have rz1 := frozen_at hrs 1
      have r2 := cells_at hrs 2 _ rfl
      have rz2 := frozen_at hrs 2
      have r3 := cells_at hrs 3 _ rfl
      have rz3 := frozen_at hrs 3
      have r4 := cells_at hrs 4 _ rfl
      have rz4 := frozen_at hrs 4
      have F := hide (And.intro hvb (And.intro hL (And.intro hrs (And.intro hgr hit))))
      clear hvb hL hrs hgr hit hO HT
      go_wp2
      have D := rd_fin F.out.2.2.1 F.out.2.2.2.1 (.int .i64 5) (.int .i64 0) (.int .i64 0) (.string ⟨#[]⟩) (.slice oa xs.length oc)
      refine bodyPost_ret (results_struct_tmp rfl _ _ w.heap.size _ _ _ _ rfl D.1 Tryz.underlying46 rfl infoVal5) rfl ?_
      rw [HTN.out]
      refine ⟨.slice oa xs.length oc, rfl, F.out.2.2.2.2.kept (fun b o hb => World.cell?_of_block (D.2.2.1 b (by omega))) (fun b hb => ⟨by omega, by rw [D.2.2.2]; exact hb.2⟩), (D.2.2.1 lb (by omega)).trans F.out.2.1, D.2.1⟩
set_option maxRecDepth 100000 in
set_option maxHeartbeats 4000000 in
theorem read_items6 (n : Nat) (w : World) (lb B q i : Nat) (sl : Value) (l : List UInt8) (hL : LeftI w lb ((4096 : Int) - q)) (hB : BytesIn w 0 B sl l) (hb : B ≤ lb) (hi : i < l.length) (hl : l.length ≤ 1048576) (hq : q + 1 ≤ 4096) (hn : n ≤ 15) (k : UInt8) (r : List UInt8) (hs : l.drop i = k :: r) (hC : ReadC l n) (hk : k.toNat = 6) (hf : (front r).2.2 = 0) :
    Calls Tryz.prog 76 #[sl, .int .i64 i, .int .i64 ((16 : Int) - n), .pointer (some ⟨lb, 0, none⟩)] w fun e w' => RdI w lb (n + 1) 6 (itsM (readM l n) (front r).1 (i + 1 + (front r).2.1) (q + 1)) e w' := by
  obtain ⟨a, c, rfl, _⟩ := id hB
  have hlb : lb < w.heap.size := (Array.getElem?_eq_some_iff.1 hL).1
  obtain ⟨z, hz⟩ : ∃ z : Int, (4096 : Int) - q = z := ⟨_, rfl⟩
  have hzq : ((4096 : Int) - ((q + 1 : Nat) : Int)) = z - 1 := by omega
  have hz0 : 1 ≤ z ∧ z ≤ 4096 := by omega
  rw [hz] at hL
  obtain ⟨W, hW⟩ : ∃ W, w.alloc (.cells zcells 46) = W := ⟨_, rfl⟩
  have bW : Below w.heap.size w W := by rw [← hW]; exact alloc_v (Below.refl _ _) _
  have zW : W.heap.size = w.heap.size + 1 := by rw [← hW]; simp
  have f1 : LeftI W lb z := (bW.block _ hlb).trans hL
  have x0 := cells_at f1 0 _ rfl
  have v0 := frozen_at f1 0
  have hsub : IntKind.i64.wrap (z - 1) = z - 1 := by rw [IntKind.wrap_i64]; omega
  have hzn : ¬ (z - 1 < 0) := by omega
  have hdn : ¬ ((16 : Int) < (16 : Int) - n) := by omega
  have hdl : (l.drop i).length = l.length - i := List.length_drop
  have hrl : r.length + 1 = l.length - i := by rw [hs] at hdl; simpa using hdl
  have hdc := List.drop_eq_getElem_cons hi
  rw [hs] at hdc
  obtain ⟨hk1, hr1⟩ := List.cons.inj hdc
  have HDR : Hid (l.drop (i + 1) = r) := hide hr1.symm
  have S := hide (rst_start w W lb z hL hW)
  have sz := (rst_start w W lb z hL hW).sz
  have GX : w.grownBy (W.setCell ⟨lb, 0, none⟩ (.int .i64 (z - 1))) (some lb) := grown_more (grown_of_below bW) (grown_set1 _ _ _ _)
  have HBX := hB.grownV GX hb (by omega)
  have hcell : ∃ b off, a = some ⟨b, off, none⟩ ∧ (W.setCell ⟨lb, 0, none⟩ (.int .i64 (z - 1))).cell? ⟨b, off + i, none⟩ = some (.int .u8 (k.toNat : Int)) := by
    rcases HBX.plain.elim with ⟨e, _⟩ | ⟨_, b, off, c', e, h7⟩
    · rw [e] at hi; simp at hi
    · simp only [Value.slice.injEq] at e
      refine ⟨b, off, e.1, ?_⟩
      have h8 := h7 i hi
      rw [← hk1] at h8
      exact h8
  obtain ⟨b, off, rfl, hcell⟩ := hcell
  have p0 : (0 : Int) ≤ (i : Int) := by omega
  have p1 : (i : Int) < (l.length : Int) := by omega
  have HTK := hide (take4_k ((W.setCell ⟨lb, 0, none⟩ (.int .i64 (z - 1))).alloc (.cells #[.int .i64 6, .int .i64 0, .int .i64 0, .string ⟨#[]⟩, .slice none 0 0] 46)) B (some ⟨b, off, none⟩) c l (i + 1) (hB.grownV (grown_more GX (grown_of_below (alloc_v (Below.refl _ _) _))) hb (by omega)) (by omega) (by omega))
  rw [HDR.out, show ((i + 1 : Nat) : Int) = (i : Int) + 1 by omega] at HTK
  rw [show tkI r (i + 1) = ((i + 1 + (front r).2.1 : Nat) : Int) from if_pos hf] at HTK
  have hfl := front_lt r
  have hff := front_fits r
  have hpp : i + 1 + (front r).2.1 ≤ l.length := by omega
  clear hf
  obtain ⟨T, hT⟩ : ∃ T, itsM (readM l n) (front r).1 (i + 1 + (front r).2.1) (q + 1) = T := ⟨_, rfl⟩
  rw [hT]
  have HTT := hide hT
  clear hT
  generalize (front r).1 = K at *
  generalize hpq : i + 1 + (front r).2.1 = pq at *
  have HGX := hide GX
  have HB := hide hB
  have HC := hide hC
  rw [show (k.toNat : Int) = 6 by omega] at hcell
  clear hk
  have r0 := cells_at S.out.res 0 _ rfl
  have rz0 := frozen_at S.out.res 0
  have r1 := cells_at S.out.res 1 _ rfl
  have rz1 := frozen_at S.out.res 1
  have r2 := cells_at S.out.res 2 _ rfl
  have rz2 := frozen_at S.out.res 2
  have r3 := cells_at S.out.res 3 _ rfl
  have rz3 := frozen_at S.out.res 3
  have r4 := cells_at S.out.res 4 _ rfl
  have rz4 := frozen_at S.out.res 4
  have ZQ := hide hzq
  clear hL hB f1 GX hzq hdl hs hz HBX hdc hk1 hr1 hrl
  go_enter Tryz.func76, Tryz.ntmps76
  go_wp2_with (go_at_call 107; refine HTK.out.mono ?_; clear HTK; rintro e w2 ⟨rfl, rfl⟩)
  clear hW x0 v0 hsub hcell sz p0 p1 r0 r1 r2 r3 r4 rz0 rz1 rz2 rz3 rz4
  obtain ⟨V0, hV0⟩ : ∃ V0, (W.setCell ⟨lb, 0, none⟩ (.int .i64 (z - 1))).alloc (.cells #[.int .i64 6, .int .i64 0, .int .i64 0, .string ⟨#[]⟩, .slice none 0 0] 46) = V0 := ⟨_, rfl⟩
  have HV0 : Hid (V0.heap[w.heap.size]? = some (.cells zcells 46 (0, 0)) ∧ V0.heap[w.heap.size + 1]? = some (.cells #[.int .i64 6, .int .i64 0, .int .i64 0, .string ⟨#[]⟩, .slice none 0 0] 46 (0, 0)) ∧ LeftI V0 lb (z - 1) ∧ w.grownBy V0 (some lb) ∧ V0.heap.size = w.heap.size + 2) := by
    rw [← hV0]
    have h1 := S.out
    have h2 := World.alloc_heap_new (W.setCell ⟨lb, 0, none⟩ (.int .i64 (z - 1))) (.cells #[.int .i64 6, .int .i64 0, .int .i64 0, .string ⟨#[]⟩, .slice none 0 0] 46)
    rw [h1.sz] at h2
    have h3 := h1.lt
    exact ⟨(Below.heap_alloc _ _ _ (by rw [h1.sz]; omega)).trans h1.res, h2, (Below.heap_alloc _ _ _ (by rw [h1.sz]; omega)).trans h1.lft, grown_more h1.gr (grown_of_below (alloc_v (Below.refl _ _) _)), by rw [World.size_alloc, h1.sz]⟩
  rw [hV0]
  clear hV0 S zW bW HGX
  go_loopw [1, 11] (fun iv nv wr => ∃ (m : Nat) (xs : List Vl) (pk qk : Nat) (o : Value), iv = .int .i64 (pk : Int) ∧ nv = .int .u64 (m : Int) ∧ m ≤ K ∧ pk ≤ l.length ∧ qk ≤ 4096 ∧ q + 1 + xs.length ≤ qk ∧ Hid (T = itsJ xs (itsM (readM l n) m pk qk)) ∧ wr.heap[w.heap.size + 1]? = some (.cells #[.int .i64 6, .int .i64 0, .int .i64 0, .string ⟨#[]⟩, o] 46 (0, 0)) ∧ OwnAt wr (w.heap.size + 2) n o xs ∧ LeftI wr lb ((4096 : Int) - qk) ∧ wr.heap[w.heap.size]? = some (.cells zcells 46 (0, 0)) ∧ w.grownBy wr (some lb) ∧ w.heap.size + 2 ≤ wr.heap.size)
    (fun _ nv _ => (intOf nv).toNat)
  case atStart =>
    refine ⟨K, [], pq, q + 1, .slice none 0 0, rfl, rfl, Nat.le_refl _, hpp, hq, Nat.le_refl _, hide ?_, HV0.out.2.1, OwnAt.nil _ _ _, ?_, HV0.out.1, HV0.out.2.2.2.1, by rw [HV0.out.2.2.2.2]; omega⟩
    · rw [HTT.out]
      cases T with
      | none => rfl
      | some t => obtain ⟨ys, t⟩ := t; rfl
    · rw [ZQ.out]
      exact HV0.out.2.2.1
  case round =>
    clear HV0 HTT
    obtain ⟨m, xs, pk, qk, o, rfl, rfl, hmK, hpk, hqk, hqq, HT, hvb, hO, hL, hrs, hgr, hsz⟩ := hrel
    cases m with
    | succ j =>
      have hm0 : (0 : Int) < ((j + 1 : Nat) : Int) := by omega
      have hwn : IntKind.u64.wrap (((j + 1 : Nat) : Int) - 1) = (j : Int) := by rw [IntKind.wrap_u64]; omega
      have hdd : (16 : Int) - n + 1 = (17 : Int) - n := by omega
      have hX := HC.out wr lb B qk pk _ hL (HB.out.grownV hgr hb (by omega)) hb hpk hl hqk (by omega)
      obtain ⟨oa, oc, rfl⟩ := hO.len
      have HV := hide (fun (U : World) (g : wr.grownBy U (some lb)) => (g.block (w.heap.size + 1) (by omega) (by simp; omega)).trans hvb)
      have HRS := hide (fun (U : World) (g : wr.grownBy U (some lb)) => (g.block w.heap.size (by omega) (by simp; omega)).trans hrs)
      have HGR := hide hgr
      simp only [itsM] at HT
      cases eg : readM l n pk qk with
      | none =>
        rw [eg] at hX HT
        have HX := hide hX
        have HTN : Hid (T = none) := HT
        clear hX hvb hO hL hrs hgr eg HT
        go_wp2_with (go_at_call 76; refine HX.out.mono ?_; clear HX; rintro e w4 ⟨xk, xi, xm, xt, xa, xn, xc, rfl, g4⟩; obtain ⟨w5, hw5⟩ : ∃ w5, w4.alloc (.cells #[.int .i64 xk, .int .i64 xi, .int .i64 xm, .string xt, .slice xa xn xc] 46) = w5 := ⟨_, rfl⟩; have g5 : wr.grownBy w5 (some lb) := (by rw [← hw5]; exact grown_more g4 (grown_of_below (alloc_v (Below.refl _ _) _))); have f4 := HV.out _ g5; have f5 := HRS.out _ g5; have v0 := cells_at f4 0 _ rfl; have v1 := cells_at f4 1 _ rfl; have v2 := cells_at f4 2 _ rfl; have v3 := cells_at f4 3 _ rfl; have v4 := cells_at f4 4 _ rfl; have r0 := cells_at f5 0 _ rfl; have rz0 := frozen_at f5 0; have r1 := cells_at f5 1 _ rfl; have rz1 := frozen_at f5 1; have r2 := cells_at f5 2 _ rfl; have rz2 := frozen_at f5 2; have r3 := cells_at f5 3 _ rfl; have rz3 := frozen_at f5 3; have r4 := cells_at f5 4 _ rfl; have rz4 := frozen_at f5 4; have F5 := hide f5; have G5 := hide g5; clear f4 f5 g4 g5)
        have D := rd_fin F5.out (grown_more HGR.out G5.out) (.int .i64 6) (.int .i64 0) (.int .i64 0) (.string ⟨#[]⟩) (.slice oa xs.length oc)
        refine bodyPost_ret (results_struct_tmp rfl _ _ w.heap.size _ _ _ _ rfl D.1 Tryz.underlying46 rfl infoVal5) rfl ?_
        rw [HTN.out]
        exact ⟨_, _, _, _, _, _, _, rfl, D.2.1⟩
      | some t =>
        obtain ⟨x, p3, q3⟩ := t
        rw [eg] at hX HT
        have hle := readM_ok l hl n hpk eg
        have HX := hide hX
        have hxl : xs.length + 1 ≤ 1000000000 := by omega
        have HP := hide (fun (U : World) (s : Value) (g : wr.grownBy U (some lb)) (i : ItemsIn U (fun b => wr.heap.size ≤ b ∧ b < U.heap.size) n s x.items) =>
          OwnAt.pushX (ty := 44) (x := x) (hO.far g.size (fun k h1 h2 => g.block k h2 (by simp; omega))) (by have := g.size; omega) (i.kept (fun _ _ _ => rfl) (fun b hb => ⟨by omega, hb.2, fun eq => by have := (hO.lt eq.symm).2; omega⟩)) hle.1 hxl)
        have HNX : Hid (T = itsJ (xs ++ [x]) (itsM (readM l n) j p3 q3)) := by
          have e : T = itsJ xs (match itsM (readM l n) j p3 q3 with | none => none | some (xs', r) => some (x :: xs', r)) := HT
          show T = _
          rw [e]
          generalize itsM (readM l n) j p3 q3 = R
          rcases R with _ | ⟨ys, t⟩
          · rfl
          · simp [itsJ]
        have HLE := hide hle
        have HQ := hide hqq
        have hp3 := hle.2.1
        clear hX hvb hO hL hrs hgr eg HT hle hxl hqq
        go_wp2_with (first
          | (go_at_call 76; refine HX.out.mono ?_; clear HX; rintro e w4 ⟨s4, rfl, i4, d4, g4⟩; obtain ⟨sa4, sc4, rfl, _⟩ := i4.len; obtain ⟨w6, hw6⟩ : ∃ w6, w4.alloc (.cells #[.int .i64 x.kind, .int .i64 x.int, .int .i64 x.im, .string x.text, .slice sa4 x.items.length sc4] 46) = w6 := ⟨_, rfl⟩; have b6 : Below w4.heap.size w4 w6 := (by rw [← hw6]; exact alloc_v (Below.refl _ _) _); have e6 : w6.heap[w4.heap.size]? = some (.cells #[.int .i64 x.kind, .int .i64 x.int, .int .i64 x.im, .string x.text, .slice sa4 x.items.length sc4] 46 (0, 0)) := (by rw [← hw6]; exact World.alloc_heap_new w4 _); have y0 := cells_at e6 0 _ rfl; have y1 := cells_at e6 1 _ rfl; have y2 := cells_at e6 2 _ rfl; have y3 := cells_at e6 3 _ rfl; have y4 := cells_at e6 4 _ rfl; have ga := grown_more g4 (grown_of_below (r := some lb) b6); have i5 := i4.kept (w' := w6) (S' := fun b => wr.heap.size ≤ b ∧ b < w6.heap.size) (fun b o hb => (bcellV b6).1 b o hb.2) (fun b hb => ⟨hb.1, by have := b6.size; omega⟩); obtain ⟨v5, w5, hrun, o5, b5⟩ := HP.out _ _ ga i5; obtain ⟨va, vc, rfl⟩ := o5.len; have k4 : w6.cell? ⟨w.heap.size + 1, 4, none⟩ = some (.slice oa xs.length oc) := cells_at (HV.out w6 ga) 4 _ rfl; have k4a := fun ob : Obj => (World.cell?_alloc_some w6 ⟨w.heap.size + 1, 4, none⟩ ob (by rw [k4]; rfl)).trans k4; have F4 := hide (HV.out _ ga); have R4 := hide (HRS.out _ ga); have lb4 : lb < w4.heap.size := (Array.getElem?_eq_some_iff.1 d4).1; have D4 := hide ((b6.block lb lb4).trans d4); have RN := hide hrun; have O5 := hide o5; have B5 := hide b5; have GA := hide ga; have f5 := (b5.block (w.heap.size + 1) (by omega)).trans F4.out; have z5 := frozen_at f5 4; have k5 := cells_at f5 4 _ rfl; have F5 := hide f5; clear hrun o5 b5 d4 g4 ga i4 i5 HP f5 b6 e6)
          | (at_builtin; refine Lib.wpList_append_run _ rfl (.tmp 145) (.tmp 147) 44 44 rfl _ _ rfl rfl _ _ RN.out ?_))
        go_roundw
        case rel =>
          have hL5 := B5.out.size
          have hL6 := GA.out.size
          have h1 : w.heap.size + 2 ≤ w6.heap.size := by omega
          have g5 := grown_L (grown_more HGR.out GA.out) B5.out (by omega) h1
          have hqq := HQ.out
          have hle := HLE.out
          refine ⟨j, xs ++ [x], p3, q3, .slice va (xs ++ [x]).length vc, by go_num, by go_num, by omega, hp3, hle.2.2.2, by rw [List.length_append, List.length_singleton]; have := hle.2.2.1; omega, HNX, ?_, ?_, ?_, ?_, grown_far g5 (by omega), ?_⟩
          · rw [List.length_append]
            exact heap_setCell_same _ _ 4 _ _ _ F5.out
          · exact O5.out.far (by simp [World.setCell]) (fun k h1 _ => Below.heap_setCell _ _ _ _ (by show k ≠ w.heap.size + 1; omega))
          · exact (Below.heap_setCell _ _ _ _ (by show lb ≠ w.heap.size + 1; omega)).trans ((B5.out.block lb (by omega)).trans D4.out)
          · exact (Below.heap_setCell _ _ _ _ (by show w.heap.size ≠ w.heap.size + 1; omega)).trans ((B5.out.block w.heap.size (by omega)).trans R4.out)
          · simp only [World.setCell]
            simpa using (show w.heap.size + 2 ≤ w5.heap.size by omega)
        case measure => simp [intOf]
    | zero =>
      have HTN : Hid (T = some (xs, pk, qk)) := by
        have e := HT.out
        simp [itsM, itsJ] at e
        exact e
      have hit := hO.items (by unfold maxLen; omega)
      obtain ⟨oa, oc, rfl⟩ := hO.len
      have v0 := cells_at hvb 0 _ rfl
      have v1 := cells_at hvb 1 _ rfl
      have v2 := cells_at hvb 2 _ rfl
      have v3 := cells_at hvb 3 _ rfl
      have v4 := cells_at hvb 4 _ rfl
      have r0 := cells_at hrs 0 _ rfl
      have rz0 := frozen_at hrs 0
      have r1 := cells_at hrs 1 _ rfl
      have rz1 := frozen_at hrs 1
      have r2 := cells_at hrs 2 _ rfl
      have rz2 := frozen_at hrs 2
      have r3 := cells_at hrs 3 _ rfl
      have rz3 := frozen_at hrs 3
      have r4 := cells_at hrs 4 _ rfl
      have rz4 := frozen_at hrs 4
      have F := hide (And.intro hvb (And.intro hL (And.intro hrs (And.intro hgr hit))))
      clear hvb hL hrs hgr hit hO HT
      go_wp2
      have D := rd_fin F.out.2.2.1 F.out.2.2.2.1 (.int .i64 6) (.int .i64 0) (.int .i64 0) (.string ⟨#[]⟩) (.slice oa xs.length oc)
      refine bodyPost_ret (results_struct_tmp rfl _ _ w.heap.size _ _ _ _ rfl D.1 Tryz.underlying46 rfl infoVal5) rfl ?_
      rw [HTN.out]
      refine ⟨.slice oa xs.length oc, rfl, F.out.2.2.2.2.kept (fun b o hb => World.cell?_of_block (D.2.2.1 b (by omega))) (fun b hb => ⟨by omega, by rw [D.2.2.2]; exact hb.2⟩), (D.2.2.1 lb (by omega)).trans F.out.2.1, D.2.1⟩
set_option maxRecDepth 100000 in
set_option maxHeartbeats 4000000 in
theorem read_items7 (n : Nat) (w : World) (lb B q i : Nat) (sl : Value) (l : List UInt8) (hL : LeftI w lb ((4096 : Int) - q)) (hB : BytesIn w 0 B sl l) (hb : B ≤ lb) (hi : i < l.length) (hl : l.length ≤ 1048576) (hq : q + 1 ≤ 4096) (hn : n ≤ 15) (k : UInt8) (r : List UInt8) (hs : l.drop i = k :: r) (hC : ReadC l n) (hk : k.toNat = 7) (hf : (front r).2.2 = 0) :
    Calls Tryz.prog 76 #[sl, .int .i64 i, .int .i64 ((16 : Int) - n), .pointer (some ⟨lb, 0, none⟩)] w fun e w' => RdI w lb (n + 1) 7 (itsM (readM l n) (front r).1 (i + 1 + (front r).2.1) (q + 1)) e w' := by
  obtain ⟨a, c, rfl, _⟩ := id hB
  have hlb : lb < w.heap.size := (Array.getElem?_eq_some_iff.1 hL).1
  obtain ⟨z, hz⟩ : ∃ z : Int, (4096 : Int) - q = z := ⟨_, rfl⟩
  have hzq : ((4096 : Int) - ((q + 1 : Nat) : Int)) = z - 1 := by omega
  have hz0 : 1 ≤ z ∧ z ≤ 4096 := by omega
  rw [hz] at hL
  obtain ⟨W, hW⟩ : ∃ W, w.alloc (.cells zcells 46) = W := ⟨_, rfl⟩
  have bW : Below w.heap.size w W := by rw [← hW]; exact alloc_v (Below.refl _ _) _
  have zW : W.heap.size = w.heap.size + 1 := by rw [← hW]; simp
  have f1 : LeftI W lb z := (bW.block _ hlb).trans hL
  have x0 := cells_at f1 0 _ rfl
  have v0 := frozen_at f1 0
  have hsub : IntKind.i64.wrap (z - 1) = z - 1 := by rw [IntKind.wrap_i64]; omega
  have hzn : ¬ (z - 1 < 0) := by omega
  have hdn : ¬ ((16 : Int) < (16 : Int) - n) := by omega
  have hdl : (l.drop i).length = l.length - i := List.length_drop
  have hrl : r.length + 1 = l.length - i := by rw [hs] at hdl; simpa using hdl
  have hdc := List.drop_eq_getElem_cons hi
  rw [hs] at hdc
  obtain ⟨hk1, hr1⟩ := List.cons.inj hdc
  have HDR : Hid (l.drop (i + 1) = r) := hide hr1.symm
  have S := hide (rst_start w W lb z hL hW)
  have sz := (rst_start w W lb z hL hW).sz
  have GX : w.grownBy (W.setCell ⟨lb, 0, none⟩ (.int .i64 (z - 1))) (some lb) := grown_more (grown_of_below bW) (grown_set1 _ _ _ _)
  have HBX := hB.grownV GX hb (by omega)
  have hcell : ∃ b off, a = some ⟨b, off, none⟩ ∧ (W.setCell ⟨lb, 0, none⟩ (.int .i64 (z - 1))).cell? ⟨b, off + i, none⟩ = some (.int .u8 (k.toNat : Int)) := by
    rcases HBX.plain.elim with ⟨e, _⟩ | ⟨_, b, off, c', e, h7⟩
    · rw [e] at hi; simp at hi
    · simp only [Value.slice.injEq] at e
      refine ⟨b, off, e.1, ?_⟩
      have h8 := h7 i hi
      rw [← hk1] at h8
      exact h8
  obtain ⟨b, off, rfl, hcell⟩ := hcell
  have p0 : (0 : Int) ≤ (i : Int) := by omega
  have p1 : (i : Int) < (l.length : Int) := by omega
  have HTK := hide (take4_k ((W.setCell ⟨lb, 0, none⟩ (.int .i64 (z - 1))).alloc (.cells #[.int .i64 7, .int .i64 0, .int .i64 0, .string ⟨#[]⟩, .slice none 0 0] 46)) B (some ⟨b, off, none⟩) c l (i + 1) (hB.grownV (grown_more GX (grown_of_below (alloc_v (Below.refl _ _) _))) hb (by omega)) (by omega) (by omega))
  rw [HDR.out, show ((i + 1 : Nat) : Int) = (i : Int) + 1 by omega] at HTK
  rw [show tkI r (i + 1) = ((i + 1 + (front r).2.1 : Nat) : Int) from if_pos hf] at HTK
  have hfl := front_lt r
  have hff := front_fits r
  have hpp : i + 1 + (front r).2.1 ≤ l.length := by omega
  clear hf
  obtain ⟨T, hT⟩ : ∃ T, itsM (readM l n) (front r).1 (i + 1 + (front r).2.1) (q + 1) = T := ⟨_, rfl⟩
  rw [hT]
  have HTT := hide hT
  clear hT
  generalize (front r).1 = K at *
  generalize hpq : i + 1 + (front r).2.1 = pq at *
  have HGX := hide GX
  have HB := hide hB
  have HC := hide hC
  rw [show (k.toNat : Int) = 7 by omega] at hcell
  clear hk
  have r0 := cells_at S.out.res 0 _ rfl
  have rz0 := frozen_at S.out.res 0
  have r1 := cells_at S.out.res 1 _ rfl
  have rz1 := frozen_at S.out.res 1
  have r2 := cells_at S.out.res 2 _ rfl
  have rz2 := frozen_at S.out.res 2
  have r3 := cells_at S.out.res 3 _ rfl
  have rz3 := frozen_at S.out.res 3
  have r4 := cells_at S.out.res 4 _ rfl
  have rz4 := frozen_at S.out.res 4
  have ZQ := hide hzq
  clear hL hB f1 GX hzq hdl hs hz HBX hdc hk1 hr1 hrl
  go_enter Tryz.func76, Tryz.ntmps76
  go_wp2_with (go_at_call 107; refine HTK.out.mono ?_; clear HTK; rintro e w2 ⟨rfl, rfl⟩)
  clear hW x0 v0 hsub hcell sz p0 p1 r0 r1 r2 r3 r4 rz0 rz1 rz2 rz3 rz4
  obtain ⟨V0, hV0⟩ : ∃ V0, (W.setCell ⟨lb, 0, none⟩ (.int .i64 (z - 1))).alloc (.cells #[.int .i64 7, .int .i64 0, .int .i64 0, .string ⟨#[]⟩, .slice none 0 0] 46) = V0 := ⟨_, rfl⟩
  have HV0 : Hid (V0.heap[w.heap.size]? = some (.cells zcells 46 (0, 0)) ∧ V0.heap[w.heap.size + 1]? = some (.cells #[.int .i64 7, .int .i64 0, .int .i64 0, .string ⟨#[]⟩, .slice none 0 0] 46 (0, 0)) ∧ LeftI V0 lb (z - 1) ∧ w.grownBy V0 (some lb) ∧ V0.heap.size = w.heap.size + 2) := by
    rw [← hV0]
    have h1 := S.out
    have h2 := World.alloc_heap_new (W.setCell ⟨lb, 0, none⟩ (.int .i64 (z - 1))) (.cells #[.int .i64 7, .int .i64 0, .int .i64 0, .string ⟨#[]⟩, .slice none 0 0] 46)
    rw [h1.sz] at h2
    have h3 := h1.lt
    exact ⟨(Below.heap_alloc _ _ _ (by rw [h1.sz]; omega)).trans h1.res, h2, (Below.heap_alloc _ _ _ (by rw [h1.sz]; omega)).trans h1.lft, grown_more h1.gr (grown_of_below (alloc_v (Below.refl _ _) _)), by rw [World.size_alloc, h1.sz]⟩
  rw [hV0]
  clear hV0 S zW bW HGX
  go_loopw [1, 11] (fun iv nv wr => ∃ (m : Nat) (xs : List Vl) (pk qk : Nat) (o : Value), iv = .int .i64 (pk : Int) ∧ nv = .int .u64 (m : Int) ∧ m ≤ K ∧ pk ≤ l.length ∧ qk ≤ 4096 ∧ q + 1 + xs.length ≤ qk ∧ Hid (T = itsJ xs (itsM (readM l n) m pk qk)) ∧ wr.heap[w.heap.size + 1]? = some (.cells #[.int .i64 7, .int .i64 0, .int .i64 0, .string ⟨#[]⟩, o] 46 (0, 0)) ∧ OwnAt wr (w.heap.size + 2) n o xs ∧ LeftI wr lb ((4096 : Int) - qk) ∧ wr.heap[w.heap.size]? = some (.cells zcells 46 (0, 0)) ∧ w.grownBy wr (some lb) ∧ w.heap.size + 2 ≤ wr.heap.size)
    (fun _ nv _ => (intOf nv).toNat)
  case atStart =>
    refine ⟨K, [], pq, q + 1, .slice none 0 0, rfl, rfl, Nat.le_refl _, hpp, hq, Nat.le_refl _, hide ?_, HV0.out.2.1, OwnAt.nil _ _ _, ?_, HV0.out.1, HV0.out.2.2.2.1, by rw [HV0.out.2.2.2.2]; omega⟩
    · rw [HTT.out]
      cases T with
      | none => rfl
      | some t => obtain ⟨ys, t⟩ := t; rfl
    · rw [ZQ.out]
      exact HV0.out.2.2.1
  case round =>
    clear HV0 HTT
    obtain ⟨m, xs, pk, qk, o, rfl, rfl, hmK, hpk, hqk, hqq, HT, hvb, hO, hL, hrs, hgr, hsz⟩ := hrel
    cases m with
    | succ j =>
      have hm0 : (0 : Int) < ((j + 1 : Nat) : Int) := by omega
      have hwn : IntKind.u64.wrap (((j + 1 : Nat) : Int) - 1) = (j : Int) := by rw [IntKind.wrap_u64]; omega
      have hdd : (16 : Int) - n + 1 = (17 : Int) - n := by omega
      have hX := HC.out wr lb B qk pk _ hL (HB.out.grownV hgr hb (by omega)) hb hpk hl hqk (by omega)
      obtain ⟨oa, oc, rfl⟩ := hO.len
      have HV := hide (fun (U : World) (g : wr.grownBy U (some lb)) => (g.block (w.heap.size + 1) (by omega) (by simp; omega)).trans hvb)
      have HRS := hide (fun (U : World) (g : wr.grownBy U (some lb)) => (g.block w.heap.size (by omega) (by simp; omega)).trans hrs)
      have HGR := hide hgr
      simp only [itsM] at HT
      cases eg : readM l n pk qk with
      | none =>
        rw [eg] at hX HT
        have HX := hide hX
        have HTN : Hid (T = none) := HT
        clear hX hvb hO hL hrs hgr eg HT
        go_wp2_with (go_at_call 76; refine HX.out.mono ?_; clear HX; rintro e w4 ⟨xk, xi, xm, xt, xa, xn, xc, rfl, g4⟩; obtain ⟨w5, hw5⟩ : ∃ w5, w4.alloc (.cells #[.int .i64 xk, .int .i64 xi, .int .i64 xm, .string xt, .slice xa xn xc] 46) = w5 := ⟨_, rfl⟩; have g5 : wr.grownBy w5 (some lb) := (by rw [← hw5]; exact grown_more g4 (grown_of_below (alloc_v (Below.refl _ _) _))); have f4 := HV.out _ g5; have f5 := HRS.out _ g5; have v0 := cells_at f4 0 _ rfl; have v1 := cells_at f4 1 _ rfl; have v2 := cells_at f4 2 _ rfl; have v3 := cells_at f4 3 _ rfl; have v4 := cells_at f4 4 _ rfl; have r0 := cells_at f5 0 _ rfl; have rz0 := frozen_at f5 0; have r1 := cells_at f5 1 _ rfl; have rz1 := frozen_at f5 1; have r2 := cells_at f5 2 _ rfl; have rz2 := frozen_at f5 2; have r3 := cells_at f5 3 _ rfl; have rz3 := frozen_at f5 3; have r4 := cells_at f5 4 _ rfl; have rz4 := frozen_at f5 4; have F5 := hide f5; have G5 := hide g5; clear f4 f5 g4 g5)
        have D := rd_fin F5.out (grown_more HGR.out G5.out) (.int .i64 7) (.int .i64 0) (.int .i64 0) (.string ⟨#[]⟩) (.slice oa xs.length oc)
        refine bodyPost_ret (results_struct_tmp rfl _ _ w.heap.size _ _ _ _ rfl D.1 Tryz.underlying46 rfl infoVal5) rfl ?_
        rw [HTN.out]
        exact ⟨_, _, _, _, _, _, _, rfl, D.2.1⟩
      | some t =>
        obtain ⟨x, p3, q3⟩ := t
        rw [eg] at hX HT
        have hle := readM_ok l hl n hpk eg
        have HX := hide hX
        have hxl : xs.length + 1 ≤ 1000000000 := by omega
        have HP := hide (fun (U : World) (s : Value) (g : wr.grownBy U (some lb)) (i : ItemsIn U (fun b => wr.heap.size ≤ b ∧ b < U.heap.size) n s x.items) =>
          OwnAt.pushX (ty := 44) (x := x) (hO.far g.size (fun k h1 h2 => g.block k h2 (by simp; omega))) (by have := g.size; omega) (i.kept (fun _ _ _ => rfl) (fun b hb => ⟨by omega, hb.2, fun eq => by have := (hO.lt eq.symm).2; omega⟩)) hle.1 hxl)
        have HNX : Hid (T = itsJ (xs ++ [x]) (itsM (readM l n) j p3 q3)) := by
          have e : T = itsJ xs (match itsM (readM l n) j p3 q3 with | none => none | some (xs', r) => some (x :: xs', r)) := HT
          show T = _
          rw [e]
          generalize itsM (readM l n) j p3 q3 = R
          rcases R with _ | ⟨ys, t⟩
          · rfl
          · simp [itsJ]
        have HLE := hide hle
        have HQ := hide hqq
        have hp3 := hle.2.1
        clear hX hvb hO hL hrs hgr eg HT hle hxl hqq
        go_wp2_with (first
          | (go_at_call 76; refine HX.out.mono ?_; clear HX; rintro e w4 ⟨s4, rfl, i4, d4, g4⟩; obtain ⟨sa4, sc4, rfl, _⟩ := i4.len; obtain ⟨w6, hw6⟩ : ∃ w6, w4.alloc (.cells #[.int .i64 x.kind, .int .i64 x.int, .int .i64 x.im, .string x.text, .slice sa4 x.items.length sc4] 46) = w6 := ⟨_, rfl⟩; have b6 : Below w4.heap.size w4 w6 := (by rw [← hw6]; exact alloc_v (Below.refl _ _) _); have e6 : w6.heap[w4.heap.size]? = some (.cells #[.int .i64 x.kind, .int .i64 x.int, .int .i64 x.im, .string x.text, .slice sa4 x.items.length sc4] 46 (0, 0)) := (by rw [← hw6]; exact World.alloc_heap_new w4 _); have y0 := cells_at e6 0 _ rfl; have y1 := cells_at e6 1 _ rfl; have y2 := cells_at e6 2 _ rfl; have y3 := cells_at e6 3 _ rfl; have y4 := cells_at e6 4 _ rfl; have ga := grown_more g4 (grown_of_below (r := some lb) b6); have i5 := i4.kept (w' := w6) (S' := fun b => wr.heap.size ≤ b ∧ b < w6.heap.size) (fun b o hb => (bcellV b6).1 b o hb.2) (fun b hb => ⟨hb.1, by have := b6.size; omega⟩); obtain ⟨v5, w5, hrun, o5, b5⟩ := HP.out _ _ ga i5; obtain ⟨va, vc, rfl⟩ := o5.len; have k4 : w6.cell? ⟨w.heap.size + 1, 4, none⟩ = some (.slice oa xs.length oc) := cells_at (HV.out w6 ga) 4 _ rfl; have k4a := fun ob : Obj => (World.cell?_alloc_some w6 ⟨w.heap.size + 1, 4, none⟩ ob (by rw [k4]; rfl)).trans k4; have F4 := hide (HV.out _ ga); have R4 := hide (HRS.out _ ga); have lb4 : lb < w4.heap.size := (Array.getElem?_eq_some_iff.1 d4).1; have D4 := hide ((b6.block lb lb4).trans d4); have RN := hide hrun; have O5 := hide o5; have B5 := hide b5; have GA := hide ga; have f5 := (b5.block (w.heap.size + 1) (by omega)).trans F4.out; have z5 := frozen_at f5 4; have k5 := cells_at f5 4 _ rfl; have F5 := hide f5; clear hrun o5 b5 d4 g4 ga i4 i5 HP f5 b6 e6)
          | (at_builtin; refine Lib.wpList_append_run _ rfl (.tmp 145) (.tmp 147) 44 44 rfl _ _ rfl rfl _ _ RN.out ?_))
        go_roundw
        case rel =>
          have hL5 := B5.out.size
          have hL6 := GA.out.size
          have h1 : w.heap.size + 2 ≤ w6.heap.size := by omega
          have g5 := grown_L (grown_more HGR.out GA.out) B5.out (by omega) h1
          have hqq := HQ.out
          have hle := HLE.out
          refine ⟨j, xs ++ [x], p3, q3, .slice va (xs ++ [x]).length vc, by go_num, by go_num, by omega, hp3, hle.2.2.2, by rw [List.length_append, List.length_singleton]; have := hle.2.2.1; omega, HNX, ?_, ?_, ?_, ?_, grown_far g5 (by omega), ?_⟩
          · rw [List.length_append]
            exact heap_setCell_same _ _ 4 _ _ _ F5.out
          · exact O5.out.far (by simp [World.setCell]) (fun k h1 _ => Below.heap_setCell _ _ _ _ (by show k ≠ w.heap.size + 1; omega))
          · exact (Below.heap_setCell _ _ _ _ (by show lb ≠ w.heap.size + 1; omega)).trans ((B5.out.block lb (by omega)).trans D4.out)
          · exact (Below.heap_setCell _ _ _ _ (by show w.heap.size ≠ w.heap.size + 1; omega)).trans ((B5.out.block w.heap.size (by omega)).trans R4.out)
          · simp only [World.setCell]
            simpa using (show w.heap.size + 2 ≤ w5.heap.size by omega)
        case measure => simp [intOf]
    | zero =>
      have HTN : Hid (T = some (xs, pk, qk)) := by
        have e := HT.out
        simp [itsM, itsJ] at e
        exact e
      have hit := hO.items (by unfold maxLen; omega)
      obtain ⟨oa, oc, rfl⟩ := hO.len
      have v0 := cells_at hvb 0 _ rfl
      have v1 := cells_at hvb 1 _ rfl
      have v2 := cells_at hvb 2 _ rfl
      have v3 := cells_at hvb 3 _ rfl
      have v4 := cells_at hvb 4 _ rfl
      have r0 := cells_at hrs 0 _ rfl
      have rz0 := frozen_at hrs 0
      have r1 := cells_at hrs 1 _ rfl
      have rz1 := frozen_at hrs 1
      have r2 := cells_at hrs 2 _ rfl
      have rz2 := frozen_at hrs 2
      have r3 := cells_at hrs 3 _ rfl
      have rz3 := frozen_at hrs 3
      have r4 := cells_at hrs 4 _ rfl
      have rz4 := frozen_at hrs 4
      have F := hide (And.intro hvb (And.intro hL (And.intro hrs (And.intro hgr hit))))
      clear hvb hL hrs hgr hit hO HT
      go_wp2
      have D := rd_fin F.out.2.2.1 F.out.2.2.2.1 (.int .i64 7) (.int .i64 0) (.int .i64 0) (.string ⟨#[]⟩) (.slice oa xs.length oc)
      refine bodyPost_ret (results_struct_tmp rfl _ _ w.heap.size _ _ _ _ rfl D.1 Tryz.underlying46 rfl infoVal5) rfl ?_
      rw [HTN.out]
      refine ⟨.slice oa xs.length oc, rfl, F.out.2.2.2.2.kept (fun b o hb => World.cell?_of_block (D.2.2.1 b (by omega))) (fun b hb => ⟨by omega, by rw [D.2.2.2]; exact hb.2⟩), (D.2.2.1 lb (by omega)).trans F.out.2.1, D.2.1⟩
set_option maxRecDepth 100000 in
set_option maxHeartbeats 4000000 in
/-- read, where nothing more may come. -/
theorem read_stop (w : World) (lb B q i : Nat) (sl : Value) (l : List UInt8) (d : Int) (hL : LeftI w lb ((4096 : Int) - q)) (hB : BytesIn w 0 B sl l) (_hl : l.length ≤ 1000000000000) (hq : q ≤ 4096) (h : l.length ≤ i ∨ 4096 < q + 1 ∨ 16 < d) :
    Calls Tryz.prog 76 #[sl, .int .i64 i, .int .i64 d, .pointer (some ⟨lb, 0, none⟩)] w fun e w' => RdNo w lb e w' := by
  obtain ⟨a, c, rfl, _⟩ := id hB
  have hlb : lb < w.heap.size := (Array.getElem?_eq_some_iff.1 hL).1
  obtain ⟨z, hz⟩ : ∃ z : Int, (4096 : Int) - q = z := ⟨_, rfl⟩
  rw [hz] at hL
  obtain ⟨W, hW⟩ : ∃ W, w.alloc (.cells zcells 46) = W := ⟨_, rfl⟩
  have bW : Below w.heap.size w W := by rw [← hW]; exact alloc_v (Below.refl _ _) _
  have zW : W.heap.size = w.heap.size + 1 := by rw [← hW]; simp
  have f1 : LeftI W lb z := (bW.block _ hlb).trans hL
  have x0 := cells_at f1 0 _ rfl
  have v0 := frozen_at f1 0
  have hsub : IntKind.i64.wrap (z - 1) = z - 1 := by rw [IntKind.wrap_i64]; omega
  have S := hide (rst_start w W lb z hL hW)
  have r0 := cells_at S.out.res 0 _ rfl
  have rz0 := frozen_at S.out.res 0
  have r1 := cells_at S.out.res 1 _ rfl
  have rz1 := frozen_at S.out.res 1
  have r2 := cells_at S.out.res 2 _ rfl
  have rz2 := frozen_at S.out.res 2
  have r3 := cells_at S.out.res 3 _ rfl
  have rz3 := frozen_at S.out.res 3
  have r4 := cells_at S.out.res 4 _ rfl
  have rz4 := frozen_at S.out.res 4
  clear hL hB f1
  by_cases h1 : (l.length : Int) ≤ (i : Int)
  · clear h
    go_enter Tryz.func76, Tryz.ntmps76
    go_wp2
    have D := rd_fin S.out.res S.out.gr (.int .i64 0) (.int .i64 0) (.int .i64 0) (.string ⟨#[]⟩) (.slice none 0 0)
    refine bodyPost_ret (results_struct_tmp rfl _ _ w.heap.size _ _ _ _ rfl D.1 Tryz.underlying46 rfl infoVal5) rfl ?_
    exact ⟨_, _, _, _, _, _, _, rfl, D.2.1⟩
  by_cases h2 : z - 1 < 0
  · clear h
    go_enter Tryz.func76, Tryz.ntmps76
    go_wp2
    have D := rd_fin S.out.res S.out.gr (.int .i64 0) (.int .i64 0) (.int .i64 0) (.string ⟨#[]⟩) (.slice none 0 0)
    refine bodyPost_ret (results_struct_tmp rfl _ _ w.heap.size _ _ _ _ rfl D.1 Tryz.underlying46 rfl infoVal5) rfl ?_
    exact ⟨_, _, _, _, _, _, _, rfl, D.2.1⟩
  · have h3 : (16 : Int) < d := by omega
    clear h
    go_enter Tryz.func76, Tryz.ntmps76
    go_wp2
    have D := rd_fin S.out.res S.out.gr (.int .i64 0) (.int .i64 0) (.int .i64 0) (.string ⟨#[]⟩) (.slice none 0 0)
    refine bodyPost_ret (results_struct_tmp rfl _ _ w.heap.size _ _ _ _ rfl D.1 Tryz.underlying46 rfl infoVal5) rfl ?_
    exact ⟨_, _, _, _, _, _, _, rfl, D.2.1⟩
end Go.Proofs.YtcedpdneanjbkaaGreatDoor

/- The reference's Decode. -/
namespace Go.Proofs.YtcedpdneanjbkaaGreatDoor
open Go.RowKit

/-- read, of any bytes. -/
theorem refRead_step {l : List UInt8} {n : Nat} (hC : ReadC l n) : ReadC l (n + 1) := by
  intro w lb B q i sl hL hB hb hi hl hq hn
  have hdp : (17 : Int) - ((n + 1 : Nat) : Int) = (16 : Int) - n := by omega
  rw [hdp]
  by_cases hq1 : 4096 < q + 1
  · have e : readM l (n + 1) i q = none := by rw [readM, if_pos hq1]
    rw [e]
    exact read_stop w lb B q i sl l _ hL hB (by omega) hq (.inr (.inl hq1))
  by_cases hil : i < l.length
  rotate_left
  · have e : readM l (n + 1) i q = none := by
      rw [readM, if_neg hq1, List.drop_of_length_le (by omega)]
      rfl
    rw [e]
    exact read_stop w lb B q i sl l _ hL hB (by omega) hq (.inl (by omega))
  obtain ⟨k, r, hs⟩ : ∃ k r, l.drop i = k :: r := ⟨_, _, List.drop_eq_getElem_cons hil⟩
  have hl2 : l.length ≤ 1000000000000 := by omega
  have hq2 : q + 1 ≤ 4096 := by omega
  have hn2 : n ≤ 15 := by omega
  have hlen : (l.drop i).length = l.length - i := List.length_drop
  have hrl : (k :: r).length = r.length + 1 := rfl
  rw [readM, if_neg hq1, hs]
  simp only [headM]
  have hff := front_fits r
  by_cases k1 : k.toNat = 1
  · rw [if_pos k1]
    cases r with
    | nil => exact read_bool_no n w lb B q i sl l hL hB hb hil hl2 hq2 hn2 k _ hs k1 rfl
    | cons y r2 =>
      have h := read_bool n w lb B q i sl l hL hB hb hil hl2 hq2 hn2 k _ hs k1 y r2 rfl
      have e1 : i + ((k :: y :: r2).length - r2.length) = i + 2 := by simp only [List.length_cons]; omega
      simp only [e1, itsM]
      exact h
  rw [if_neg k1]
  by_cases k2 : k.toNat = 2
  · rw [if_pos k2]
    by_cases hf : (front r).2.2 = 0
    · rw [if_pos hf]
      have h := read_int n w lb B q i sl l hL hB hb hil hl2 hq2 hn2 k _ hs k2 hf
      have e1 : i + ((k :: r).length - (r.drop (front r).2.1).length) = i + 1 + (front r).2.1 := by rw [List.length_drop, List.length_cons]; omega
      simp only [e1, itsM]
      exact h
    · rw [if_neg hf]
      exact read_take_no2 n w lb B q i sl l hL hB hb hil hl2 hq2 hn2 k _ hs k2 hf
  rw [if_neg k2]
  by_cases k3 : k.toNat = 3
  · rw [if_pos k3]
    by_cases hf : (front r).2.2 = 0
    · rw [if_pos hf]
      by_cases hf2 : (front (r.drop (front r).2.1)).2.2 = 0
      · rw [if_pos hf2]
        have h := read_gauss n w lb B q i sl l hL hB hb hil hl2 hq2 hn2 k _ hs k3 hf hf2
        have hff2 := front_fits (r.drop (front r).2.1)
        rw [List.length_drop] at hff2
        have e1 : i + ((k :: r).length - ((r.drop (front r).2.1).drop (front (r.drop (front r).2.1)).2.1).length) = i + 1 + (front r).2.1 + (front (r.drop (front r).2.1)).2.1 := by rw [List.length_drop, List.length_drop, List.length_cons]; omega
        simp only [e1, itsM]
        exact h
      · rw [if_neg hf2]
        exact read_gauss_no n w lb B q i sl l hL hB hb hil hl2 hq2 hn2 k _ hs k3 hf hf2
    · rw [if_neg hf]
      exact read_take_no3 n w lb B q i sl l hL hB hb hil hl2 hq2 hn2 k _ hs k3 hf
  rw [if_neg k3]
  by_cases k4 : k.toNat = 4
  · rw [if_pos k4]
    by_cases hf : (front r).2.2 = 0
    · by_cases hlong : (front r).1 ≤ r.length - (front r).2.1
      · have et : textErr r = 0 := by unfold textErr; rw [if_neg (fun h => h.2 hlong)]; exact hf
        rw [if_pos et]
        have h := read_sym n w lb B q i sl l hL hB hb hil hl hq2 hn2 k _ hs k4 hf hlong
        have e1 : i + ((k :: r).length - (textRest r).length) = i + 1 + (front r).2.1 + (front r).1 := by
          unfold textRest
          rw [if_pos ⟨hf, hlong⟩, List.length_drop, List.length_cons]
          omega
        simp only [e1, itsM]
        exact h
      · have et : ¬ textErr r = 0 := by unfold textErr; rw [if_pos ⟨hf, hlong⟩]; decide
        rw [if_neg et]
        exact read_sym_no n w lb B q i sl l hL hB hb hil hl2 hq2 hn2 k _ hs k4 hf hlong
    · have et : ¬ textErr r = 0 := by unfold textErr; rw [if_neg (fun h => hf h.1)]; exact hf
      rw [if_neg et]
      exact read_take_no4 n w lb B q i sl l hL hB hb hil hl2 hq2 hn2 k _ hs k4 hf
  rw [if_neg k4]
  by_cases k5 : k.toNat = 5 ∨ k.toNat = 6 ∨ k.toNat = 7
  · rw [if_pos k5]
    by_cases hf : (front r).2.2 = 0
    · rw [if_pos hf]
      have e1 : i + ((k :: r).length - (r.drop (front r).2.1).length) = i + 1 + (front r).2.1 := by rw [List.length_drop, List.length_cons]; omega
      simp only [e1]
      have hkk : ¬ ((k.toNat : Int) < 1 ∨ 7 < (k.toNat : Int)) := by omega
      rw [if_neg hkk]
      have fin : ∀ (kk : Int) (T : Option (List Vl × Nat × Nat)) (e : Ending) (w' : World), RdI w lb (n + 1) kk T e w' → RdR w lb (n + 1) (match T with | none => none | some (xs, t) => some (⟨kk, 0, 0, ⟨#[]⟩, xs⟩, t)) e w' := fun kk T e w' h => by
        rcases T with _ | ⟨xs, p', q'⟩
        · exact h
        · exact h
      rcases k5 with k5 | k5 | k5
      · exact (read_items5 n w lb B q i sl l hL hB hb hil hl hq2 hn2 k _ hs hC k5 hf).mono (fun e w' h => by have := fin 5 _ e w' h; rw [show (k.toNat : Int) = 5 by omega]; exact this)
      · exact (read_items6 n w lb B q i sl l hL hB hb hil hl hq2 hn2 k _ hs hC k5 hf).mono (fun e w' h => by have := fin 6 _ e w' h; rw [show (k.toNat : Int) = 6 by omega]; exact this)
      · exact (read_items7 n w lb B q i sl l hL hB hb hil hl hq2 hn2 k _ hs hC k5 hf).mono (fun e w' h => by have := fin 7 _ e w' h; rw [show (k.toNat : Int) = 7 by omega]; exact this)
    · rw [if_neg hf]
      rcases k5 with k5 | k5 | k5
      · exact read_take_no5 n w lb B q i sl l hL hB hb hil hl2 hq2 hn2 k _ hs k5 hf
      · exact read_take_no6 n w lb B q i sl l hL hB hb hil hl2 hq2 hn2 k _ hs k5 hf
      · exact read_take_no7 n w lb B q i sl l hL hB hb hil hl2 hq2 hn2 k _ hs k5 hf
  rw [if_neg k5]
  simp only
  have hkk : ((k.toNat : Int) < 1 ∨ 7 < (k.toNat : Int)) := by omega
  rw [if_pos hkk]
  by_cases k0 : k.toNat = 0
  · exact read_low n w lb B q i sl l hL hB hb hil hl2 hq2 hn2 k _ hs k0
  · exact read_high n w lb B q i sl l hL hB hb hil hl2 hq2 hn2 k _ hs (by omega)
theorem refRead_zero (l : List UInt8) : ReadC l 0 := by
  intro w lb B q i sl hL hB hb hi hl hq hn
  exact read_stop w lb B q i sl l _ hL hB (by omega) hq (.inr (.inr (by decide)))
theorem refRead_k (l : List UInt8) : ∀ n, ReadC l n
  | 0 => refRead_zero l
  | n + 1 => refRead_step (refRead_k l n)
theorem results_struct_tmps3 {P : Program} {fn : Func} {p u v : Tmp} {ty : TypeId} (h : fn.results = #[.cell p ty, .tmp u, .tmp v]) (tmps : Array Value) (w : World) (g : Nat) (t : TypeId) (cs : Array Value) (fr : Nat × Nat) (d : TypeDesc)
    (hp : tmps.getD p undef = .pointer (some ⟨g, 0, none⟩)) (hg : w.heap[g]? = some (.cells cs t fr))
    (hu : P.underlying ty = some d) (hd : (match d with | .struct _ | .array _ _ => true | _ => false) = true) (hi : (P.info? ty).map (·.size) = some cs.size) :
    (results fn tmps).run P w = .ok (.tuple #[.agg cs, tmps.getD u undef, tmps.getD v undef]) w := by
  have hp' : tmps[p]?.getD undef = .pointer (some ⟨g, 0, none⟩) := by simpa using hp
  simp [results, h, hp', asAddr, run_loadVar_row w g t ty cs fr d hg hu hd hi]
theorem dec4_start (w W : World) (hW : (w.alloc (.cells zcells 46)).alloc (.cells #[.int .i64 4096] 3) = W) : Below w.heap.size w W ∧ W.heap.size = w.heap.size + 2 ∧ W.heap[w.heap.size]? = some (.cells zcells 46 (0, 0)) ∧ LeftI W (w.heap.size + 1) 4096 := by
  refine ⟨by rw [← hW]; exact alloc_v (alloc_v (Below.refl _ _) _) _, by rw [← hW]; simp, ?_, ?_⟩
  · rw [← hW]; exact (Below.heap_alloc _ _ _ (by simp only [World.size_alloc]; omega)).trans (World.alloc_heap_new w _)
  · rw [← hW]
    have := World.alloc_heap_new (w.alloc (.cells zcells 46)) (.cells #[.int .i64 4096] 3)
    rwa [World.size_alloc] at this
theorem refRead_all (w W : World) (a : Option Addr) (c : Nat) (l : List UInt8) (hB : BytesIn w 0 w.heap.size (.slice a l.length c) l) (hl : l.length ≤ 1048576) (bW : Below w.heap.size w W) (e1 : LeftI W (w.heap.size + 1) 4096) :
    Calls Tryz.prog 76 #[.slice a l.length c, .int .i64 0, .int .i64 1, .pointer (some ⟨w.heap.size + 1, 0, none⟩)] W fun e w' => RdR W (w.heap.size + 1) 16 (readM l 16 0 0) e w' :=
  refRead_k l 16 W (w.heap.size + 1) w.heap.size 0 0 _ e1 (hB.mono (fun b o _ hb => bW.cell (p := ⟨b, o, none⟩) hb) (Nat.le_refl _) (Nat.le_refl _)) (by omega) (Nat.zero_le _) hl (by omega) (by omega)
set_option maxRecDepth 100000 in
set_option maxHeartbeats 4000000 in
theorem refDec_k (w : World) (sl : Value) (l : List UInt8) (hB : BytesIn w 0 w.heap.size sl l) (hl : l.length ≤ 1048576) (v : Vl) (p' q' : Nat) (hd : readM l 16 0 0 = some (v, p', q')) (hr : rightV v = true) :
    Calls Tryz.prog 45 #[sl] w fun e w' => ∃ s', e = .returned (.tuple #[.agg (vcells v s'), .int .i64 p', .int .i64 0]) ∧ ItemsIn w' (fun b => w.heap.size ≤ b ∧ b < w'.heap.size) 16 s' v.items ∧ Below w.heap.size w w' := by
  obtain ⟨a, c, rfl, _⟩ := id hB
  obtain ⟨W, hW⟩ : ∃ W, (w.alloc (.cells zcells 46)).alloc (.cells #[.int .i64 4096] 3) = W := ⟨_, rfl⟩
  obtain ⟨bW, zW, e0, e1⟩ := dec4_start w W hW
  have hR := refRead_all w W a c l hB hl bW e1
  rw [hd] at hR
  have HRD := hide hR
  have hvt := (readM_ok l hl 16 (Nat.zero_le _) hd).1.1
  have HR := hide hr
  have HE := hide (And.intro e0 zW)
  obtain ⟨vk, vi, vm, vt, vl⟩ := v
  have hp0 : ¬ ((p' : Int) < 0) := by omega
  clear hR hd hB e0 e1 hr zW
  go_enter Tryz.func45, Tryz.ntmps45
  go_wp2_with (first
    | (go_at_call 76; refine HRD.out.mono ?_; clear HRD; rintro e w3 ⟨s3, rfl, i3, d3, g3⟩; obtain ⟨sa, sc, rfl, _⟩ := i3.len; obtain ⟨w4, hw4⟩ : ∃ w4, w3.alloc (.cells #[.int .i64 vk, .int .i64 vi, .int .i64 vm, .string vt, .slice sa vl.length sc] 46) = w4 := ⟨_, rfl⟩; have b4 : Below w3.heap.size w3 w4 := (by rw [← hw4]; exact alloc_v (Below.refl _ _) _); have e4 : w4.heap[w3.heap.size]? = some (.cells #[.int .i64 vk, .int .i64 vi, .int .i64 vm, .string vt, .slice sa vl.length sc] 46 (0, 0)) := (by rw [← hw4]; exact World.alloc_heap_new w3 _); have y0 := cells_at e4 0 _ rfl; have y1 := cells_at e4 1 _ rfl; have y2 := cells_at e4 2 _ rfl; have y3 := cells_at e4 3 _ rfl; have y4 := cells_at e4 4 _ rfl; have hs4 := b4.size; have HRT := hide (refRight_k ⟨vk, vi, vm, vt, vl⟩ w4 16 (.slice sa vl.length sc) hvt ((i3.kept (w' := w4) (S' := fun b => b < w4.heap.size) (fun b o hb => (bcellV b4).1 b o hb.2) (fun b hb => by have := hb.2; omega)).at (fun b hb => hb))); rw [HR.out] at HRT; have I3 := hide i3; have G3 := hide g3; have B4 := hide b4; have E4 := hide e4; clear i3 d3 g3 b4 e4 hs4)
    | (go_at_call 29; refine HRT.out.mono ?_; clear HRT; rintro e w5 ⟨rfl, b5⟩; have l4 : w3.heap.size < w4.heap.size := (Array.getElem?_eq_some_iff.1 E4.out).1; have e5 := (b5.block _ l4).trans E4.out; have l3 : w.heap.size + 2 ≤ w3.heap.size := (by have := G3.out.size; have := HE.out.2; omega); have f5 := (b5.block w.heap.size (by omega)).trans ((B4.out.block w.heap.size (by omega)).trans ((G3.out.block w.heap.size (by have := HE.out.2; omega) (by simp)).trans HE.out.1)); have z0 := cells_at e5 0 _ rfl; have z1 := cells_at e5 1 _ rfl; have z2 := cells_at e5 2 _ rfl; have z3 := cells_at e5 3 _ rfl; have z4 := cells_at e5 4 _ rfl; have r0 := cells_at f5 0 _ rfl; have rz0 := frozen_at f5 0; have r1 := cells_at f5 1 _ rfl; have rz1 := frozen_at f5 1; have r2 := cells_at f5 2 _ rfl; have rz2 := frozen_at f5 2; have r3 := cells_at f5 3 _ rfl; have rz3 := frozen_at f5 3; have r4 := cells_at f5 4 _ rfl; have rz4 := frozen_at f5 4; have F5 := hide f5; have B5 := hide b5; have ne5 : w3.heap.size ≠ w.heap.size := (by omega); clear e5 f5 b5))
  have bw3 : Below w.heap.size w w3 := below_of_grown (grown_more (grown_of_below bW) G3.out) (by omega)
  have bw5 := trans_v (trans_v bw3 B4.out) B5.out
  have G := stored w w5 vk vi vm vt (.slice sa vl.length sc) zcells w.heap.size (Nat.le_refl _) bw5 rfl F5.out
  refine bodyPost_ret (results_struct_tmps3 rfl _ _ w.heap.size _ _ _ _ rfl G.1 Tryz.underlying46 rfl infoVal5) rfl ?_
  refine ⟨.slice sa vl.length sc, rfl, I3.out.kept (fun b o hb => ?_) (fun b hb => ⟨by have := hb.1; have := HE.out.2; omega, ?_⟩), G.2⟩
  · have hb1 := hb.1
    have hb2 := hb.2
    have h4 := B4.out.size
    exact (stored_cell2 _ _ _ _ _ _ _ _ _ (by have := HE.out.2; omega)).trans (((bcellV B5.out).1 b o (by omega)).trans ((bcellV B4.out).1 b o hb2))
  · have hb2 := hb.2
    have h4 := B4.out.size
    have h5 := B5.out.size
    simp only [World.setCell]
    simpa using (show b < w5.heap.size by omega)
set_option maxRecDepth 100000 in
set_option maxHeartbeats 4000000 in
theorem refDec_none (w : World) (sl : Value) (l : List UInt8) (hB : BytesIn w 0 w.heap.size sl l) (hl : l.length ≤ 1048576) (hd : readM l 16 0 0 = none) :
    Calls Tryz.prog 45 #[sl] w fun e w' => e = .returned (.tuple #[.agg zcells, .int .i64 0, .int .i64 41]) ∧ Below w.heap.size w w' := by
  obtain ⟨a, c, rfl, _⟩ := id hB
  obtain ⟨W, hW⟩ : ∃ W, (w.alloc (.cells zcells 46)).alloc (.cells #[.int .i64 4096] 3) = W := ⟨_, rfl⟩
  obtain ⟨bW, zW, e0, e1⟩ := dec4_start w W hW
  have hR := refRead_all w W a c l hB hl bW e1
  rw [hd] at hR
  have HRD := hide hR
  have HE := hide (And.intro e0 zW)
  clear hR hd hB e0 e1 zW
  go_enter Tryz.func45, Tryz.ntmps45
  go_wp2_with (go_at_call 76; refine HRD.out.mono ?_; clear HRD; rintro e w3 ⟨xk, xi, xm, xt, xa, xn, xc, rfl, g3⟩; obtain ⟨w4, hw4⟩ : ∃ w4, w3.alloc (.cells #[.int .i64 xk, .int .i64 xi, .int .i64 xm, .string xt, .slice xa xn xc] 46) = w4 := ⟨_, rfl⟩; have b4 : Below w3.heap.size w3 w4 := (by rw [← hw4]; exact alloc_v (Below.refl _ _) _); have l3 : w.heap.size + 2 ≤ w3.heap.size := (by have := g3.size; have := HE.out.2; omega); have f5 := (b4.block w.heap.size (by omega)).trans ((g3.block w.heap.size (by have := HE.out.2; omega) (by simp)).trans HE.out.1); have r0 := cells_at f5 0 _ rfl; have rz0 := frozen_at f5 0; have r1 := cells_at f5 1 _ rfl; have rz1 := frozen_at f5 1; have r2 := cells_at f5 2 _ rfl; have rz2 := frozen_at f5 2; have r3 := cells_at f5 3 _ rfl; have rz3 := frozen_at f5 3; have r4 := cells_at f5 4 _ rfl; have rz4 := frozen_at f5 4; have F5 := hide f5; have B4 := hide b4; have G3 := hide g3; clear f5 b4 g3)
  have bw3 : Below w.heap.size w w3 := below_of_grown (grown_more (grown_of_below bW) G3.out) (by omega)
  have G := stored w w4 0 0 0 ⟨#[]⟩ (.slice none 0 0) zcells w.heap.size (Nat.le_refl _) (trans_v bw3 B4.out) rfl F5.out
  refine bodyPost_ret (results_struct_tmps3 rfl _ _ w.heap.size _ _ _ _ rfl G.1 Tryz.underlying46 rfl infoVal5) rfl ?_
  exact ⟨rfl, G.2⟩
set_option maxRecDepth 100000 in
set_option maxHeartbeats 4000000 in
theorem refDec_wrong (w : World) (sl : Value) (l : List UInt8) (hB : BytesIn w 0 w.heap.size sl l) (hl : l.length ≤ 1048576) (v : Vl) (p' q' : Nat) (hd : readM l 16 0 0 = some (v, p', q')) (hr : rightV v = false) :
    Calls Tryz.prog 45 #[sl] w fun e w' => e = .returned (.tuple #[.agg zcells, .int .i64 0, .int .i64 41]) ∧ Below w.heap.size w w' := by
  obtain ⟨a, c, rfl, _⟩ := id hB
  obtain ⟨W, hW⟩ : ∃ W, (w.alloc (.cells zcells 46)).alloc (.cells #[.int .i64 4096] 3) = W := ⟨_, rfl⟩
  obtain ⟨bW, zW, e0, e1⟩ := dec4_start w W hW
  have hR := refRead_all w W a c l hB hl bW e1
  rw [hd] at hR
  have HRD := hide hR
  have hvt := (readM_ok l hl 16 (Nat.zero_le _) hd).1.1
  have HR := hide hr
  have HE := hide (And.intro e0 zW)
  obtain ⟨vk, vi, vm, vt, vl⟩ := v
  have hp0 : ¬ ((p' : Int) < 0) := by omega
  clear hR hd hB e0 e1 hr zW
  go_enter Tryz.func45, Tryz.ntmps45
  go_wp2_with (first
    | (go_at_call 76; refine HRD.out.mono ?_; clear HRD; rintro e w3 ⟨s3, rfl, i3, d3, g3⟩; obtain ⟨sa, sc, rfl, _⟩ := i3.len; obtain ⟨w4, hw4⟩ : ∃ w4, w3.alloc (.cells #[.int .i64 vk, .int .i64 vi, .int .i64 vm, .string vt, .slice sa vl.length sc] 46) = w4 := ⟨_, rfl⟩; have b4 : Below w3.heap.size w3 w4 := (by rw [← hw4]; exact alloc_v (Below.refl _ _) _); have e4 : w4.heap[w3.heap.size]? = some (.cells #[.int .i64 vk, .int .i64 vi, .int .i64 vm, .string vt, .slice sa vl.length sc] 46 (0, 0)) := (by rw [← hw4]; exact World.alloc_heap_new w3 _); have y0 := cells_at e4 0 _ rfl; have y1 := cells_at e4 1 _ rfl; have y2 := cells_at e4 2 _ rfl; have y3 := cells_at e4 3 _ rfl; have y4 := cells_at e4 4 _ rfl; have hs4 := b4.size; have HRT := hide (refRight_k ⟨vk, vi, vm, vt, vl⟩ w4 16 (.slice sa vl.length sc) hvt ((i3.kept (w' := w4) (S' := fun b => b < w4.heap.size) (fun b o hb => (bcellV b4).1 b o hb.2) (fun b hb => by have := hb.2; omega)).at (fun b hb => hb))); rw [HR.out] at HRT; have G3 := hide g3; have B4 := hide b4; clear i3 d3 g3 b4 e4 hs4)
    | (go_at_call 29; refine HRT.out.mono ?_; clear HRT; rintro e w5 ⟨rfl, b5⟩; have l3 : w.heap.size + 2 ≤ w3.heap.size := (by have := G3.out.size; have := HE.out.2; omega); have l4 := B4.out.size; have f5 := (b5.block w.heap.size (by omega)).trans ((B4.out.block w.heap.size (by omega)).trans ((G3.out.block w.heap.size (by have := HE.out.2; omega) (by simp)).trans HE.out.1)); have r0 := cells_at f5 0 _ rfl; have rz0 := frozen_at f5 0; have r1 := cells_at f5 1 _ rfl; have rz1 := frozen_at f5 1; have r2 := cells_at f5 2 _ rfl; have rz2 := frozen_at f5 2; have r3 := cells_at f5 3 _ rfl; have rz3 := frozen_at f5 3; have r4 := cells_at f5 4 _ rfl; have rz4 := frozen_at f5 4; have F5 := hide f5; have B5 := hide b5; clear f5 b5))
  have bw3 : Below w.heap.size w w3 := below_of_grown (grown_more (grown_of_below bW) G3.out) (by omega)
  have G := stored w w5 0 0 0 ⟨#[]⟩ (.slice none 0 0) zcells w.heap.size (Nat.le_refl _) (trans_v (trans_v bw3 B4.out) B5.out) rfl F5.out
  refine bodyPost_ret (results_struct_tmps3 rfl _ _ w.heap.size _ _ _ _ rfl G.1 Tryz.underlying46 rfl infoVal5) rfl ?_
  exact ⟨rfl, G.2⟩
end Go.Proofs.YtcedpdneanjbkaaGreatDoor
