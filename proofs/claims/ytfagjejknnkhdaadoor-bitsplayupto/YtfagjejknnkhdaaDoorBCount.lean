/- What OnesCount64 and TrailingZeros64 answer, and Count. -/
import Derived.Test.YtfagjejknnkhdaaDoorBSet
import Derived.Test.YtfagjejknnkhdaaDoorBMath
namespace Go.Proofs.YtfagjejknnkhdaaDoor
open Go.RowKit

set_option maxRecDepth 100000 in
set_option maxHeartbeats 1000000 in
theorem onesCount_k (x : Nat) (hx : x < 18446744073709551616) (w : World) :
    Calls Tryd.prog 46 #[.int .u64 (x : Int)] w fun e w' => e = .returned (.int .i64 (ones 64 x : Nat)) ∧ w = w' := by
  obtain ⟨a1, a2, b, c1, c2, d, s, e, f, g, h, ha1, ha2, hb, lb, hc1, hc2, hd, ld, hs, ls, he, le, hf, lf, hg, lg, hh, lh, hr⟩ := ones_way x hx
  have k1 : bits .and .u64 ((x : Int) / 2) 6148914691236517205 = (a1 : Int) := by
    have := u64_and_nat (x / 2) 6148914691236517205 (by omega) (by decide)
    rw [← ha1] at this
    rw [← this]
    rfl
  have k2 : bits .and .u64 (x : Int) 6148914691236517205 = (a2 : Int) := by
    have := u64_and_nat x 6148914691236517205 (by omega) (by decide)
    rw [← ha2] at this
    rw [← this]
    rfl
  have k3 : IntKind.u64.wrap ((a1 : Int) + (a2 : Int)) = (b : Int) := by rw [IntKind.wrap_u64]; omega
  have k4 : bits .and .u64 ((b : Int) / 4) 3689348814741910323 = (c1 : Int) := by
    have := u64_and_nat (b / 4) 3689348814741910323 (by omega) (by decide)
    rw [← hc1] at this
    rw [← this]
    rfl
  have k5 : bits .and .u64 (b : Int) 3689348814741910323 = (c2 : Int) := by
    have := u64_and_nat b 3689348814741910323 (by omega) (by decide)
    rw [← hc2] at this
    rw [← this]
    rfl
  have k6 : IntKind.u64.wrap ((c1 : Int) + (c2 : Int)) = (d : Int) := by rw [IntKind.wrap_u64]; omega
  have k7 : IntKind.u64.wrap ((d : Int) / 16 + (d : Int)) = (s : Int) := by rw [IntKind.wrap_u64]; omega
  have k8 : bits .and .u64 (s : Int) 1085102592571150095 = (e : Int) := by
    have := u64_and_nat s 1085102592571150095 (by omega) (by decide)
    rw [← he] at this
    rw [← this]
    rfl
  have k9 : IntKind.u64.wrap ((e : Int) + (e : Int) / 256) = (f : Int) := by rw [IntKind.wrap_u64]; omega
  have k10 : IntKind.u64.wrap ((f : Int) + (f : Int) / 65536) = (g : Int) := by rw [IntKind.wrap_u64]; omega
  have k11 : IntKind.u64.wrap ((g : Int) + (g : Int) / 4294967296) = (h : Int) := by rw [IntKind.wrap_u64]; omega
  have k12 : IntKind.i64.wrap (h : Int) = (h : Int) := by rw [IntKind.wrap_i64]; omega
  have k13 : bits .and .i64 (h : Int) 127 = ((ones 64 x : Nat) : Int) := by rw [i64_and127]; omega
  generalize ones 64 x = N at *
  clear hr hh hg hf he hs hd hc2 hc1 hb ha2 ha1
  go_enter Tryd.func46, Tryd.ntmps46
  go_wp2
  go_ret
  exact ⟨rfl, rfl⟩

/-- The table of the library's, as its own text lays it. -/
def Tab (w : World) : Prop := ∀ j, j < 64 → w.cell? ⟨0, j, none⟩ = some (.int .u8 ((Lib.deBruijn64tab.getD j 0 : Nat) : Int))
theorem Tab.lt {w : World} (h : Tab w) : 0 < w.heap.size := World.block_lt_of_cell? w _ (h 0 (by decide))
theorem Tab.below {w w' : World} {B : Nat} (h : Tab w) (hb : Below B w w') (hB : 0 < B) : Tab w' := fun j hj => (hb.cell hB).trans (h j hj)
theorem Tab.grown {w w' : World} {r : Option Nat} (h : Tab w) (hg : w.grownBy w' r) (hr : r ≠ some 0) : Tab w' := fun j hj => (World.cell?_of_block (hg.block _ h.lt (Ne.symm hr))).trans (h j hj)

theorem tz_key (x a : Nat) (hx : x < 18446744073709551616) (hx0 : x ≠ 0) (hlow : x &&& (18446744073709551616 - x) = a) :
    IntKind.u64.wrap (bits BinOp.and IntKind.u64 (x : Int) (IntKind.u64.wrap (-(x : Int))) * 285870213051353865) / 288230376151711744 = ((a * 285870213051353865 % 18446744073709551616 / 288230376151711744 : Nat) : Int) := by
  have e1 : IntKind.u64.wrap (-(x : Int)) = ((18446744073709551616 - x : Nat) : Int) := by rw [IntKind.wrap_u64]; omega
  rw [e1, u64_and_nat x _ hx (by omega), hlow, IntKind.wrap_u64]
  omega
set_option maxHeartbeats 1000000 in
theorem tz_core (x k idx : Nat) (w : World) (hx0 : ((x : Int) == 0) = false)
    (key : IntKind.u64.wrap (bits BinOp.and IntKind.u64 (x : Int) (IntKind.u64.wrap (-(x : Int))) * 285870213051353865) / 288230376151711744 = (idx : Int))
    (hi : idx < 64) (hk : k < 64) (hcell : w.cell? ⟨0, idx, none⟩ = some (.int .u8 (k : Int))) :
    Calls Tryd.prog 39 #[.int .u64 (x : Int)] w fun e w' => e = .returned (.int .i64 (k : Int)) ∧ w = w' := by
  go_enter Tryd.func39, Tryd.ntmps39
  go_wp2_with (simp only [key])
  go_ret
  exact ⟨rfl, rfl⟩
/-- The lowest number that a word has. -/
theorem tz_k (x : Nat) (hx : x < 18446744073709551616) (hx0 : x ≠ 0) (w : World) (hT : Tab w) :
    Calls Tryd.prog 39 #[.int .u64 (x : Int)] w fun e w' => e = .returned (.int .i64 (Lib.ctz 64 x : Nat)) ∧ w = w' := by
  obtain ⟨hlow, hk⟩ := Lib.lowest_bit 64 x hx0 hx
  obtain ⟨hi, htab⟩ := Lib.deBruijn64_at _ hk
  have hcell := hT _ hi
  rw [htab] at hcell
  exact tz_core x _ _ w (by simp; omega) (tz_key x _ hx hx0 hlow) hi hk hcell

/-- How many there are. -/
def cnt (ws : List Nat) : Nat := (ws.map (ones 64)).sum
theorem cnt_take (ws : List Nat) (k : Nat) (h : k < ws.length) : cnt (ws.take (k + 1)) = cnt (ws.take k) + ones 64 ws[k] := by
  unfold cnt
  rw [List.take_succ_eq_append_getElem h, List.map_append, List.sum_append]
  simp only [List.map_cons, List.map_nil, List.sum_cons, List.sum_nil, Nat.add_zero]
theorem cnt_le (ws : List Nat) : cnt ws ≤ 64 * ws.length := by
  induction ws with
  | nil => simp [cnt]
  | cons x l ih =>
    have := ones_le 64 x
    simp only [cnt, List.map_cons, List.sum_cons, List.length_cons] at ih ⊢
    omega
set_option maxRecDepth 100000 in
set_option maxHeartbeats 1000000 in
theorem count_k {w : World} {sb g cap n : Nat} {ws : List Nat} (h : SetAt w sb g cap n ws) :
    Calls Tryd.prog 29 #[.pointer (some ⟨sb, 0, none⟩)] w fun e w' => e = .returned (.int .i64 (cnt ws : Nat)) ∧ w = w' := by
  obtain ⟨c0, c1, c2⟩ := h.cells
  have HU := hide (usable_k h)
  have HG := hide h.get
  have HX := hide h.wlt
  have hlen : ws.length ≤ 64 := by have := h.len; have := h.room; omega
  clear h
  go_enter Tryd.func29, Tryd.ntmps29
  go_wp2_with (go_at_call 36; refine HU.out.mono ?_; rintro e w1 ⟨rfl, rfl⟩)
  go_loopw [3, 5, 14] (fun t _ i wr => ∃ k : Nat, k ≤ ws.length ∧ i = .int .i64 k ∧ t = .int .i64 (cnt (ws.take k) : Nat) ∧ wr = w) (fun _ _ i _ => ws.length - (intOf i).toNat)
  case atStart => exact ⟨0, Nat.zero_le _, rfl, rfl, rfl⟩
  case round =>
    obtain ⟨k, hk, rfl, rfl, rfl⟩ := hrel
    by_cases hlt : k < ws.length
    · have hc := HG.out k hlt
      have hx := HX.out k hlt
      have hs := cnt_take ws k hlt
      clear HG HX
      obtain ⟨x, hxx⟩ : ∃ x, x = ws[k]'hlt := ⟨_, rfl⟩
      rw [← hxx] at hc hx hs
      have HO := hide (onesCount_k x hx)
      obtain ⟨o, hoo⟩ : ∃ o, o = ones 64 x := ⟨_, rfl⟩
      rw [← hoo] at hs HO
      have ho : o ≤ 64 := by rw [hoo]; exact ones_le 64 x
      clear hoo hxx
      have HS := hide hs
      clear hs
      have hle := cnt_le (ws.take k)
      rw [List.length_take] at hle
      generalize cnt (ws.take k) = c at *
      go_wp2_with (go_at_call 46; refine (HO.out _).mono ?_; rintro e w1 ⟨rfl, rfl⟩)
      go_roundw
      case rel => exact ⟨k + 1, by omega, by go_num, by rw [HS.out]; go_num, by first | rfl | trivial⟩
      case measure => simp [intOf]; omega
    · have e : k = ws.length := by omega
      subst e
      rw [List.take_length] at *
      go_wp2
      go_ret
      exact ⟨rfl, rfl⟩
set_option maxRecDepth 100000 in
theorem count_no {w : World} {v : Value} (h : NoSet w v) :
    Calls Tryd.prog 29 #[v] w fun e w' => e = .returned (.int .i64 0) ∧ w = w' := by
  have HU := hide (usable_no h)
  clear h
  go_enter Tryd.func29, Tryd.ntmps29
  go_wp2_with (go_at_call 36; refine HU.out.mono ?_; rintro e w1 ⟨rfl, rfl⟩)
  go_ret
  exact ⟨rfl, rfl⟩
end Go.Proofs.YtfagjejknnkhdaaDoor
