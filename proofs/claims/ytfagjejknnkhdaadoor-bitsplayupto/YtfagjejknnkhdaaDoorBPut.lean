/- Put, Drop and Has of a set. -/
import Derived.Test.YtfagjejknnkhdaaDoorBSet
import Derived.Deep.RegionHeld3
namespace Go.Proofs.YtfagjejknnkhdaaDoor
open Go.RowKit

def putW (ws : List Nat) (i : Nat) : List Nat := ws.set (i / 64) (ws.getD (i / 64) 0 ||| 2 ^ (i % 64))
def dropW (ws : List Nat) (i : Nat) : List Nat := ws.set (i / 64) (ws.getD (i / 64) 0 &&& (18446744073709551615 - 2 ^ (i % 64)))
def hasW (ws : List Nat) (i : Nat) : Bool := (ws.getD (i / 64) 0).testBit (i % 64)
theorem pow_lt64 (i : Nat) : 2 ^ (i % 64) < 18446744073709551616 := Nat.lt_of_le_of_lt (Nat.pow_le_pow_right (by decide) (by omega : i % 64 ≤ 63)) (by decide)
theorem or_lt64 {a b : Nat} (ha : a < 18446744073709551616) (hb : b < 18446744073709551616) : a ||| b < 18446744073709551616 := Nat.or_lt_two_pow (n := 64) ha hb
theorem and_lt64 {a : Nat} (b : Nat) (ha : a < 18446744073709551616) : a &&& b < 18446744073709551616 := Nat.lt_of_le_of_lt Nat.and_le_left ha

set_option maxRecDepth 100000 in
set_option maxHeartbeats 1000000 in
theorem put_k {w : World} {sb g cap n : Nat} {ws : List Nat} (h : SetAt w sb g cap n ws) (i : Nat) (hi : i < n) :
    Calls Tryd.prog 13 #[.pointer (some ⟨sb, 0, none⟩), .int .i64 (i : Int)] w fun e w' => e = .returned (.int .i64 0) ∧ SetAt w' sb g cap n (putW ws i) ∧ w.grownBy w' (some g) := by
  have ht := takes_k h (i : Int)
  have e0 : tk n (i : Int) = 0 := if_pos (by omega)
  rw [e0] at ht
  have HT := hide ht
  have hr := h.room
  have HB := hide (bit_k i (by omega))
  obtain ⟨c0, c1, c2⟩ := h.cells
  have hk : i / 64 < ws.length := by have := h.len; omega
  have hc := h.get (i / 64) hk
  have hf := h.frozen (i / 64)
  have hx := h.wlt (i / 64) hk
  have hD : ws.getD (i / 64) 0 = ws[i / 64] := by simp [hk]
  have HS := hide (h.put (i / 64) (ws[i / 64] ||| 2 ^ (i % 64)) (or_lt64 hx (pow_lt64 i)))
  unfold putW
  rw [hD]
  have hor := u64_or_nat ws[i / 64] (2 ^ (i % 64)) hx (pow_lt64 i)
  clear hD h ht e0
  generalize hxx : ws[i / 64] = x at *
  generalize hq : i / 64 = q at *
  have hdv : ((i : Int) / 64) = (q : Int) := by omega
  have hwq : IntKind.i64.wrap (q : Int) = (q : Int) := by rw [IntKind.wrap_i64]; omega
  have b0 : (0 : Int) ≤ (q : Int) := by omega
  have b1 : (q : Int) < (ws.length : Int) := by omega
  clear hq hxx hk
  generalize 2 ^ (i % 64) = y at *
  go_enter Tryd.func13, Tryd.ntmps13
  go_wp2_with (go_at_call 34; refine HT.out.mono ?_; rintro e w1 ⟨rfl, rfl⟩)
  go_region_with (go_at_call 35; refine (HB.out _).mono ?_; rintro e w2 ⟨rfl, rfl⟩)
  all_goals
    go_wp2
    go_ret
    exact ⟨rfl, HS.out.1.drew, grown_drew HS.out.2⟩
set_option maxRecDepth 100000 in
set_option maxHeartbeats 1000000 in
theorem drop_k {w : World} {sb g cap n : Nat} {ws : List Nat} (h : SetAt w sb g cap n ws) (i : Nat) (hi : i < n) :
    Calls Tryd.prog 18 #[.pointer (some ⟨sb, 0, none⟩), .int .i64 (i : Int)] w fun e w' => e = .returned (.int .i64 0) ∧ SetAt w' sb g cap n (dropW ws i) ∧ w.grownBy w' (some g) := by
  have ht := takes_k h (i : Int)
  have e0 : tk n (i : Int) = 0 := if_pos (by omega)
  rw [e0] at ht
  have HT := hide ht
  have hr := h.room
  have HB := hide (bit_k i (by omega))
  obtain ⟨c0, c1, c2⟩ := h.cells
  have hk : i / 64 < ws.length := by have := h.len; omega
  have hc := h.get (i / 64) hk
  have hf := h.frozen (i / 64)
  have hx := h.wlt (i / 64) hk
  have hD : ws.getD (i / 64) 0 = ws[i / 64] := by simp [hk]
  have HS := hide (h.put (i / 64) (ws[i / 64] &&& (18446744073709551615 - 2 ^ (i % 64))) (and_lt64 _ hx))
  unfold dropW
  rw [hD]
  have hor := u64_andNot_nat ws[i / 64] (2 ^ (i % 64)) hx (pow_lt64 i)
  clear hD h ht e0
  generalize hxx : ws[i / 64] = x at *
  generalize hq : i / 64 = q at *
  have hdv : ((i : Int) / 64) = (q : Int) := by omega
  have hwq : IntKind.i64.wrap (q : Int) = (q : Int) := by rw [IntKind.wrap_i64]; omega
  have b0 : (0 : Int) ≤ (q : Int) := by omega
  have b1 : (q : Int) < (ws.length : Int) := by omega
  clear hq hxx hk
  generalize 2 ^ (i % 64) = y at *
  go_enter Tryd.func18, Tryd.ntmps18
  go_wp2_with (go_at_call 34; refine HT.out.mono ?_; rintro e w1 ⟨rfl, rfl⟩)
  go_region_with (go_at_call 35; refine (HB.out _).mono ?_; rintro e w2 ⟨rfl, rfl⟩)
  all_goals
    go_wp2
    go_ret
    exact ⟨rfl, HS.out.1.drew, grown_drew HS.out.2⟩

theorem tk_out {n : Nat} {i : Int} (h : ¬ (0 ≤ i ∧ i < (n : Int))) : tk n i = 30 := if_neg h
set_option maxRecDepth 100000 in
theorem put_out {w : World} {sb g cap n : Nat} {ws : List Nat} (h : SetAt w sb g cap n ws) (i : Int) (hi : ¬ (0 ≤ i ∧ i < (n : Int))) :
    Calls Tryd.prog 13 #[.pointer (some ⟨sb, 0, none⟩), .int .i64 i] w fun e w' => e = .returned (.int .i64 30) ∧ w = w' := by
  have ht := takes_k h i
  rw [tk_out hi] at ht
  have HT := hide ht
  clear ht h hi
  go_enter Tryd.func13, Tryd.ntmps13
  go_wp2_with (go_at_call 34; refine HT.out.mono ?_; rintro e w1 ⟨rfl, rfl⟩)
  go_ret
  exact ⟨rfl, rfl⟩
set_option maxRecDepth 100000 in
theorem drop_out {w : World} {sb g cap n : Nat} {ws : List Nat} (h : SetAt w sb g cap n ws) (i : Int) (hi : ¬ (0 ≤ i ∧ i < (n : Int))) :
    Calls Tryd.prog 18 #[.pointer (some ⟨sb, 0, none⟩), .int .i64 i] w fun e w' => e = .returned (.int .i64 30) ∧ w = w' := by
  have ht := takes_k h i
  rw [tk_out hi] at ht
  have HT := hide ht
  clear ht h hi
  go_enter Tryd.func18, Tryd.ntmps18
  go_wp2_with (go_at_call 34; refine HT.out.mono ?_; rintro e w1 ⟨rfl, rfl⟩)
  go_ret
  exact ⟨rfl, rfl⟩
set_option maxRecDepth 100000 in
theorem put_no {w : World} {v : Value} (h : NoSet w v) (i : Int) :
    Calls Tryd.prog 13 #[v, .int .i64 i] w fun e w' => e = .returned (.int .i64 1) ∧ w = w' := by
  have HT := hide (takes_no h i)
  clear h
  go_enter Tryd.func13, Tryd.ntmps13
  go_wp2_with (go_at_call 34; refine HT.out.mono ?_; rintro e w1 ⟨rfl, rfl⟩)
  go_ret
  exact ⟨rfl, rfl⟩
set_option maxRecDepth 100000 in
theorem drop_no {w : World} {v : Value} (h : NoSet w v) (i : Int) :
    Calls Tryd.prog 18 #[v, .int .i64 i] w fun e w' => e = .returned (.int .i64 1) ∧ w = w' := by
  have HT := hide (takes_no h i)
  clear h
  go_enter Tryd.func18, Tryd.ntmps18
  go_wp2_with (go_at_call 34; refine HT.out.mono ?_; rintro e w1 ⟨rfl, rfl⟩)
  go_ret
  exact ⟨rfl, rfl⟩

theorem bit_and (x k : Nat) : ((x &&& 2 ^ k : Nat) : Int) = 0 ↔ x.testBit k = false := by
  rw [nat_bit, Nat.testBit_eq_decide_div_mod_eq]
  have hp : 0 < 2 ^ k := Nat.two_pow_pos k
  generalize hy : x / 2 ^ k % 2 = y
  have : y = 0 ∨ y = 1 := by omega
  generalize 2 ^ k = z at *
  rcases this with rfl | rfl
  · simp
  · constructor
    · intro h
      omega
    · intro h
      simp at h

set_option maxRecDepth 100000 in
set_option maxHeartbeats 1000000 in
theorem has_k {w : World} {sb g cap n : Nat} {ws : List Nat} (h : SetAt w sb g cap n ws) (i : Nat) (hi : i < n) :
    Calls Tryd.prog 30 #[.pointer (some ⟨sb, 0, none⟩), .int .i64 (i : Int)] w fun e w' => e = .returned (.bool (hasW ws i)) ∧ ∃ m, w' = w.drewN m := by
  have ht := fun m => takes_k (w := w.drewN m) (sb := sb) (g := g) (cap := cap) (n := n) (ws := ws) (h.drewN m) (i : Int)
  have e0 : tk n (i : Int) = 0 := if_pos (by omega)
  rw [e0] at ht
  have HT := hide ht
  have hr := h.room
  have HB := hide (bit_k i (by omega))
  obtain ⟨c0, c1, c2⟩ := h.cells
  have hk : i / 64 < ws.length := by have := h.len; omega
  have hc := h.get (i / 64) hk
  have hx := h.wlt (i / 64) hk
  have hD : ws.getD (i / 64) 0 = ws[i / 64] := by simp [hk]
  unfold hasW
  rw [hD]
  have hand := u64_and_nat ws[i / 64] (2 ^ (i % 64)) hx (pow_lt64 i)
  have hbit := bit_and ws[i / 64] (i % 64)
  clear hD h ht e0
  generalize hxx : ws[i / 64] = x at *
  generalize hq : i / 64 = q at *
  have hdv : ((i : Int) / 64) = (q : Int) := by omega
  have hwq : IntKind.i64.wrap (q : Int) = (q : Int) := by rw [IntKind.wrap_i64]; omega
  have b0 : (0 : Int) ≤ (q : Int) := by omega
  have b1 : (q : Int) < (ws.length : Int) := by omega
  clear hq hxx hk
  generalize hk2 : i % 64 = k at *
  clear hk2
  generalize hy : 2 ^ k = y at *
  clear hy
  generalize hz : x &&& y = z at *
  clear hz
  have HH := hide hbit
  clear hbit
  go_enter Tryd.func30, Tryd.ntmps30
  go_wp2
  go_quiet (first
    | (go_at_call 34; exact Calls.quiet_of_same ((HT.out _).mono fun _ _ h => ⟨h.1, h.2.symm⟩))
    | (go_at_call 35; exact Calls.quiet_of_same ((HB.out _).mono fun _ _ h => ⟨h.1, h.2.symm⟩)))
  go_wp2
  go_ret
  refine ⟨?_, _, rfl⟩
  show Ending.returned (Value.bool ((z : Int) != 0)) = _
  congr 2
  have := HH.out
  cases hb : x.testBit k <;> simp_all
set_option maxRecDepth 100000 in
theorem has_out {w : World} {sb g cap n : Nat} {ws : List Nat} (h : SetAt w sb g cap n ws) (i : Int) (hi : ¬ (0 ≤ i ∧ i < (n : Int))) :
    Calls Tryd.prog 30 #[.pointer (some ⟨sb, 0, none⟩), .int .i64 i] w fun e w' => e = .returned (.bool false) ∧ ∃ m, w' = w.drewN m := by
  have ht := fun m => takes_k (h.drewN m) i
  rw [tk_out hi] at ht
  have HT := hide ht
  clear ht h hi
  go_enter Tryd.func30, Tryd.ntmps30
  go_wp2
  go_quiet ((go_at_call 34; exact Calls.quiet_of_same ((HT.out _).mono fun _ _ h => ⟨h.1, h.2.symm⟩)))
  go_wp2
  go_ret
  exact ⟨rfl, _, rfl⟩
theorem NoSet.drewN {w : World} {v : Value} (h : NoSet w v) (m : Nat) : NoSet (w.drewN m) v := h
set_option maxRecDepth 100000 in
theorem has_no {w : World} {v : Value} (h : NoSet w v) (i : Int) :
    Calls Tryd.prog 30 #[v, .int .i64 i] w fun e w' => e = .returned (.bool false) ∧ ∃ m, w' = w.drewN m := by
  have HT := hide fun m => takes_no (h.drewN m) i
  clear h
  go_enter Tryd.func30, Tryd.ntmps30
  go_wp2
  go_quiet ((go_at_call 34; exact Calls.quiet_of_same ((HT.out _).mono fun _ _ h => ⟨h.1, h.2.symm⟩)))
  go_wp2
  go_ret
  exact ⟨rfl, _, rfl⟩
end Go.Proofs.YtfagjejknnkhdaaDoor
