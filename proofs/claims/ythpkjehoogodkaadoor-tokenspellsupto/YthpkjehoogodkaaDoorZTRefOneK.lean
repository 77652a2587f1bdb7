/- What the document's one answers: the rune at a place, the place, how many bytes. -/
import Derived.Test.YthpkjehoogodkaaDoorZTRefOne
namespace Go.Proofs.YthpkjehoogodkaaDoor
open Go.RowKit

theorem infoRefRune : (Tryd.prog.info? 58).map (·.size) = some 3 := by kernel_rfl
theorem below_one (w : World) (o : Obj) : Below w.heap.size w (w.alloc o).drew := ((Below.refl _ w).alloc (Nat.le_refl _) o).trans ⟨rfl, rfl, rfl, by simp [World.drew], fun _ _ => rfl⟩
def oneV (r : Int) (i k : Nat) : Value := .agg #[.int .i64 r, .int .i64 i, .int .i64 k]
def OneK (s : ByteArray) (i : Nat) (r : Int) (k : Nat) (w : World) : Prop :=
  Calls Tryd.prog 39 #[.string s, .int .i64 i] w fun e w' => e = .returned (oneV r i k) ∧ Below w.heap.size w w'

set_option maxRecDepth 100000 in
theorem one_k1 (s : ByteArray) (i : Nat) (hi : i < s.size) (c1 : bt s i < 128) (w : World) : OneK s i (bt s i) 1 w := by
  have hby := bt_get s i hi
  generalize bt s i = b0 at *
  unfold OneK oneV
  go_enter Tryd.func39, Tryd.ntmps39
  go_wp2
  refine bodyPost_ret (results_cell_row rfl _ _ w.heap.size _ _ _ _ rfl (heap_alloc_new _ _) Tryd.underlying58 rfl infoRefRune) rfl ?_
  exact ⟨rfl, (Below.refl _ w).alloc (Nat.le_refl _) _⟩

set_option maxRecDepth 100000 in
set_option maxHeartbeats 2000000 in
theorem one_k2 (s : ByteArray) (hs : s.size ≤ 1048576) (i : Nat) (hi : i < s.size) (h0 : 194 ≤ bt s i) (h1 : bt s i ≤ 223) (hc : cB s (i + 1) 128 191 = true) (w : World) : OneK s i ((bt s i % 32 * 64 + bt s (i + 1) % 64 : Nat) : Int) 2 w := by
  have hlt := (cB_yes hc).1
  have hby := bt_get s i hi
  have hby1 := bt_get s (i + 1) hlt
  have m0 := mask5 (bt s i) (bt_lt s i)
  have m1 := mask6 (bt s (i + 1)) (bt_lt s (i + 1))
  have hx : bt s i % 32 < 32 := Nat.mod_lt _ (by decide)
  have hy : bt s (i + 1) % 64 < 64 := Nat.mod_lt _ (by decide)
  generalize bt s i % 32 = x at *
  generalize bt s (i + 1) % 64 = y at *
  have o1 : bits .or .i64 ((x : Int) * 64) (y : Int) = (x : Int) * 64 + (y : Int) := i64_or 6 x y (by omega) hy (by decide)
  have er : ((x * 64 + y : Nat) : Int) = (x : Int) * 64 + (y : Int) := by omega
  rw [er]
  clear er
  generalize bt s i = b0 at *
  generalize bt s (i + 1) = b1 at *
  have hi1 : i + 1 < s.size := hlt
  unfold OneK oneV
  go_enter Tryd.func39, Tryd.ntmps39
  go_wp2_with (go_at_call 56; refine (cont_k s hs (i + 1) _ (by simp) 128 191 true hc _).mono ?_; rintro e w1 ⟨rfl, rfl⟩)
  refine bodyPost_ret (results_cell_row rfl _ _ w.heap.size _ _ _ _ rfl (heap_alloc_new _ _) Tryd.underlying58 rfl infoRefRune) rfl ?_
  exact ⟨rfl, (Below.refl _ w).alloc (Nat.le_refl _) _⟩

set_option maxRecDepth 100000 in
set_option maxHeartbeats 2000000 in
theorem one_k3 (s : ByteArray) (hs : s.size ≤ 1048576) (i : Nat) (hi : i < s.size) (h0 : 224 ≤ bt s i) (h1 : bt s i ≤ 239) (p q : Bool) (lo up : Nat) (hp : ((bt s i : Int) == 224) = p) (hq : ((bt s i : Int) == 237) = q) (hlo : lo = bif p then 160 else 128) (hup : up = bif q then 159 else 191)
    (hc : cB s (i + 1) lo up = true) (hd : cB s (i + 2) 128 191 = true) (w : World) : OneK s i ((bt s i % 16 * 4096 + bt s (i + 1) % 64 * 64 + bt s (i + 2) % 64 : Nat) : Int) 3 w := by
  have hi1 : i + 1 < s.size := (cB_yes hc).1
  have hi2 : i + 2 < s.size := (cB_yes hd).1
  have hby := bt_get s i hi
  have hby1 := bt_get s (i + 1) hi1
  have hby2 := bt_get s (i + 2) hi2
  have m0 := mask4 (bt s i) (bt_lt s i)
  have m1 := mask6 (bt s (i + 1)) (bt_lt s (i + 1))
  have m2 := mask6 (bt s (i + 2)) (bt_lt s (i + 2))
  have hx : bt s i % 16 < 16 := Nat.mod_lt _ (by decide)
  have hy : bt s (i + 1) % 64 < 64 := Nat.mod_lt _ (by decide)
  have hz : bt s (i + 2) % 64 < 64 := Nat.mod_lt _ (by decide)
  generalize bt s i % 16 = x at *
  generalize bt s (i + 1) % 64 = y at *
  generalize bt s (i + 2) % 64 = z at *
  generalize bt s i = b0 at *
  generalize bt s (i + 1) = b1 at *
  generalize bt s (i + 2) = b2 at *
  have o1 : bits .or .i64 ((x : Int) * 4096) ((y : Int) * 64) = (x : Int) * 4096 + (y : Int) * 64 := by
    have := i64_or 12 x (y * 64) (by omega) (by omega) (by decide)
    have e : ((y * 64 : Nat) : Int) = (y : Int) * 64 := by omega
    rw [e] at this
    exact this
  have o2 : bits .or .i64 ((x : Int) * 4096 + (y : Int) * 64) (z : Int) = (x : Int) * 4096 + (y : Int) * 64 + (z : Int) := by
    have := i64_or 6 (x * 64 + y) z (by omega) (by omega) (by decide)
    have e : (((x * 64 + y : Nat) : Int) * (2 ^ 6 : Nat)) = (x : Int) * 4096 + (y : Int) * 64 := by omega
    rw [e] at this
    exact this
  have er : ((x * 4096 + y * 64 + z : Nat) : Int) = (x : Int) * 4096 + (y : Int) * 64 + (z : Int) := by omega
  rw [er]
  clear er
  unfold OneK oneV
  have j1 : (i : Int) + 1 < (s.size : Int) := by omega
  have j2 : (i : Int) + 2 < (s.size : Int) := by omega
  have hix1 : ∀ w, (Instr.index 9 (.string s) (.int .i64 ((i : Int) + 1))).run Tryd.prog w = .ok (.int .u8 (b1 : Int)) w := fun w => by
    have j0 : (0 : Int) ≤ (i : Int) + 1 := by omega
    have e : ((i : Int) + 1).toNat = i + 1 := by omega
    simp [go_sem, j1, j0, e, hby1]
  have hix2 : ∀ w, (Instr.index 9 (.string s) (.int .i64 ((i : Int) + 2))).run Tryd.prog w = .ok (.int .u8 (b2 : Int)) w := fun w => by
    have j0 : (0 : Int) ≤ (i : Int) + 2 := by omega
    have e : ((i : Int) + 2).toNat = i + 2 := by omega
    simp [go_sem, j2, j0, e, hby2]
  have HC := hide hc
  have HD := hide hd
  clear hc hd
  have hpq : ¬ (p = true ∧ q = true) := by
    rintro ⟨rfl, rfl⟩
    simp at hp hq
    omega
  cases p
  all_goals cases q
  case true.true => exact absurd ⟨rfl, rfl⟩ hpq
  all_goals clear hpq
  all_goals simp only [cond_true, cond_false] at hlo hup
  all_goals subst hlo hup
  all_goals (
    go_enter Tryd.func39, Tryd.ntmps39
    go_wp2_with (first
      | (go_at_call 56; refine (cont_k s hs (i + 1) _ rfl _ _ true HC.out _).mono ?_; clear HC; rintro e w1 ⟨rfl, rfl⟩)
      | (go_at_call 56; refine (cont_k s hs (i + 2) _ rfl _ _ true HD.out _).mono ?_; clear HD; rintro e w1 ⟨rfl, rfl⟩))
    go_region
    go_wp2
    refine bodyPost_ret (results_cell_row rfl _ _ w.heap.size _ _ _ _ rfl (heap_alloc_new w _) Tryd.underlying58 rfl infoRefRune) rfl ?_
    exact ⟨rfl, below_one w _⟩)

set_option maxRecDepth 100000 in
set_option maxHeartbeats 4000000 in
theorem one_k4 (s : ByteArray) (hs : s.size ≤ 1048576) (i : Nat) (hi : i < s.size) (h0 : 240 ≤ bt s i) (h1 : bt s i ≤ 244) (p q : Bool) (lo up : Nat) (hp : ((bt s i : Int) == 240) = p) (hq : ((bt s i : Int) == 244) = q) (hlo : lo = bif p then 144 else 128) (hup : up = bif q then 143 else 191)
    (hc : cB s (i + 1) lo up = true) (hd : cB s (i + 2) 128 191 = true) (hf : cB s (i + 3) 128 191 = true) (w : World) : OneK s i ((bt s i % 8 * 262144 + bt s (i + 1) % 64 * 4096 + bt s (i + 2) % 64 * 64 + bt s (i + 3) % 64 : Nat) : Int) 4 w := by
  have hi1 : i + 1 < s.size := (cB_yes hc).1
  have hi2 : i + 2 < s.size := (cB_yes hd).1
  have hi3 : i + 3 < s.size := (cB_yes hf).1
  have hby := bt_get s i hi
  have hby1 := bt_get s (i + 1) hi1
  have hby2 := bt_get s (i + 2) hi2
  have hby3 := bt_get s (i + 3) hi3
  have m0 := mask3 (bt s i) (bt_lt s i)
  have m1 := mask6 (bt s (i + 1)) (bt_lt s (i + 1))
  have m2 := mask6 (bt s (i + 2)) (bt_lt s (i + 2))
  have m3 := mask6 (bt s (i + 3)) (bt_lt s (i + 3))
  have hx : bt s i % 8 < 8 := Nat.mod_lt _ (by decide)
  have hy : bt s (i + 1) % 64 < 64 := Nat.mod_lt _ (by decide)
  have hz : bt s (i + 2) % 64 < 64 := Nat.mod_lt _ (by decide)
  have hu : bt s (i + 3) % 64 < 64 := Nat.mod_lt _ (by decide)
  generalize bt s i % 8 = x at *
  generalize bt s (i + 1) % 64 = y at *
  generalize bt s (i + 2) % 64 = z at *
  generalize bt s (i + 3) % 64 = u at *
  generalize bt s i = b0 at *
  generalize bt s (i + 1) = b1 at *
  generalize bt s (i + 2) = b2 at *
  generalize bt s (i + 3) = b3 at *
  have o1 : bits .or .i64 ((x : Int) * 262144) ((y : Int) * 4096) = (x : Int) * 262144 + (y : Int) * 4096 := by
    have := i64_or 18 x (y * 4096) (by omega) (by omega) (by decide)
    have e : ((y * 4096 : Nat) : Int) = (y : Int) * 4096 := by omega
    rw [e] at this
    exact this
  have o2 : bits .or .i64 ((x : Int) * 262144 + (y : Int) * 4096) ((z : Int) * 64) = (x : Int) * 262144 + (y : Int) * 4096 + (z : Int) * 64 := by
    have := i64_or 12 (x * 64 + y) (z * 64) (by omega) (by omega) (by decide)
    have e : (((x * 64 + y : Nat) : Int) * (2 ^ 12 : Nat)) = (x : Int) * 262144 + (y : Int) * 4096 := by omega
    have e2 : ((z * 64 : Nat) : Int) = (z : Int) * 64 := by omega
    rw [e, e2] at this
    exact this
  have o3 : bits .or .i64 ((x : Int) * 262144 + (y : Int) * 4096 + (z : Int) * 64) (u : Int) = (x : Int) * 262144 + (y : Int) * 4096 + (z : Int) * 64 + (u : Int) := by
    have := i64_or 6 (x * 4096 + y * 64 + z) u (by omega) (by omega) (by decide)
    have e : (((x * 4096 + y * 64 + z : Nat) : Int) * (2 ^ 6 : Nat)) = (x : Int) * 262144 + (y : Int) * 4096 + (z : Int) * 64 := by omega
    rw [e] at this
    exact this
  have er : ((x * 262144 + y * 4096 + z * 64 + u : Nat) : Int) = (x : Int) * 262144 + (y : Int) * 4096 + (z : Int) * 64 + (u : Int) := by omega
  rw [er]
  clear er
  unfold OneK oneV
  have j1 : (i : Int) + 1 < (s.size : Int) := by omega
  have j2 : (i : Int) + 2 < (s.size : Int) := by omega
  have j3 : (i : Int) + 3 < (s.size : Int) := by omega
  have hix1 : ∀ w, (Instr.index 9 (.string s) (.int .i64 ((i : Int) + 1))).run Tryd.prog w = .ok (.int .u8 (b1 : Int)) w := fun w => by
    have j0 : (0 : Int) ≤ (i : Int) + 1 := by omega
    have e : ((i : Int) + 1).toNat = i + 1 := by omega
    simp [go_sem, j1, j0, e, hby1]
  have hix2 : ∀ w, (Instr.index 9 (.string s) (.int .i64 ((i : Int) + 2))).run Tryd.prog w = .ok (.int .u8 (b2 : Int)) w := fun w => by
    have j0 : (0 : Int) ≤ (i : Int) + 2 := by omega
    have e : ((i : Int) + 2).toNat = i + 2 := by omega
    simp [go_sem, j2, j0, e, hby2]
  have hix3 : ∀ w, (Instr.index 9 (.string s) (.int .i64 ((i : Int) + 3))).run Tryd.prog w = .ok (.int .u8 (b3 : Int)) w := fun w => by
    have j0 : (0 : Int) ≤ (i : Int) + 3 := by omega
    have e : ((i : Int) + 3).toNat = i + 3 := by omega
    simp [go_sem, j3, j0, e, hby3]
  have HC := hide hc
  have HD := hide hd
  have HF := hide hf
  clear hc hd hf
  have hpq : ¬ (p = true ∧ q = true) := by
    rintro ⟨rfl, rfl⟩
    simp at hp hq
    omega
  cases p
  all_goals cases q
  case true.true => exact absurd ⟨rfl, rfl⟩ hpq
  all_goals clear hpq
  all_goals simp only [cond_true, cond_false] at hlo hup
  all_goals subst hlo hup
  all_goals (
    go_enter Tryd.func39, Tryd.ntmps39
    go_wp2_with (first
      | (go_at_call 56; refine (cont_k s hs (i + 1) _ rfl _ _ true HC.out _).mono ?_; clear HC; rintro e w1 ⟨rfl, rfl⟩)
      | (go_at_call 56; refine (cont_k s hs (i + 2) _ rfl _ _ true HD.out _).mono ?_; clear HD; rintro e w1 ⟨rfl, rfl⟩)
      | (go_at_call 56; refine (cont_k s hs (i + 3) _ rfl _ _ true HF.out _).mono ?_; clear HF; rintro e w1 ⟨rfl, rfl⟩))
    go_region
    go_wp2
    refine bodyPost_ret (results_cell_row rfl _ _ w.heap.size _ _ _ _ rfl (heap_alloc_new w _) Tryd.underlying58 rfl infoRefRune) rfl ?_
    exact ⟨rfl, below_one w _⟩)
end Go.Proofs.YthpkjehoogodkaaDoor
