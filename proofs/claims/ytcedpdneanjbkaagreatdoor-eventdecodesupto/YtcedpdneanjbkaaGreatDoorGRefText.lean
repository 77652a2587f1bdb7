/- The document's runes: one, by the table of UTF-8. -/
import Derived.Test.YtcedpdneanjbkaaGreatDoorGQuote
import Derived.BigRegion
import Derived.Deep.RegionHeld3
import Derived.Deep.QuietTactic
import Derived.BigQuiet
namespace Go.Proofs.YtcedpdneanjbkaaGreatDoor
open Go.RowKit

/-- The byte at a place, as a number. -/
def bt (s : ByteArray) (j : Nat) : Nat := (s.data.toList.getD j 0).toNat
theorem bt_lt (s : ByteArray) (j : Nat) : bt s j < 256 := UInt8.toNat_lt _
theorem bt_get (s : ByteArray) (j : Nat) (h : j < s.size) : (s[j]'h).toNat = bt s j := byte_at s j h
theorem bt_drop (s : ByteArray) (i j : Nat) : ((s.data.toList.drop i).getD j 0).toNat = bt s (i + j) := by
  unfold bt
  rw [List.getD_eq_getElem?_getD, List.getElem?_drop, ← List.getD_eq_getElem?_getD]

/-- Is there a byte from lo to hi? -/
def cB (s : ByteArray) (j lo hi : Nat) : Bool := decide (j < s.size ∧ lo ≤ bt s j ∧ bt s j ≤ hi)

set_option maxRecDepth 100000 in
theorem cont_k (s : ByteArray) (_ : s.size ≤ 1048576) (j : Nat) (x : Int) (hx : x = j) (lo hi : Nat) (b : Bool) (hb : cB s j lo hi = b) (w : World) :
    Calls Tryz.prog 146 #[.string s, .int .i64 x, .int .u8 (lo : Int), .int .u8 (hi : Int)] w fun e w' => e = .returned (.bool b) ∧ w = w' := by
  subst hx hb
  by_cases hlt : j < s.size
  · have hby := bt_get s j hlt
    have hc : cB s j lo hi = (decide (lo ≤ bt s j) && decide (bt s j ≤ hi)) := by simp [cB, hlt]
    rw [hc]
    by_cases h1 : lo ≤ bt s j
    · have e1 : decide ((lo : Int) ≤ (bt s j : Int)) = true := by simpa using h1
      by_cases h2 : bt s j ≤ hi
      · have e2 : decide ((bt s j : Int) ≤ (hi : Int)) = true := by simpa using h2
        go_enter Tryz.func146, Tryz.ntmps146
        go_wp2
        go_ret
        simp [h1, h2]
      · have e2 : decide ((bt s j : Int) ≤ (hi : Int)) = false := by simpa using h2
        go_enter Tryz.func146, Tryz.ntmps146
        go_wp2
        go_ret
        simp [h2]
    · have e1 : decide ((lo : Int) ≤ (bt s j : Int)) = false := by simpa using h1
      go_enter Tryz.func146, Tryz.ntmps146
      go_wp2
      go_ret
      simp [h1]
  · have hc : cB s j lo hi = false := by simp [cB, hlt]
    rw [hc]
    go_enter Tryz.func146, Tryz.ntmps146
    go_wp2
    go_ret
    exact ⟨rfl, rfl⟩
end Go.Proofs.YtcedpdneanjbkaaGreatDoor

/- The document's one rune at a place: the text's own. -/
namespace Go.Proofs.YtcedpdneanjbkaaGreatDoor
open Go.RowKit

/-- What is known of the four bytes at a place. -/
theorem one_dec (s : ByteArray) (i : Nat) : Lib.decodeL (s.data.toList.drop i) = Lib.decodeN (s.size - i) (bt s i) (bt s (i + 1)) (bt s (i + 2)) (bt s (i + 3)) := by
  rw [Lib.decodeL_N, bt_drop, bt_drop, bt_drop, bt_drop, List.length_drop, Array.length_toList]
  rfl
theorem one_rv {s : ByteArray} {i r k : Nat} (h : Lib.decodeN (s.size - i) (bt s i) (bt s (i + 1)) (bt s (i + 2)) (bt s (i + 3)) = (r, k)) (hn : ¬ (r = 65533 ∧ k = 1)) : rv (s.data.toList.drop i) = (r : Int) ∧ wd (s.data.toList.drop i) = k := by
  unfold rv wd
  rw [one_dec, h]
  exact ⟨if_neg hn, rfl⟩
theorem one_bad {s : ByteArray} {i : Nat} (h : Lib.decodeN (s.size - i) (bt s i) (bt s (i + 1)) (bt s (i + 2)) (bt s (i + 3)) = (65533, 1)) : rv (s.data.toList.drop i) = -1 ∧ wd (s.data.toList.drop i) = 1 := by
  unfold rv wd
  rw [one_dec, h]
  exact ⟨rfl, rfl⟩
theorem cB_yes {s : ByteArray} {j lo hi : Nat} (h : cB s j lo hi = true) : j < s.size ∧ lo ≤ bt s j ∧ bt s j ≤ hi := of_decide_eq_true h
theorem cB_no {s : ByteArray} {j lo hi : Nat} (h : cB s j lo hi = false) : ¬ (j < s.size ∧ lo ≤ bt s j ∧ bt s j ≤ hi) := of_decide_eq_false h

theorem one_1 {s : ByteArray} {i : Nat} (h : bt s i < 128) : rv (s.data.toList.drop i) = (bt s i : Int) ∧ wd (s.data.toList.drop i) = 1 :=
  one_rv (Lib.decodeN_ascii _ _ _ _ _ h) (by omega)
theorem one_2 {s : ByteArray} {i : Nat} (h0 : 194 ≤ bt s i) (h1 : bt s i ≤ 223) (hc : cB s (i + 1) 128 191 = true) : rv (s.data.toList.drop i) = ((bt s i % 32 * 64 + bt s (i + 1) % 64 : Nat) : Int) ∧ wd (s.data.toList.drop i) = 2 := by
  obtain ⟨c1, c2, c3⟩ := cB_yes hc
  refine one_rv ?_ (by omega)
  unfold Lib.decodeN
  rw [if_neg (by omega), if_pos ⟨by omega, by omega, by omega⟩, if_pos (by omega)]
theorem one_3 {s : ByteArray} {i lo hi : Nat} (h0 : 224 ≤ bt s i) (h1 : bt s i ≤ 239) (hlo : lo = if bt s i = 224 then 160 else 128) (hhi : hi = if bt s i = 237 then 159 else 191) (hc : cB s (i + 1) lo hi = true) (hd : cB s (i + 2) 128 191 = true) :
    rv (s.data.toList.drop i) = ((bt s i % 16 * 4096 + bt s (i + 1) % 64 * 64 + bt s (i + 2) % 64 : Nat) : Int) ∧ wd (s.data.toList.drop i) = 3 := by
  obtain ⟨c1, c2, c3⟩ := cB_yes hc
  obtain ⟨d1, d2, d3⟩ := cB_yes hd
  refine one_rv ?_ (by omega)
  unfold Lib.decodeN
  split at hlo
  all_goals split at hhi
  all_goals rw [if_neg (by omega), if_neg (by omega), if_pos ⟨by omega, ⟨by omega, by omega⟩, ⟨by omega, by omega⟩⟩, if_pos (by omega)]
theorem one_4 {s : ByteArray} {i lo hi : Nat} (h0 : 240 ≤ bt s i) (h1 : bt s i ≤ 244) (hlo : lo = if bt s i = 240 then 144 else 128) (hhi : hi = if bt s i = 244 then 143 else 191) (hc : cB s (i + 1) lo hi = true) (hd : cB s (i + 2) 128 191 = true) (he : cB s (i + 3) 128 191 = true) :
    rv (s.data.toList.drop i) = ((bt s i % 8 * 262144 + bt s (i + 1) % 64 * 4096 + bt s (i + 2) % 64 * 64 + bt s (i + 3) % 64 : Nat) : Int) ∧ wd (s.data.toList.drop i) = 4 := by
  obtain ⟨c1, c2, c3⟩ := cB_yes hc
  obtain ⟨d1, d2, d3⟩ := cB_yes hd
  obtain ⟨e1, e2, e3⟩ := cB_yes he
  refine one_rv ?_ (by omega)
  unfold Lib.decodeN
  split at hlo
  all_goals split at hhi
  all_goals rw [if_neg (by omega), if_neg (by omega), if_neg (by omega), if_pos ⟨by omega, ⟨by omega, by omega⟩, ⟨by omega, by omega⟩, ⟨by omega, by omega⟩⟩, if_pos (by omega)]
/-- None of the four. -/
theorem one_0 {s : ByteArray} {i : Nat} (h1 : ¬ bt s i < 128) (h2 : ¬ (194 ≤ bt s i ∧ bt s i ≤ 223 ∧ cB s (i + 1) 128 191 = true))
    (h3 : ¬ (224 ≤ bt s i ∧ bt s i ≤ 239 ∧ cB s (i + 1) (if bt s i = 224 then 160 else 128) (if bt s i = 237 then 159 else 191) = true ∧ cB s (i + 2) 128 191 = true))
    (h4 : ¬ (240 ≤ bt s i ∧ bt s i ≤ 244 ∧ cB s (i + 1) (if bt s i = 240 then 144 else 128) (if bt s i = 244 then 143 else 191) = true ∧ cB s (i + 2) 128 191 = true ∧ cB s (i + 3) 128 191 = true)) :
    rv (s.data.toList.drop i) = -1 ∧ wd (s.data.toList.drop i) = 1 := by
  have k0 := bt_lt s i
  have k1 := bt_lt s (i + 1)
  have k2 := bt_lt s (i + 2)
  have k3 := bt_lt s (i + 3)
  simp only [cB, decide_eq_true_eq] at h2 h3 h4
  refine one_bad ?_
  rcases Lib.decodeN_shape (s.size - i) (bt s i) (bt s (i + 1)) (bt s (i + 2)) (bt s (i + 3)) with ⟨c, e⟩ | ⟨c1, c2, c3, cv, e⟩ | ⟨c1, c2, c3, c4, cv, cs, e⟩ | ⟨c1, c2, c3, c4, c5, cv, cw, e⟩ | e
  · omega
  · exfalso
    exact h2 ⟨by omega, by omega, by omega, by omega, by omega⟩
  · exfalso
    refine h3 ⟨by omega, by omega, ⟨by omega, ?_, ?_⟩, by omega, by omega, by omega⟩
    · split <;> omega
    · split <;> omega
  · exfalso
    refine h4 ⟨by omega, by omega, ⟨by omega, ?_, ?_⟩, ⟨by omega, by omega, by omega⟩, by omega, by omega, by omega⟩
    · split <;> omega
    · split <;> omega
  · exact e

/-! ### bits -/
theorem mask5 (x : Nat) (hx : x < 256) : bits .and .u8 (x : Int) 31 = ((x % 32 : Nat) : Int) := by
  have h := u8_and_nat x 31 hx (by decide)
  rw [nat_mask5] at h
  exact h
theorem mask4 (x : Nat) (hx : x < 256) : bits .and .u8 (x : Int) 15 = ((x % 16 : Nat) : Int) := and15 x hx
theorem mask3 (x : Nat) (hx : x < 256) : bits .and .u8 (x : Int) 7 = ((x % 8 : Nat) : Int) := by
  have h := u8_and_nat x 7 hx (by decide)
  rw [nat_mask3] at h
  exact h
theorem mask6 (x : Nat) (hx : x < 256) : bits .and .u8 (x : Int) 63 = ((x % 64 : Nat) : Int) := by
  have h := u8_and_nat x 63 hx (by decide)
  rw [nat_mask6] at h
  exact h
theorem i64_or (k : Nat) (a b : Nat) (ha : a < 1048576) (hb : b < 2 ^ k) (hk : k ≤ 18) : bits .or .i64 ((a : Int) * (2 ^ k : Nat)) (b : Int) = (a : Int) * (2 ^ k : Nat) + b := by
  have h1 : (2 : Nat) ^ k ≤ 2 ^ 18 := Nat.pow_le_pow_right (by decide) hk
  have h2 : a * 2 ^ k ≤ 1048576 * 2 ^ 18 := Nat.mul_le_mul (by omega) h1
  have h := (bits_nat .i64 62 (by decide) (fun n h0 h1 => by rw [IntKind.wrap_i64]; omega) (a * 2 ^ k) b (by omega) (by omega)).2
  have e : a * 2 ^ k ||| b = a * 2 ^ k + b := by
    rw [Nat.mul_comm, ← Nat.two_pow_add_eq_or_of_lt hb]
  rw [e] at h
  push_cast at h ⊢
  exact h
end Go.Proofs.YtcedpdneanjbkaaGreatDoor

/- What the document's one answers: the rune at a place, the place, how many bytes. -/
namespace Go.Proofs.YtcedpdneanjbkaaGreatDoor
open Go.RowKit

theorem infoRefRune : (Tryz.prog.info? 150).map (·.size) = some 3 := by kernel_rfl
theorem below_one (w : World) (o : Obj) : Below w.heap.size w (w.alloc o).drew := ((Below.refl _ w).alloc (Nat.le_refl _) o).trans ⟨rfl, rfl, rfl, by simp [World.drew], fun _ _ => rfl⟩
def oneV (r : Int) (i k : Nat) : Value := .agg #[.int .i64 r, .int .i64 i, .int .i64 k]
def OneK (s : ByteArray) (i : Nat) (r : Int) (k : Nat) (w : World) : Prop :=
  Calls Tryz.prog 121 #[.string s, .int .i64 i] w fun e w' => e = .returned (oneV r i k) ∧ Below w.heap.size w w'

set_option maxRecDepth 100000 in
theorem one_k1 (s : ByteArray) (i : Nat) (hi : i < s.size) (c1 : bt s i < 128) (w : World) : OneK s i (bt s i) 1 w := by
  have hby := bt_get s i hi
  generalize bt s i = b0 at *
  unfold OneK oneV
  go_enter Tryz.func121, Tryz.ntmps121
  go_wp2
  refine bodyPost_ret (results_cell_row rfl _ _ w.heap.size _ _ _ _ rfl (heap_alloc_new _ _) Tryz.underlying150 rfl infoRefRune) rfl ?_
  exact ⟨rfl, (Below.refl _ w).alloc (Nat.le_refl _) _⟩

set_option maxRecDepth 100000 in
set_option maxHeartbeats 2000000 in
theorem one_k2 (s : ByteArray) (hs : s.size ≤ 1048576) (i : Nat) (hi : i < s.size) (h0 : 194 ≤ bt s i) (h1 : bt s i ≤ 223) (hc : cB s (i + 1) 128 191 = true) (w : World) : OneK s i ((bt s i % 32 * 64 + bt s (i + 1) % 64 : Nat) : Int) 2 w := by
  have hlt := (cB_yes hc).1
  have hby := bt_get s i hi
  have hby1 := bt_get s (i + 1) hlt
  have m0 := mask5 (bt s i) (bt_lt s i)
  have m1 := mask6 (bt s (i + 1)) (bt_lt s (i + 1))
  have hx : bt s i % 32 < 32 := Nat.mod_lt _ (by decide)
  have hy : bt s (i + 1) % 64 < 64 := Nat.mod_lt _ (by decide)
  generalize bt s i % 32 = x at *
  generalize bt s (i + 1) % 64 = y at *
  have o1 : bits .or .i64 ((x : Int) * 64) (y : Int) = (x : Int) * 64 + (y : Int) := i64_or 6 x y (by omega) hy (by decide)
  have er : ((x * 64 + y : Nat) : Int) = (x : Int) * 64 + (y : Int) := by omega
  rw [er]
  clear er
  generalize bt s i = b0 at *
  generalize bt s (i + 1) = b1 at *
  have hi1 : i + 1 < s.size := hlt
  unfold OneK oneV
  go_enter Tryz.func121, Tryz.ntmps121
  go_wp2_with (go_at_call 146; refine (cont_k s hs (i + 1) _ (by simp) 128 191 true hc _).mono ?_; rintro e w1 ⟨rfl, rfl⟩)
  refine bodyPost_ret (results_cell_row rfl _ _ w.heap.size _ _ _ _ rfl (heap_alloc_new _ _) Tryz.underlying150 rfl infoRefRune) rfl ?_
  exact ⟨rfl, (Below.refl _ w).alloc (Nat.le_refl _) _⟩

set_option maxRecDepth 100000 in
set_option maxHeartbeats 2000000 in
theorem one_k3 (s : ByteArray) (hs : s.size ≤ 1048576) (i : Nat) (hi : i < s.size) (h0 : 224 ≤ bt s i) (h1 : bt s i ≤ 239) (p q : Bool) (lo up : Nat) (hp : ((bt s i : Int) == 224) = p) (hq : ((bt s i : Int) == 237) = q) (hlo : lo = bif p then 160 else 128) (hup : up = bif q then 159 else 191)
    (hc : cB s (i + 1) lo up = true) (hd : cB s (i + 2) 128 191 = true) (w : World) : OneK s i ((bt s i % 16 * 4096 + bt s (i + 1) % 64 * 64 + bt s (i + 2) % 64 : Nat) : Int) 3 w := by
  have hi1 : i + 1 < s.size := (cB_yes hc).1
  have hi2 : i + 2 < s.size := (cB_yes hd).1
  have hby := bt_get s i hi
  have hby1 := bt_get s (i + 1) hi1
  have hby2 := bt_get s (i + 2) hi2
  have m0 := mask4 (bt s i) (bt_lt s i)
  have m1 := mask6 (bt s (i + 1)) (bt_lt s (i + 1))
  have m2 := mask6 (bt s (i + 2)) (bt_lt s (i + 2))
  have hx : bt s i % 16 < 16 := Nat.mod_lt _ (by decide)
  have hy : bt s (i + 1) % 64 < 64 := Nat.mod_lt _ (by decide)
  have hz : bt s (i + 2) % 64 < 64 := Nat.mod_lt _ (by decide)
  generalize bt s i % 16 = x at *
  generalize bt s (i + 1) % 64 = y at *
  generalize bt s (i + 2) % 64 = z at *
  generalize bt s i = b0 at *
  generalize bt s (i + 1) = b1 at *
  generalize bt s (i + 2) = b2 at *
  have o1 : bits .or .i64 ((x : Int) * 4096) ((y : Int) * 64) = (x : Int) * 4096 + (y : Int) * 64 := by
    have := i64_or 12 x (y * 64) (by omega) (by omega) (by decide)
    have e : ((y * 64 : Nat) : Int) = (y : Int) * 64 := by omega
    rw [e] at this
    exact this
  have o2 : bits .or .i64 ((x : Int) * 4096 + (y : Int) * 64) (z : Int) = (x : Int) * 4096 + (y : Int) * 64 + (z : Int) := by
    have := i64_or 6 (x * 64 + y) z (by omega) (by omega) (by decide)
    have e : (((x * 64 + y : Nat) : Int) * (2 ^ 6 : Nat)) = (x : Int) * 4096 + (y : Int) * 64 := by omega
    rw [e] at this
    exact this
  have er : ((x * 4096 + y * 64 + z : Nat) : Int) = (x : Int) * 4096 + (y : Int) * 64 + (z : Int) := by omega
  rw [er]
  clear er
  unfold OneK oneV
  have j1 : (i : Int) + 1 < (s.size : Int) := by omega
  have j2 : (i : Int) + 2 < (s.size : Int) := by omega
  have hix1 : ∀ w, (Instr.index 9 (.string s) (.int .i64 ((i : Int) + 1))).run Tryz.prog w = .ok (.int .u8 (b1 : Int)) w := fun w => by
    have j0 : (0 : Int) ≤ (i : Int) + 1 := by omega
    have e : ((i : Int) + 1).toNat = i + 1 := by omega
    simp [go_sem, j1, j0, e, hby1]
  have hix2 : ∀ w, (Instr.index 9 (.string s) (.int .i64 ((i : Int) + 2))).run Tryz.prog w = .ok (.int .u8 (b2 : Int)) w := fun w => by
    have j0 : (0 : Int) ≤ (i : Int) + 2 := by omega
    have e : ((i : Int) + 2).toNat = i + 2 := by omega
    simp [go_sem, j2, j0, e, hby2]
  have HC := hide hc
  have HD := hide hd
  clear hc hd
  have hpq : ¬ (p = true ∧ q = true) := by
    rintro ⟨rfl, rfl⟩
    simp at hp hq
    omega
  cases p
  all_goals cases q
  case true.true => exact absurd ⟨rfl, rfl⟩ hpq
  all_goals clear hpq
  all_goals simp only [cond_true, cond_false] at hlo hup
  all_goals subst hlo hup
  all_goals (
    go_enter Tryz.func121, Tryz.ntmps121
    go_wp2_with (first
      | (go_at_call 146; refine (cont_k s hs (i + 1) _ rfl _ _ true HC.out _).mono ?_; clear HC; rintro e w1 ⟨rfl, rfl⟩)
      | (go_at_call 146; refine (cont_k s hs (i + 2) _ rfl _ _ true HD.out _).mono ?_; clear HD; rintro e w1 ⟨rfl, rfl⟩))
    go_region
    go_wp2
    refine bodyPost_ret (results_cell_row rfl _ _ w.heap.size _ _ _ _ rfl (heap_alloc_new w _) Tryz.underlying150 rfl infoRefRune) rfl ?_
    exact ⟨rfl, below_one w _⟩)

set_option maxRecDepth 100000 in
set_option maxHeartbeats 4000000 in
theorem one_k4 (s : ByteArray) (hs : s.size ≤ 1048576) (i : Nat) (hi : i < s.size) (h0 : 240 ≤ bt s i) (h1 : bt s i ≤ 244) (p q : Bool) (lo up : Nat) (hp : ((bt s i : Int) == 240) = p) (hq : ((bt s i : Int) == 244) = q) (hlo : lo = bif p then 144 else 128) (hup : up = bif q then 143 else 191)
    (hc : cB s (i + 1) lo up = true) (hd : cB s (i + 2) 128 191 = true) (hf : cB s (i + 3) 128 191 = true) (w : World) : OneK s i ((bt s i % 8 * 262144 + bt s (i + 1) % 64 * 4096 + bt s (i + 2) % 64 * 64 + bt s (i + 3) % 64 : Nat) : Int) 4 w := by
  have hi1 : i + 1 < s.size := (cB_yes hc).1
  have hi2 : i + 2 < s.size := (cB_yes hd).1
  have hi3 : i + 3 < s.size := (cB_yes hf).1
  have hby := bt_get s i hi
  have hby1 := bt_get s (i + 1) hi1
  have hby2 := bt_get s (i + 2) hi2
  have hby3 := bt_get s (i + 3) hi3
  have m0 := mask3 (bt s i) (bt_lt s i)
  have m1 := mask6 (bt s (i + 1)) (bt_lt s (i + 1))
  have m2 := mask6 (bt s (i + 2)) (bt_lt s (i + 2))
  have m3 := mask6 (bt s (i + 3)) (bt_lt s (i + 3))
  have hx : bt s i % 8 < 8 := Nat.mod_lt _ (by decide)
  have hy : bt s (i + 1) % 64 < 64 := Nat.mod_lt _ (by decide)
  have hz : bt s (i + 2) % 64 < 64 := Nat.mod_lt _ (by decide)
  have hu : bt s (i + 3) % 64 < 64 := Nat.mod_lt _ (by decide)
  generalize bt s i % 8 = x at *
  generalize bt s (i + 1) % 64 = y at *
  generalize bt s (i + 2) % 64 = z at *
  generalize bt s (i + 3) % 64 = u at *
  generalize bt s i = b0 at *
  generalize bt s (i + 1) = b1 at *
  generalize bt s (i + 2) = b2 at *
  generalize bt s (i + 3) = b3 at *
  have o1 : bits .or .i64 ((x : Int) * 262144) ((y : Int) * 4096) = (x : Int) * 262144 + (y : Int) * 4096 := by
    have := i64_or 18 x (y * 4096) (by omega) (by omega) (by decide)
    have e : ((y * 4096 : Nat) : Int) = (y : Int) * 4096 := by omega
    rw [e] at this
    exact this
  have o2 : bits .or .i64 ((x : Int) * 262144 + (y : Int) * 4096) ((z : Int) * 64) = (x : Int) * 262144 + (y : Int) * 4096 + (z : Int) * 64 := by
    have := i64_or 12 (x * 64 + y) (z * 64) (by omega) (by omega) (by decide)
    have e : (((x * 64 + y : Nat) : Int) * (2 ^ 12 : Nat)) = (x : Int) * 262144 + (y : Int) * 4096 := by omega
    have e2 : ((z * 64 : Nat) : Int) = (z : Int) * 64 := by omega
    rw [e, e2] at this
    exact this
  have o3 : bits .or .i64 ((x : Int) * 262144 + (y : Int) * 4096 + (z : Int) * 64) (u : Int) = (x : Int) * 262144 + (y : Int) * 4096 + (z : Int) * 64 + (u : Int) := by
    have := i64_or 6 (x * 4096 + y * 64 + z) u (by omega) (by omega) (by decide)
    have e : (((x * 4096 + y * 64 + z : Nat) : Int) * (2 ^ 6 : Nat)) = (x : Int) * 262144 + (y : Int) * 4096 + (z : Int) * 64 := by omega
    rw [e] at this
    exact this
  have er : ((x * 262144 + y * 4096 + z * 64 + u : Nat) : Int) = (x : Int) * 262144 + (y : Int) * 4096 + (z : Int) * 64 + (u : Int) := by omega
  rw [er]
  clear er
  unfold OneK oneV
  have j1 : (i : Int) + 1 < (s.size : Int) := by omega
  have j2 : (i : Int) + 2 < (s.size : Int) := by omega
  have j3 : (i : Int) + 3 < (s.size : Int) := by omega
  have hix1 : ∀ w, (Instr.index 9 (.string s) (.int .i64 ((i : Int) + 1))).run Tryz.prog w = .ok (.int .u8 (b1 : Int)) w := fun w => by
    have j0 : (0 : Int) ≤ (i : Int) + 1 := by omega
    have e : ((i : Int) + 1).toNat = i + 1 := by omega
    simp [go_sem, j1, j0, e, hby1]
  have hix2 : ∀ w, (Instr.index 9 (.string s) (.int .i64 ((i : Int) + 2))).run Tryz.prog w = .ok (.int .u8 (b2 : Int)) w := fun w => by
    have j0 : (0 : Int) ≤ (i : Int) + 2 := by omega
    have e : ((i : Int) + 2).toNat = i + 2 := by omega
    simp [go_sem, j2, j0, e, hby2]
  have hix3 : ∀ w, (Instr.index 9 (.string s) (.int .i64 ((i : Int) + 3))).run Tryz.prog w = .ok (.int .u8 (b3 : Int)) w := fun w => by
    have j0 : (0 : Int) ≤ (i : Int) + 3 := by omega
    have e : ((i : Int) + 3).toNat = i + 3 := by omega
    simp [go_sem, j3, j0, e, hby3]
  have HC := hide hc
  have HD := hide hd
  have HF := hide hf
  clear hc hd hf
  have hpq : ¬ (p = true ∧ q = true) := by
    rintro ⟨rfl, rfl⟩
    simp at hp hq
    omega
  cases p
  all_goals cases q
  case true.true => exact absurd ⟨rfl, rfl⟩ hpq
  all_goals clear hpq
  all_goals simp only [cond_true, cond_false] at hlo hup
  all_goals subst hlo hup
  all_goals (
    go_enter Tryz.func121, Tryz.ntmps121
    go_wp2_with (first
      | (go_at_call 146; refine (cont_k s hs (i + 1) _ rfl _ _ true HC.out _).mono ?_; clear HC; rintro e w1 ⟨rfl, rfl⟩)
      | (go_at_call 146; refine (cont_k s hs (i + 2) _ rfl _ _ true HD.out _).mono ?_; clear HD; rintro e w1 ⟨rfl, rfl⟩)
      | (go_at_call 146; refine (cont_k s hs (i + 3) _ rfl _ _ true HF.out _).mono ?_; clear HF; rintro e w1 ⟨rfl, rfl⟩))
    go_region
    go_wp2
    refine bodyPost_ret (results_cell_row rfl _ _ w.heap.size _ _ _ _ rfl (heap_alloc_new w _) Tryz.underlying150 rfl infoRefRune) rfl ?_
    exact ⟨rfl, below_one w _⟩)
end Go.Proofs.YtcedpdneanjbkaaGreatDoor

/- The document's one, where nothing right begins; and so everywhere. -/
namespace Go.Proofs.YtcedpdneanjbkaaGreatDoor
open Go.RowKit

set_option maxRecDepth 100000 in
theorem one_b0 (s : ByteArray) (i : Nat) (hi : i < s.size) (c1 : 128 ≤ bt s i) (c2 : bt s i < 194 ∨ 244 < bt s i) (w : World) : OneK s i (-1) 1 w := by
  have hby := bt_get s i hi
  generalize bt s i = b0 at *
  unfold OneK oneV
  rcases c2 with c2 | c2
  all_goals (
    go_enter Tryz.func121, Tryz.ntmps121
    go_wp2
    refine bodyPost_ret (results_cell_row rfl _ _ w.heap.size _ _ _ _ rfl (heap_alloc_new _ _) Tryz.underlying150 rfl infoRefRune) rfl ?_
    exact ⟨rfl, (Below.refl _ w).alloc (Nat.le_refl _) _⟩)

set_option maxRecDepth 100000 in
theorem one_b2 (s : ByteArray) (hs : s.size ≤ 1048576) (i : Nat) (hi : i < s.size) (h0 : 194 ≤ bt s i) (h1 : bt s i ≤ 223) (hc : cB s (i + 1) 128 191 = false) (w : World) : OneK s i (-1) 1 w := by
  have hby := bt_get s i hi
  generalize bt s i = b0 at *
  have HC := hide hc
  clear hc
  unfold OneK oneV
  go_enter Tryz.func121, Tryz.ntmps121
  go_wp2_with (go_at_call 146; refine (cont_k s hs (i + 1) _ rfl _ _ false HC.out _).mono ?_; clear HC; rintro e w1 ⟨rfl, rfl⟩)
  refine bodyPost_ret (results_cell_row rfl _ _ w.heap.size _ _ _ _ rfl (heap_alloc_new _ _) Tryz.underlying150 rfl infoRefRune) rfl ?_
  exact ⟨rfl, (Below.refl _ w).alloc (Nat.le_refl _) _⟩

set_option maxRecDepth 100000 in
set_option maxHeartbeats 2000000 in
theorem one_b3 (s : ByteArray) (hs : s.size ≤ 1048576) (i : Nat) (hi : i < s.size) (h0 : 224 ≤ bt s i) (h1 : bt s i ≤ 239) (p q : Bool) (lo up : Nat) (hp : ((bt s i : Int) == 224) = p) (hq : ((bt s i : Int) == 237) = q) (hlo : lo = bif p then 160 else 128) (hup : up = bif q then 159 else 191)
    (c d : Bool) (hc : cB s (i + 1) lo up = c) (hd : cB s (i + 2) 128 191 = d) (hn : ¬ (c = true ∧ d = true)) (w : World) : OneK s i (-1) 1 w := by
  have hby := bt_get s i hi
  generalize bt s i = b0 at *
  unfold OneK oneV
  have HC := hide hc
  have HD := hide hd
  clear hc hd
  have hpq : ¬ (p = true ∧ q = true) := by
    rintro ⟨rfl, rfl⟩
    simp at hp hq
    omega
  cases p
  all_goals cases q
  case true.true => exact absurd ⟨rfl, rfl⟩ hpq
  all_goals clear hpq
  all_goals simp only [cond_true, cond_false] at hlo hup
  all_goals subst hlo hup
  all_goals cases c
  all_goals cases d
  all_goals first
    | (exfalso; exact hn ⟨rfl, rfl⟩)
    | clear hn
  all_goals (
    go_enter Tryz.func121, Tryz.ntmps121
    go_wp2_with (first
      | (go_at_call 146; refine (cont_k s hs (i + 1) _ rfl _ _ _ HC.out _).mono ?_; clear HC; rintro e w1 ⟨rfl, rfl⟩)
      | (go_at_call 146; refine (cont_k s hs (i + 2) _ rfl _ _ _ HD.out _).mono ?_; clear HD; rintro e w1 ⟨rfl, rfl⟩))
    refine bodyPost_ret (results_cell_row rfl _ _ w.heap.size _ _ _ _ rfl (heap_alloc_new _ _) Tryz.underlying150 rfl infoRefRune) rfl ?_
    exact ⟨rfl, (Below.refl _ w).alloc (Nat.le_refl _) _⟩)

set_option maxRecDepth 100000 in
set_option maxHeartbeats 4000000 in
theorem one_b4 (s : ByteArray) (hs : s.size ≤ 1048576) (i : Nat) (hi : i < s.size) (h0 : 240 ≤ bt s i) (h1 : bt s i ≤ 244) (p q : Bool) (lo up : Nat) (hp : ((bt s i : Int) == 240) = p) (hq : ((bt s i : Int) == 244) = q) (hlo : lo = bif p then 144 else 128) (hup : up = bif q then 143 else 191)
    (hn : cB s (i + 1) lo up = false ∨ (cB s (i + 1) lo up = true ∧ cB s (i + 2) 128 191 = false) ∨ (cB s (i + 1) lo up = true ∧ cB s (i + 2) 128 191 = true ∧ cB s (i + 3) 128 191 = false)) (w : World) : OneK s i (-1) 1 w := by
  have hby := bt_get s i hi
  generalize bt s i = b0 at *
  unfold OneK oneV
  have hpq : ¬ (p = true ∧ q = true) := by
    rintro ⟨rfl, rfl⟩
    simp at hp hq
    omega
  cases p
  all_goals cases q
  case true.true => exact absurd ⟨rfl, rfl⟩ hpq
  all_goals clear hpq
  all_goals simp only [cond_true, cond_false] at hlo hup
  all_goals subst hlo hup
  all_goals rcases hn with hn | ⟨hn, hm⟩ | ⟨hn, hm, hk⟩
  all_goals have HC := hide hn
  all_goals clear hn
  all_goals try have HD := hide hm
  all_goals try clear hm
  all_goals try have HF := hide hk
  all_goals try clear hk
  all_goals (
    go_enter Tryz.func121, Tryz.ntmps121
    go_wp2_with (first
      | (go_at_call 146; refine (cont_k s hs (i + 1) _ rfl _ _ _ HC.out _).mono ?_; clear HC; rintro e w1 ⟨rfl, rfl⟩)
      | (go_at_call 146; refine (cont_k s hs (i + 2) _ rfl _ _ _ HD.out _).mono ?_; clear HD; rintro e w1 ⟨rfl, rfl⟩)
      | (go_at_call 146; refine (cont_k s hs (i + 3) _ rfl _ _ _ HF.out _).mono ?_; clear HF; rintro e w1 ⟨rfl, rfl⟩))
    refine bodyPost_ret (results_cell_row rfl _ _ w.heap.size _ _ _ _ rfl (heap_alloc_new _ _) Tryz.underlying150 rfl infoRefRune) rfl ?_
    exact ⟨rfl, (Below.refl _ w).alloc (Nat.le_refl _) _⟩)

/-- One answers the rune at a place, the place, and how many bytes. -/
theorem one_k (s : ByteArray) (hs : s.size ≤ 1048576) (i : Nat) (hi : i < s.size) (w : World) : OneK s i (rv (s.data.toList.drop i)) (wd (s.data.toList.drop i)) w := by
  by_cases c1 : bt s i < 128
  · obtain ⟨e1, e2⟩ := one_1 c1
    rw [e1, e2]
    exact one_k1 s i hi c1 w
  by_cases c2 : 194 ≤ bt s i ∧ bt s i ≤ 223
  · cases hc : cB s (i + 1) 128 191 with
    | true =>
      obtain ⟨e1, e2⟩ := one_2 c2.1 c2.2 hc
      rw [e1, e2]
      exact one_k2 s hs i hi c2.1 c2.2 hc w
    | false =>
      obtain ⟨e1, e2⟩ := one_0 c1 (fun h => by rw [hc] at h; exact absurd h.2.2 (by decide)) (fun h => by omega) (fun h => by omega)
      rw [e1, e2]
      exact one_b2 s hs i hi c2.1 c2.2 hc w
  by_cases c3 : 224 ≤ bt s i ∧ bt s i ≤ 239
  · obtain ⟨lo, hlo⟩ : ∃ lo, lo = if bt s i = 224 then 160 else 128 := ⟨_, rfl⟩
    obtain ⟨up, hup⟩ : ∃ up, up = if bt s i = 237 then 159 else 191 := ⟨_, rfl⟩
    have hlo' : lo = bif ((bt s i : Int) == 224) then 160 else 128 := by
      rw [hlo]
      by_cases e : bt s i = 224
      · simp [e]
      · have : ((bt s i : Int) == 224) = false := by simp; omega
        rw [if_neg e, this]
        rfl
    have hup' : up = bif ((bt s i : Int) == 237) then 159 else 191 := by
      rw [hup]
      by_cases e : bt s i = 237
      · simp [e]
      · have : ((bt s i : Int) == 237) = false := by simp; omega
        rw [if_neg e, this]
        rfl
    by_cases hn : cB s (i + 1) lo up = true ∧ cB s (i + 2) 128 191 = true
    · obtain ⟨e1, e2⟩ := one_3 c3.1 c3.2 hlo hup hn.1 hn.2
      rw [e1, e2]
      exact one_k3 s hs i hi c3.1 c3.2 _ _ lo up rfl rfl hlo' hup' hn.1 hn.2 w
    · obtain ⟨e1, e2⟩ := one_0 c1 (fun h => by omega) (fun h => by rw [← hlo, ← hup] at h; exact hn ⟨h.2.2.1, h.2.2.2⟩) (fun h => by omega)
      rw [e1, e2]
      exact one_b3 s hs i hi c3.1 c3.2 _ _ lo up rfl rfl hlo' hup' _ _ rfl rfl hn w
  by_cases c4 : 240 ≤ bt s i ∧ bt s i ≤ 244
  · obtain ⟨lo, hlo⟩ : ∃ lo, lo = if bt s i = 240 then 144 else 128 := ⟨_, rfl⟩
    obtain ⟨up, hup⟩ : ∃ up, up = if bt s i = 244 then 143 else 191 := ⟨_, rfl⟩
    have hlo' : lo = bif ((bt s i : Int) == 240) then 144 else 128 := by
      rw [hlo]
      by_cases e : bt s i = 240
      · simp [e]
      · have : ((bt s i : Int) == 240) = false := by simp; omega
        rw [if_neg e, this]
        rfl
    have hup' : up = bif ((bt s i : Int) == 244) then 143 else 191 := by
      rw [hup]
      by_cases e : bt s i = 244
      · simp [e]
      · have : ((bt s i : Int) == 244) = false := by simp; omega
        rw [if_neg e, this]
        rfl
    by_cases hn : cB s (i + 1) lo up = true ∧ cB s (i + 2) 128 191 = true ∧ cB s (i + 3) 128 191 = true
    · obtain ⟨e1, e2⟩ := one_4 c4.1 c4.2 hlo hup hn.1 hn.2.1 hn.2.2
      rw [e1, e2]
      exact one_k4 s hs i hi c4.1 c4.2 _ _ lo up rfl rfl hlo' hup' hn.1 hn.2.1 hn.2.2 w
    · obtain ⟨e1, e2⟩ := one_0 c1 (fun h => by omega) (fun h => by omega) (fun h => by rw [← hlo, ← hup] at h; exact hn ⟨h.2.2.1, h.2.2.2.1, h.2.2.2.2⟩)
      rw [e1, e2]
      refine one_b4 s hs i hi c4.1 c4.2 _ _ lo up rfl rfl hlo' hup' ?_ w
      cases h1 : cB s (i + 1) lo up with
      | false => exact .inl rfl
      | true =>
        cases h2 : cB s (i + 2) 128 191 with
        | false => exact .inr (.inl ⟨rfl, rfl⟩)
        | true =>
          cases h3 : cB s (i + 3) 128 191 with
          | false => exact .inr (.inr ⟨rfl, rfl, rfl⟩)
          | true => exact absurd ⟨h1, h2, h3⟩ hn
  · obtain ⟨e1, e2⟩ := one_0 c1 (fun h => by omega) (fun h => by omega) (fun h => by omega)
    rw [e1, e2]
    exact one_b0 s i hi (by omega) (by omega) w
end Go.Proofs.YtcedpdneanjbkaaGreatDoor

/- The document's runes of a text, and how many. -/
namespace Go.Proofs.YtcedpdneanjbkaaGreatDoor
open Go.RowKit

def rsT : Nat → List (Int × Nat) → List (Int × Nat × Nat)
  | _, [] => []
  | off, (r, k) :: t => (r, off, k) :: rsT (off + k) t
/-- A text's runes: each with where it begins and how many bytes it has. -/
def rs (l : List UInt8) : List (Int × Nat × Nat) := rsT 0 (ru l)
theorem rsT_length : ∀ (off : Nat) (t : List (Int × Nat)), (rsT off t).length = t.length
  | _, [] => rfl
  | off, (r, k) :: t => by rw [rsT, List.length_cons, List.length_cons, rsT_length]
theorem rs_length (l : List UInt8) : (rs l).length = (ru l).length := rsT_length _ _
def rsCells (x : List (Int × Nat × Nat)) : List Value := x.flatMap fun y => [.int .i64 y.1, .int .i64 y.2.1, .int .i64 y.2.2]
theorem rsCells_snoc (x : List (Int × Nat × Nat)) (y : Int × Nat × Nat) : rsCells (x ++ [y]) = rsCells x ++ [.int .i64 y.1, .int .i64 y.2.1, .int .i64 y.2.2] := by simp [rsCells]
theorem infoRefRune3 : (Tryz.prog.info? 150).map (fun i => (i.zero, i.size, i.bytes)) = some (some (.agg #[.int .i64 0, .int .i64 0, .int .i64 0]), 3, 24) := by kernel_rfl
theorem cell_three_at (w : World) (x y z : Value) (t : TypeId) (N : Nat) (hN : N = w.heap.size) : ∀ j v, [x, y, z][j]? = some v → (w.alloc (.cells #[x, y, z] t)).cell? ((⟨N, 0, none⟩ : Addr).add j) = some v := by
  subst hN
  intro j v hj
  match j, hj with
  | 0, hj => simp at hj; subst hj; simp [Addr.add]
  | 1, hj => simp at hj; subst hj; simp [Addr.add]
  | 2, hj => simp at hj; subst hj; simp [Addr.add]

theorem kept_new {w1 w2 : World} {row : Option Nat} {c : Array Value} {t : TypeId} {o2 : Obj} (hg : ((w1.alloc (.cells c t)).alloc o2).grownBy w2 row) (hr : ∀ k, row = some k → k < w1.heap.size) (j : Nat) (u : Value) (hj : c[j]? = some u) : w2.cell? ⟨w1.heap.size, j, none⟩ = some u := by
  have e : w2.heap[w1.heap.size]? = some (.cells c t (0, 0)) := by
    rw [hg.block _ (by simp; omega) (fun e => by have := hr _ e.symm; omega), Below.heap_alloc _ _ _ (by simp)]
    exact heap_alloc_new w1 _
  simp [World.cell?, e, hj]

set_option maxRecDepth 100000 in
set_option maxHeartbeats 2000000 in
theorem refRunes_k (s : ByteArray) (hs : s.size ≤ 1048576) (w : World) :
    Calls Tryz.prog 93 #[.string s] w fun e w' => ∃ v, e = .returned v ∧ w'.ownsRow w.heap.size 150 3 v (rs s.data.toList).length (rsCells (rs s.data.toList)) ∧ Below w.heap.size w w' := by
  obtain ⟨i3, hi3, h30, h31, h32⟩ := info_parts infoRefRune3
  have hlen : s.data.toList.length = s.size := by rw [Array.length_toList]; rfl
  go_enter Tryz.func93, Tryz.ntmps93
  go_wp2
  go_loopw [3, 4, 5] (fun v vi _ wr => ∃ (i : Nat) (pre : List (Int × Nat × Nat)), vi = .int .i64 (i : Int) ∧ i ≤ s.size ∧ pre.length ≤ i ∧ rs s.data.toList = pre ++ rsT i (ru (s.data.toList.drop i)) ∧ wr.ownsRow w.heap.size 150 3 v pre.length (rsCells pre) ∧ Below w.heap.size w wr)
    (fun _ v _ _ => s.size - (Lib.intOf v).toNat)
  case atStart => exact ⟨0, [], rfl, Nat.zero_le _, Nat.le_refl _, by simp [rs], World.ownsRow_nil _ _ _ _, Below.refl _ _⟩
  case round =>
    obtain ⟨i, pre, rfl, hi, hpi, hrs, hrow, hbel⟩ := hrel
    obtain ⟨ao, cp, rfl⟩ := row_slice hrow
    by_cases hlt : i < s.size
    · have h1 := wd_pos (s.data.toList.drop i)
      have h2 := wd_room s i hlt
      rw [ru_step _ (drop_ne s i hlt), rsT, List.drop_drop] at hrs
      have hone := one_k s hs i hlt wr
      unfold OneK oneV at hone
      generalize rv (s.data.toList.drop i) = r at *
      generalize wd (s.data.toList.drop i) = k at *
      go_wp2_with (first
        | (go_at_call 121; refine hone.mono ?_; clear hone; rintro e w1 ⟨rfl, hb1⟩; have hrow1 := row_below hrow hb1; have hsz1 := hb1.size)
        | (at_builtin; refine wpList_append_own _ rfl _ _ 146 rfl w.heap.size 150 i3 (.agg #[.int .i64 0, .int .i64 0, .int .i64 0]) 3 24 Tryz.underlying146 hi3 h30 h31 h32 rfl (by decide) _ _ _ rfl ((hrow1.alloc _).alloc _) ⟨w1.heap.size + 1, 0, none⟩ 1 1 [.int .i64 r, .int .i64 i, .int .i64 k] rfl rfl (cell_three_at _ _ _ _ _ _ (by simp)) (by simp [Value.oneCell']) (by unfold maxLen; omega) (by omega) (by have := hbel.size; simp; omega) ?_; intro v' w2 hown' hgrow _; obtain ⟨g', cap', rfl⟩ := ownsRow_succ hown'; have hlt' : ∀ q, (Value.slice ao pre.length cp).ownBlock = some q → q < w1.heap.size := fun q e => Nat.lt_of_lt_of_le (hrow.lt q e).2 hsz1; have hc2 := kept_new hgrow hlt' 2 _ rfl))
      go_roundw
      case rel =>
        refine ⟨i + k, pre ++ [(r, i, k)], by simp, h2, by simp; omega, ?_, ?_, ((((hbel.trans (hb1.mono hbel.size)).alloc (Nat.le_trans hbel.size hsz1) _).alloc (by have := hbel.size; simp; omega) _)).grown hgrow (by have := hbel.size; simp; omega) (fun j ej => (row_block hrow j ej).1)⟩
        · rw [hrs]
          simp
        · rw [rsCells_snoc, List.length_append]
          exact hown'
      case measure =>
        simp [Lib.intOf]
        omega
    · have hn : s.data.toList.drop i = [] := drop_end s i hlt
      rw [hn, ru_nil, rsT, List.append_nil] at hrs
      go_wp2
      go_ret
      rw [hrs]
      exact ⟨_, rfl, hrow, hbel⟩
end Go.Proofs.YtcedpdneanjbkaaGreatDoor

/- The document's runes, cell by cell. -/
namespace Go.Proofs.YtcedpdneanjbkaaGreatDoor
open Go.RowKit

theorem rsCells_at : ∀ (x : List (Int × Nat × Nat)) (k : Nat) (h : k < x.length), (rsCells x)[k * 3]? = some (.int .i64 (x[k]'h).1) ∧ (rsCells x)[k * 3 + 1]? = some (.int .i64 (x[k]'h).2.1) ∧ (rsCells x)[k * 3 + 2]? = some (.int .i64 (x[k]'h).2.2)
  | [], k, h => absurd h (by simp)
  | c :: r, 0, _ => ⟨rfl, rfl, rfl⟩
  | c :: r, k + 1, h => by
    have := rsCells_at r k (by simpa using h)
    have e : rsCells (c :: r) = [.int .i64 c.1, .int .i64 c.2.1, .int .i64 c.2.2] ++ rsCells r := rfl
    have e1 : (k + 1) * 3 = k * 3 + 3 := by omega
    rw [e, e1]
    exact this

/-- What a list of runes holds. -/
def RsAt (x : List (Int × Nat × Nat)) (a : Option Addr) (W : World) : Prop := ∀ k (h : k < x.length), ∃ g, a = some ⟨g, 0, none⟩ ∧ W.cell? ⟨g, k * 3, none⟩ = some (.int .i64 (x[k]'h).1) ∧ W.cell? ⟨g, k * 3 + 1, none⟩ = some (.int .i64 (x[k]'h).2.1) ∧ W.cell? ⟨g, k * 3 + 2, none⟩ = some (.int .i64 (x[k]'h).2.2)
theorem RsAt.below {x : List (Int × Nat × Nat)} {a : Option Addr} {W W' : World} (h : RsAt x a W) (hb : Below W.heap.size W W') : RsAt x a W' := fun k hk => by
  obtain ⟨g, e, h1, h2, h3⟩ := h k hk
  exact ⟨g, e, keepCell h1 hb, keepCell h2 hb, keepCell h3 hb⟩

theorem refRunes_cells (s : ByteArray) (hs : s.size ≤ 1048576) (w : World) :
    Calls Tryz.prog 93 #[.string s] w fun e w' => ∃ a c, e = .returned (.slice a (rs s.data.toList).length c) ∧ RsAt (rs s.data.toList) a w' ∧ Below w.heap.size w w' := by
  refine (refRunes_k s hs w).mono ?_
  rintro e w' ⟨v, rfl, h1, hb⟩
  obtain ⟨a, c, rfl⟩ := row_slice h1
  refine ⟨a, c, rfl, fun k hk => ?_, hb⟩
  obtain ⟨M, hM⟩ : ∃ M, (rs s.data.toList).length = M + 1 := ⟨_, (Nat.sub_add_cancel (by omega : 1 ≤ (rs s.data.toList).length)).symm⟩
  obtain ⟨q1, q2, q3⟩ := rsCells_at _ k hk
  rw [hM] at h1
  obtain ⟨g1, c1, e⟩ := ownsRow_succ h1
  cases e
  exact ⟨g1, rfl, rowCell h1 _ _ q1, rowCell h1 _ _ q2, rowCell h1 _ _ q3⟩
theorem rs_le (s : ByteArray) : (rs s.data.toList).length ≤ s.size := by
  have := ru_length_le s.data.toList
  rw [rs_length]
  have h2 : s.data.toList.length = s.size := by rw [Array.length_toList]; rfl
  omega
end Go.Proofs.YtcedpdneanjbkaaGreatDoor

/- The document's letters and names. -/
namespace Go.Proofs.YtcedpdneanjbkaaGreatDoor
open Go.RowKit

/-- The document's letters. -/
def isLet (r : Int) : Bool := (decide (97 ≤ r) && decide (r ≤ 122)) || (decide (65 ≤ r) && decide (r ≤ 90)) || r == 95 || (decide (192 ≤ r) && decide (r ≤ 591) && !(r == 215) && !(r == 247)) || (decide (913 ≤ r) && decide (r ≤ 969) && !(r == 930))
theorem isLet_eq (r : Int) : isLet r = isLetter r := by
  rw [Bool.eq_iff_iff]
  unfold isLet isLetter
  simp [spans, inSpan]
  omega

set_option maxRecDepth 100000 in
set_option maxHeartbeats 2000000 in
theorem refLetter_k (r : Int) (w : World) : Calls Tryz.prog 94 #[.int .i64 r] w fun e w' => e = .returned (.bool (isLet r)) ∧ w = w' := by
  by_cases a1 : 97 ≤ r ∧ r ≤ 122
  · obtain ⟨a1, a2⟩ := a1
    have e : isLet r = true := by simp [isLet, a1, a2]
    rw [e]
    go_enter Tryz.func94, Tryz.ntmps94
    go_wp2
    go_ret
    exact ⟨rfl, rfl⟩
  by_cases a2 : 65 ≤ r ∧ r ≤ 90
  · obtain ⟨b1, b2⟩ := a2
    have e : isLet r = true := by simp [isLet, b1, b2]
    have c1 : ¬ 97 ≤ r := by omega
    rw [e]
    clear a1
    go_enter Tryz.func94, Tryz.ntmps94
    go_wp2
    go_ret
    exact ⟨rfl, rfl⟩
  by_cases a3 : r = 95
  · subst a3
    clear a1 a2
    go_enter Tryz.func94, Tryz.ntmps94
    go_wp2
    go_ret
    exact ⟨rfl, rfl⟩
  have e95 : (r == 95) = false := by simpa using a3
  by_cases a4 : 192 ≤ r ∧ r ≤ 591
  · obtain ⟨b1, b2⟩ := a4
    have e : isLet r = (!(r == 215) && !(r == 247)) := by
      have q1 : decide (r ≤ 122) = false := by simp; omega
      have q2 : decide (r ≤ 90) = false := by simp; omega
      have q3 : decide (913 ≤ r) = false := by simp; omega
      simp [isLet, b1, b2, q1, q2, q3, e95]
    have c1 : 122 < r := by omega
    rw [e]
    clear a1 a2 e
    by_cases d1 : r = 215
    · subst d1
      go_enter Tryz.func94, Tryz.ntmps94
      go_wp2
      go_ret
      exact ⟨rfl, rfl⟩
    · have f1 : (r == 215) = false := by simpa using d1
      go_enter Tryz.func94, Tryz.ntmps94
      go_wp2
      go_ret
      refine ⟨?_, rfl⟩
      simp [f1, bne]
  by_cases a5 : 913 ≤ r ∧ r ≤ 969
  · obtain ⟨b1, b2⟩ := a5
    have e : isLet r = !(r == 930) := by
      have q1 : decide (r ≤ 122) = false := by simp; omega
      have q2 : decide (r ≤ 90) = false := by simp; omega
      have q3 : decide (r ≤ 591) = false := by simp; omega
      simp [isLet, b1, b2, q1, q2, q3, e95]
    have c1 : 591 < r := by omega
    rw [e]
    clear a1 a2 a4 e
    go_enter Tryz.func94, Tryz.ntmps94
    go_wp2
    go_ret
    exact ⟨rfl, rfl⟩
  have e : isLet r = false := by
    have h : ¬ isLet r = true := by
      unfold isLet
      simp
      omega
    simpa using h
  rw [e]
  clear e
  have hc : r < 65 ∨ (90 < r ∧ r < 97) ∨ (122 < r ∧ r < 192) ∨ (591 < r ∧ r < 913) ∨ 969 < r := by omega
  clear a1 a2 a4 a5 a3
  rcases hc with h1 | ⟨h1, h2⟩ | ⟨h1, h2⟩ | ⟨h1, h2⟩ | h1
  all_goals (
    go_enter Tryz.func94, Tryz.ntmps94
    go_wp2
    go_ret
    exact ⟨rfl, rfl⟩)

def isRest (r : Int) : Bool := isLet r || (decide (48 ≤ r) && decide (r ≤ 57)) || r == 39
theorem isRest_eq (r : Int) : isRest r = (isLetter r || mayF r) := by
  unfold isRest mayF
  rw [isLet_eq, Bool.or_assoc]

set_option maxRecDepth 100000 in
theorem refRest_k (r : Int) (w : World) : Calls Tryz.prog 95 #[.int .i64 r] w fun e w' => e = .returned (.bool (isRest r)) ∧ w = w' := by
  have hl := refLetter_k r
  unfold isRest
  cases hb : isLet r
  all_goals rw [hb] at hl
  all_goals clear hb
  · by_cases a1 : 48 ≤ r
    · by_cases a2 : r ≤ 57
      · go_enter Tryz.func95, Tryz.ntmps95
        go_wp2_with (go_at_call 94; refine (hl _).mono ?_; rintro e w1 ⟨rfl, rfl⟩)
        go_ret
        simp [a1, a2]
      · go_enter Tryz.func95, Tryz.ntmps95
        go_wp2_with (go_at_call 94; refine (hl _).mono ?_; rintro e w1 ⟨rfl, rfl⟩)
        go_ret
        refine ⟨?_, rfl⟩
        have e1 : decide (48 ≤ r) = true := by simpa using a1
        rw [e1]
        simp
    · go_enter Tryz.func95, Tryz.ntmps95
      go_wp2_with (go_at_call 94; refine (hl _).mono ?_; rintro e w1 ⟨rfl, rfl⟩)
      go_ret
      refine ⟨?_, rfl⟩
      have e1 : decide (48 ≤ r) = false := by simpa using a1
      rw [e1]
      simp
  · go_enter Tryz.func95, Tryz.ntmps95
    go_wp2_with (go_at_call 94; refine (hl _).mono ?_; rintro e w1 ⟨rfl, rfl⟩)
    go_ret
    simp
end Go.Proofs.YtcedpdneanjbkaaGreatDoor

/- The document's names; the walk of the statement on names. -/
namespace Go.Proofs.YtcedpdneanjbkaaGreatDoor
open Go.RowKit

/-- Is a list of runes a name? -/
def okN : List (Int × Nat × Nat) → Bool
  | [] => false
  | y :: t => decide (t.length + 1 ≤ 32) && isLet y.1 && t.all fun z => isRest z.1
theorem isLetter_raw (r : Int) : isLetter (raw r) = isLetter r := by
  unfold raw
  split
  · rw [Bool.eq_iff_iff]
    unfold isLetter
    simp [spans, inSpan]
    omega
  · rfl
theorem mayF_raw (r : Int) : mayF (raw r) = mayF r := by
  unfold raw
  split
  · rw [Bool.eq_iff_iff]
    unfold mayF
    simp
    omega
  · rfl
theorem okR_rest : ∀ (off : Nat) (t : List (Int × Nat)), okR false t = (rsT off t).all fun z => isRest z.1
  | _, [] => rfl
  | off, (r, k) :: t => by
    rw [okR, rsT, List.all_cons, okR_rest (off + k) t, isRest_eq, isLetter_raw, mayF_raw]
    rfl
theorem name_doc (l : List UInt8) : ((nameE l == 0) = okN (rs l)) ∧ (nameE l = 0 ∨ nameE l = 21) := by
  unfold nameE rs
  by_cases h0 : l = []
  · subst h0
    rw [if_pos (.inl rfl)]
    exact ⟨rfl, .inr rfl⟩
  rw [ru_step l h0, rsT]
  by_cases h1 : 32 < ((rv l, wd l) :: ru (l.drop (wd l))).length
  · rw [if_pos (.inr h1)]
    refine ⟨?_, .inr rfl⟩
    rw [List.length_cons] at h1
    have e : decide ((rsT (0 + wd l) (ru (l.drop (wd l)))).length + 1 ≤ 32) = false := by
      rw [rsT_length]
      simp
      omega
    rw [okN, e]
    rfl
  · rw [if_neg (by rintro (h | h); exact h0 h; exact h1 h)]
    rw [List.length_cons] at h1
    have e : decide ((rsT (0 + wd l) (ru (l.drop (wd l)))).length + 1 ≤ 32) = true := by
      rw [rsT_length]
      simpa using h1
    rw [okN, e, okR, okR_rest (0 + wd l), isLetter_raw, isLet_eq]
    simp only [Bool.not_true, Bool.false_and, Bool.or_false, Bool.true_and]
    cases h : (isLetter (rv l) && (rsT (0 + wd l) (ru (l.drop (wd l)))).all fun z => isRest z.1)
    · exact ⟨rfl, .inr rfl⟩
    · exact ⟨rfl, .inl rfl⟩

set_option maxRecDepth 100000 in
set_option maxHeartbeats 2000000 in
theorem refName_k (s : ByteArray) (hs : s.size ≤ 1048576) (w : World) :
    Calls Tryz.prog 62 #[.string s] w fun e w' => e = .returned (.bool (okN (rs s.data.toList))) ∧ Below w.heap.size w w' := by
  have h := refRunes_cells s hs w
  have hle := rs_le s
  have hlet := refLetter_k
  have hrest := refRest_k
  generalize rs s.data.toList = x at *
  match x, hle, h with
  | [], _, h =>
    go_enter Tryz.func62, Tryz.ntmps62
    go_wp2_with (go_at_call 93; refine h.mono ?_; rintro e w1 ⟨a, c, rfl, _, hb⟩)
    go_ret
    exact ⟨rfl, hb⟩
  | y :: t, hle, h =>
    rw [okN]
    rw [List.length_cons] at h hle
    by_cases h32 : t.length + 1 ≤ 32
    · have e32 : decide (t.length + 1 ≤ 32) = true := by simpa using h32
      have h32' : ¬ (32 : Int) < (t.length : Int) + 1 := by omega
      rw [e32, Bool.true_and]
      cases hl0 : isLet y.1 with
      | false =>
        rw [Bool.false_and]
        have hl1 := hlet y.1
        rw [hl0] at hl1
        clear hl0 hlet hrest e32
        go_enter Tryz.func62, Tryz.ntmps62
        go_wp2_with (first
          | (go_at_call 93; refine h.mono ?_; rintro e w1 ⟨a, c, rfl, hx, hb⟩; obtain ⟨g, rfl, c0, _, _⟩ := hx 0 (by simp); simp only [List.getElem_cons_zero, Nat.zero_mul] at c0; clear hx)
          | (go_at_call 94; refine (hl1 _).mono ?_; rintro e w2 ⟨rfl, rfl⟩))
        go_ret
        exact ⟨rfl, hb⟩
      | true =>
        rw [Bool.true_and]
        have hl1 := hlet y.1
        rw [hl0] at hl1
        clear hl0 hlet e32
        go_enter Tryz.func62, Tryz.ntmps62
        go_wp2_with (first
          | (go_at_call 93; refine h.mono ?_; rintro e w1 ⟨a, c, rfl, hx, hb⟩; obtain ⟨g, rfl, c0, _, _⟩ := hx 0 (by simp); simp only [List.getElem_cons_zero, Nat.zero_mul] at c0; have HX := hide hx; clear hx)
          | (go_at_call 94; refine (hl1 _).mono ?_; rintro e w2 ⟨rfl, rfl⟩))
        clear c0 hl1 h
        go_loopw [4] (fun vi wr => ∃ i : Nat, vi = .int .i64 (i : Int) ∧ 1 ≤ i ∧ i ≤ t.length + 1 ∧ (t.all fun z => isRest z.1) = (((y :: t).drop i).all fun z => isRest z.1) ∧ wr = w1) (fun v _ => t.length + 1 - (Lib.intOf v).toNat)
        case atStart => exact ⟨1, rfl, Nat.le_refl _, by omega, rfl, rfl⟩
        case round =>
          obtain ⟨i, rfl, hi1, hi2, hall, rfl⟩ := hrel
          by_cases hlt : i < t.length + 1
          · obtain ⟨g', e, c0, _, _⟩ := HX.out i (by simpa using hlt)
            cases e
            rw [List.drop_eq_getElem_cons (by simpa using hlt), List.all_cons] at hall
            generalize (y :: t)[i] = z at *
            have hr1 := hrest z.1
            cases hz : isRest z.1 with
            | false =>
              rw [hz] at hr1 hall
              rw [Bool.false_and] at hall
              have HALL := hide hall
              clear hrest hz HX hall
              go_wp2_with (go_at_call 95; refine (hr1 _).mono ?_; rintro e w3 ⟨rfl, rfl⟩)
              go_ret
              rw [HALL.out]
              exact ⟨rfl, hb⟩
            | true =>
              rw [hz] at hr1 hall
              rw [Bool.true_and] at hall
              have HALL := hide hall
              clear hrest hz HX hall
              go_wp2_with (go_at_call 95; refine (hr1 _).mono ?_; rintro e w3 ⟨rfl, rfl⟩)
              go_roundw
              case rel => exact ⟨i + 1, by simp, by omega, by omega, HALL.out, trivial⟩
              case measure =>
                simp [Lib.intOf]
                omega
          · have hie : i = t.length + 1 := by omega
            rw [hie, List.drop_of_length_le (by simp)] at hall
            have HALL := hide hall
            clear hrest HX hall
            go_wp2
            go_ret
            rw [HALL.out]
            exact ⟨rfl, hb⟩
    · have e32 : decide (t.length + 1 ≤ 32) = false := by simpa using h32
      have h32' : (32 : Int) < (t.length : Int) + 1 := by omega
      rw [e32, Bool.false_and, Bool.false_and]
      clear hlet hrest e32
      go_enter Tryz.func62, Tryz.ntmps62
      go_wp2_with (go_at_call 93; refine h.mono ?_; rintro e w1 ⟨a, c, rfl, _, hb⟩)
      go_ret
      exact ⟨rfl, hb⟩

end Go.Proofs.YtcedpdneanjbkaaGreatDoor
