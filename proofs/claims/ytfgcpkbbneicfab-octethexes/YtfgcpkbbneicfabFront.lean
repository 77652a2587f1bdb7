/- What front answers of bytes: the plain reading of a uvarint; memory stays as it was. -/
import Derived.Test.YtfgcpkbbneicfabCrc
namespace Go.Proofs.Ytfgcpkbbneicfab
open Go.RowKit

/-- The uvarint ahead: its number, how many bytes it has, the error. i bytes are read, they say v. -/
def frontGo : Nat → Nat → List UInt8 → Nat × Nat × Nat
  | _, _, [] => (0, 0, 10)
  | i, v, c :: r =>
    if i = 9 ∧ c.toNat ≠ 1 then (0, 0, 12)
    else if 128 ≤ c.toNat then frontGo (i + 1) (v + c.toNat % 128 * 2 ^ (7 * i)) r
    else if c.toNat = 0 ∧ 0 < i then (0, 0, 12)
    else (v + c.toNat % 128 * 2 ^ (7 * i), i + 1, 0)

def front (l : List UInt8) : Nat × Nat × Nat := frontGo 0 0 l

theorem acc_lt (acc n k : Nat) (hacc : acc < 2 ^ (7 * k)) : acc + n % 128 * 2 ^ (7 * k) < 2 ^ (7 * (k + 1)) := by
  have e : (2 : Nat) ^ (7 * (k + 1)) = 128 * 2 ^ (7 * k) := by
    rw [show 7 * (k + 1) = 7 + 7 * k by omega, Nat.pow_add]
  have h : n % 128 * 2 ^ (7 * k) ≤ 127 * 2 ^ (7 * k) := Nat.mul_le_mul_right _ (by omega)
  omega

/-- What the code's step of bits reckons. -/
def acc_walk_claim (acc n k : Nat) : Prop :=
    bits .or .u64 (acc : Int) (IntKind.u64.wrap (IntKind.u64.wrap (bits .andNot .u8 (n : Int) 128) * 2 ^ (7 * k))) = ((acc + n % 128 * 2 ^ (7 * k) : Nat) : Int)

theorem acc_walk (acc n k : Nat) (hk : k ≤ 9) (hacc : acc < 2 ^ (7 * k)) (hn : n < 256) (h9 : k = 9 → n = 1) :
    acc_walk_claim acc n k := by
  unfold acc_walk_claim
  have h1 : bits .andNot .u8 (n : Int) 128 = ((n % 128 : Nat) : Int) := by
    have := u8_andNot_nat n 128 hn (by decide)
    rw [show 255 - 128 = 127 from rfl, nat_mask7] at this
    exact this
  have hlt : n % 128 * 2 ^ (7 * k) < 2 ^ 64 := by
    by_cases h : k = 9
    · subst h
      rw [h9 rfl]
      decide
    · have : 2 ^ (7 * k) ≤ 2 ^ 56 := Nat.pow_le_pow_right (by decide) (by omega)
      have h2 : n % 128 * 2 ^ (7 * k) ≤ 127 * 2 ^ 56 := Nat.mul_le_mul (by omega) this
      exact Nat.lt_of_le_of_lt h2 (by decide)
  have hacc' : acc < 2 ^ 64 := Nat.lt_of_lt_of_le hacc (Nat.pow_le_pow_right (by decide) (by omega))
  have h2 : IntKind.u64.wrap ((n % 128 : Nat) : Int) = ((n % 128 : Nat) : Int) := by
    rw [IntKind.wrap_u64]; omega
  have h3 : IntKind.u64.wrap (((n % 128 : Nat) : Int) * 2 ^ (7 * k)) = ((n % 128 * 2 ^ (7 * k) : Nat) : Int) := by
    rw [IntKind.wrap_u64]
    have e : (((n % 128 : Nat) : Int) * 2 ^ (7 * k)) = ((n % 128 * 2 ^ (7 * k) : Nat) : Int) := by
      rw [Int.natCast_mul, Int.natCast_pow]; rfl
    rw [e]
    have : (n % 128 * 2 ^ (7 * k)) < 18446744073709551616 := hlt
    generalize n % 128 * 2 ^ (7 * k) = y at this ⊢
    omega
  rw [h1, h2, h3, u64_or_nat _ _ hacc' hlt, Nat.or_comm, nat_join (7 * k) _ _ (Nat.mul_mod_left _ _) hacc, Nat.add_comm]

theorem ret_three {k1 k2 k3 : IntKind} {a b c a' b' c' : Int} (h1 : a = a') (h2 : b = b') (h3 : c = c') :
    Ending.returned (.tuple #[.int k1 a, .int k2 b, .int k3 c]) = .returned (.tuple #[.int k1 a', .int k2 b', .int k3 c']) := by rw [h1, h2, h3]

set_option maxRecDepth 100000 in
set_option maxHeartbeats 1000000 in
theorem front_some (b off c : Nat) (l : List UInt8) (w : World) (hl : l.length ≤ maxLen)
    (hc : ∀ j (h : j < l.length), w.cell? ⟨b, off + j, none⟩ = some (.int .u8 (l[j].toNat : Int))) :
    Calls Try.prog 24 #[.slice (some ⟨b, off, none⟩) l.length c] w fun e w' =>
      e = .returned (.tuple #[.int .u64 (front l).1, .int .i64 (front l).2.1, .int .i64 (front l).2.2]) ∧ w' = w := by
  unfold maxLen at hl
  go_enter Try.func24, Try.ntmps24
  go_wp2
  go_loop [5, 10] (fun t i => ∃ k acc : Nat, k ≤ l.length ∧ k ≤ 9 ∧ acc < 2 ^ (7 * k) ∧ i = .int .i64 k ∧ t = .int .u64 acc ∧ frontGo k acc (l.drop k) = front l) (fun _ i => l.length - (intOf i).toNat)
  case atStart => exact ⟨0, 0, Nat.zero_le _, by omega, by decide, rfl, rfl, rfl⟩
  case round =>
    obtain ⟨k, acc, hk, hk9, hacc, rfl, rfl, hfr⟩ := hrel
    by_cases hlt : k < l.length
    · have hcell := hc k hlt
      clear hc
      rw [List.drop_eq_getElem_cons hlt, frontGo] at hfr
      generalize l[k] = x at hcell hfr
      have hx : x.toNat < 256 := x.toNat_lt
      have HA : Hid (acc < 2 ^ (7 * k)) := hacc
      clear hacc
      generalize x.toNat = n at hcell hx hfr
      by_cases h9 : k = 9
      · by_cases h1 : n = 1
        · have HW := acc_walk acc n k hk9 HA.out hx (fun _ => h1)
          rw [if_neg (by omega), if_neg (by omega), if_neg (by omega)] at hfr
          have HF : Hid (acc_walk_claim acc n k ∧ (acc + n % 128 * 2 ^ (7 * k), k + 1, 0) = front l) := ⟨HW, hfr⟩
          clear hfr HW
          subst h9
          subst h1
          go_wp2
          go_ret3
          exact ⟨ret_three (by rw [← HF.out.2]; exact HF.out.1) (by rw [← HF.out.2]; rfl) (by rw [← HF.out.2]; rfl), rfl⟩
        · rw [if_pos ⟨h9, h1⟩] at hfr
          have HF : Hid ((0, 0, 12) = front l) := hfr
          clear hfr
          subst h9
          go_wp2
          go_ret3
          exact ⟨ret_three (by rw [← HF.out]; rfl) (by rw [← HF.out]; rfl) (by rw [← HF.out]; rfl), rfl⟩
      · have HW := acc_walk acc n k hk9 HA.out hx (fun e => absurd e h9)
        rw [if_neg (fun h => h9 h.1)] at hfr
        by_cases h128 : 128 ≤ n
        · rw [if_pos h128] at hfr
          have HF : Hid (acc_walk_claim acc n k ∧ frontGo (k + 1) (acc + n % 128 * 2 ^ (7 * k)) (List.drop (k + 1) l) = front l) := ⟨HW, hfr⟩
          clear hfr HW
          go_wp2
          go_round
          case rel => exact ⟨k + 1, _, by omega, by omega, acc_lt _ n _ HA.out, by go_num, congrArg (Value.int .u64) HF.out.1, HF.out.2⟩
          case measure => simp [intOf]; omega
        · rw [if_neg h128] at hfr
          by_cases h0 : n = 0 ∧ 0 < k
          · rw [if_pos h0] at hfr
            obtain ⟨h0, h0'⟩ := h0
            have HF : Hid ((0, 0, 12) = front l) := hfr
            clear hfr HW
            subst h0
            go_wp2
            go_ret3
            exact ⟨ret_three (by rw [← HF.out]; rfl) (by rw [← HF.out]; rfl) (by rw [← HF.out]; rfl), rfl⟩
          · rw [if_neg h0] at hfr
            have HF : Hid (acc_walk_claim acc n k ∧ (acc + n % 128 * 2 ^ (7 * k), k + 1, 0) = front l) := ⟨HW, hfr⟩
            clear hfr HW
            by_cases hn0 : n = 0
            · have hk0 : k < 1 := by omega
              have hn1 : n < 1 := by omega
              clear h0 hn0
              go_wp2
              go_ret3
              exact ⟨ret_three (by rw [← HF.out.2]; have h := HF.out.1; rw [show n = 0 by omega] at h ⊢; exact h) (by rw [← HF.out.2]; rfl) (by rw [← HF.out.2]; rfl), rfl⟩
            · have hn1 : 0 < n := by omega
              clear h0 hn0
              go_wp2
              go_ret3
              exact ⟨ret_three (by rw [← HF.out.2]; exact HF.out.1) (by rw [← HF.out.2]; rfl) (by rw [← HF.out.2]; rfl), rfl⟩
    · have : k = l.length := by omega
      subst this
      rw [List.drop_length, frontGo] at hfr
      have HF : Hid ((0, 0, 10) = front l) := hfr
      clear hfr hc hacc
      go_wp2
      go_ret3
      exact ⟨ret_three (by rw [← HF.out]; rfl) (by rw [← HF.out]; rfl) (by rw [← HF.out]; rfl), rfl⟩

set_option maxRecDepth 100000 in
theorem front_none (a : Option Addr) (c : Nat) (w : World) :
    Calls Try.prog 24 #[.slice a 0 c] w fun e w' =>
      e = .returned (.tuple #[.int .u64 0, .int .i64 0, .int .i64 10]) ∧ w' = w := by
  go_enter Try.func24, Try.ntmps24
  go_wp2
  go_loop [5, 10] (fun t i => i = .int .i64 0 ∧ t = .int .u64 0) (fun _ i => 0)
  case atStart => exact ⟨rfl, rfl⟩
  case round =>
    obtain ⟨rfl, rfl⟩ := hrel
    go_wp2
    go_ret3
    exact ⟨rfl, rfl⟩

theorem front_any (v : Value) (l : List UInt8) (w : World) (hl : l.length ≤ maxLen) (hb : Bytes w v l) :
    Calls Try.prog 24 #[v] w fun e w' =>
      e = .returned (.tuple #[.int .u64 (front l).1, .int .i64 (front l).2.1, .int .i64 (front l).2.2]) ∧ w' = w := by
  rcases hb.elim with ⟨rfl, a, c, rfl⟩ | ⟨_, b, off, c, rfl, hc⟩
  · exact front_none a c w
  · exact front_some b off c l w hl hc
end Go.Proofs.Ytfgcpkbbneicfab
