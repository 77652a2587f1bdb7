/- The reference's Decode: its numbers. -/
import Derived.Test.YtjbpodkhgdaopaaGreatDoorZRefReader
import Derived.Test.YtjbpodkhgdaopaaGreatDoorGHead
namespace Go.Proofs.YtjbpodkhgdaopaaGreatDoor
open Go.RowKit

/-- Where the reference's take goes on; -1: nowhere. -/
def tkI (r : List UInt8) (i : Nat) : Int := if (front r).2.2 = 0 then ((i + (front r).2.1 : Nat) : Int) else -1
theorem tkI_yes {r : List UInt8} {i v u : Nat} (h : (v, u, 0) = front r) : (front r).1 = v ∧ tkI r i = ((i + u : Nat) : Int) := by
  unfold tkI
  rw [← h]
  exact ⟨rfl, rfl⟩
theorem tkI_no {r : List UInt8} {i e : Nat} (h : (0, 0, e) = front r) (he : e ≠ 0) : (front r).1 = 0 ∧ tkI r i = -1 := by
  unfold tkI
  rw [← h]
  exact ⟨rfl, if_neg he⟩
theorem and127 (n : Nat) (h : n < 256) : bits .and .u64 (n : Int) 127 = (n : Int) % 128 := by
  have h1 : bits .and .u64 (n : Int) ((127 : Nat) : Int) = ((n &&& 127 : Nat) : Int) := u64_and_nat n 127 (by omega) (by omega)
  rw [nat_mask7] at h1
  rw [show (127 : Int) = ((127 : Nat) : Int) from rfl, h1]
  omega
set_option maxRecDepth 100000 in
set_option maxHeartbeats 4000000 in
theorem take4_k (w : World) (B : Nat) (a : Option Addr) (c : Nat) (l : List UInt8) (at_ : Nat) (hB : BytesIn w 0 B (.slice a l.length c) l) (hi : at_ ≤ l.length) (hl : l.length ≤ 1000000000000) :
    Calls Tryz.prog 36 #[.slice a l.length c, .int .i64 at_] w fun e w' => e = .returned (.tuple #[.int .u64 (front (l.drop at_)).1, .int .i64 (tkI (l.drop at_) at_)]) ∧ w' = w := by
  have hel := hB.plain.elim
  clear hB
  go_enter Tryz.func36, Tryz.ntmps36
  go_wp2
  go_loopw [6, 7, 8] (fun t i _ wr => ∃ k acc : Nat, wr = w ∧ k ≤ (l.drop at_).length ∧ k ≤ 9 ∧ acc < 2 ^ (7 * k) ∧ i = .int .i64 k ∧ t = .int .u64 acc ∧ frontGo k acc ((l.drop at_).drop k) = front (l.drop at_)) (fun _ i _ _ => (l.drop at_).length - (intOf i).toNat)
  case atStart => exact ⟨0, 0, rfl, Nat.zero_le _, by omega, by decide, rfl, rfl, rfl⟩
  case round =>
    obtain ⟨k, acc, rfl, hk, hk9, hacc, rfl, rfl, hfr⟩ := hrel
    have hdl : (l.drop at_).length = l.length - at_ := List.length_drop
    by_cases hlt : k < (l.drop at_).length
    · have hcell : ∃ b off, a = some ⟨b, off, none⟩ ∧ wr.cell? ⟨b, off + (at_ + k), none⟩ = some (.int .u8 ((l.drop at_)[k].toNat : Int)) := by
        rcases hel with ⟨e, _⟩ | ⟨_, b, off, c', e, h7⟩
        · rw [e] at hlt; simp at hlt
        · simp only [Value.slice.injEq] at e
          exact ⟨b, off, e.1, getElem_drop_cell h7 k hlt⟩
      obtain ⟨b, off, rfl, hcell⟩ := hcell
      rw [List.drop_eq_getElem_cons hlt, frontGo] at hfr
      generalize (l.drop at_)[k] = x at hcell hfr
      have hx : x.toNat < 256 := x.toNat_lt
      have HA : Hid (acc < 2 ^ (7 * k)) := hacc
      have hkL : at_ + k < l.length := by omega
      clear hacc hel hdl
      generalize x.toNat = n at hcell hx hfr
      have hand := and127 n hx
      have HFR := hide hfr
      clear hfr
      have d1 : (at_ : Int) + (k : Int) < (l.length : Int) := by omega
      have d2 : (0 : Int) ≤ (at_ : Int) + (k : Int) := by omega
      by_cases h9 : k = 9
      · by_cases h1' : n = 1
        · have HW := hide (acc_ref acc n k hk9 HA.out hx (fun _ => h1'))
          have HF : Hid ((acc + n % 128 * 2 ^ (7 * k), k + 1, 0) = front (l.drop at_)) := by
            have hfr := HFR.out
            rw [if_neg (by omega), if_neg (by omega), if_neg (by omega)] at hfr
            exact hfr
          clear HFR
          have HE := hide (tkI_yes (i := at_) HF.out)
          clear HF
          subst h9
          subst h1'
          go_wp2
          go_ret2
          exact ⟨by rw [HE.out.1, HE.out.2]; exact ret_two (acc_ref_last acc HW.out) (by omega), rfl⟩
        · have HF : Hid ((0, 0, 12) = front (l.drop at_)) := by
            have hfr := HFR.out
            rw [if_pos ⟨h9, h1'⟩] at hfr
            exact hfr
          clear HFR
          have HE := hide (tkI_no (i := at_) HF.out (by decide))
          clear HF
          subst h9
          by_cases h0 : n = 0
          · subst h0
            go_wp2
            go_ret2
            exact ⟨by rw [HE.out.1, HE.out.2]; rfl, rfl⟩
          · have h2 : (1 : Int) < (n : Int) := by omega
            go_wp2
            go_ret2
            exact ⟨by rw [HE.out.1, HE.out.2]; rfl, rfl⟩
      · have HW := hide (acc_ref acc n k hk9 HA.out hx (fun e => absurd e h9))
        by_cases h128 : 128 ≤ n
        · have HF : Hid (frontGo (k + 1) (acc + n % 128 * 2 ^ (7 * k)) (List.drop (k + 1) (l.drop at_)) = front (l.drop at_)) := by
            have hfr := HFR.out
            rw [if_neg (fun h => h9 h.1), if_pos h128] at hfr
            exact hfr
          clear HFR
          go_wp2
          go_roundw
          case rel => exact ⟨k + 1, _, by trivial, by omega, by omega, acc_lt _ n _ HA.out, by go_num, congrArg (Value.int .u64) HW.out, HF.out⟩
          case measure => simp [intOf]; omega
        · by_cases h0' : n = 0 ∧ 0 < k
          · have HF : Hid ((0, 0, 12) = front (l.drop at_)) := by
              have hfr := HFR.out
              rw [if_neg (fun h => h9 h.1), if_neg h128, if_pos h0'] at hfr
              exact hfr
            obtain ⟨h0a, h0b⟩ := h0'
            have HE := hide (tkI_no (i := at_) HF.out (by decide))
            clear HFR HW HF
            subst h0a
            go_wp2
            go_ret2
            exact ⟨by rw [HE.out.1, HE.out.2]; rfl, rfl⟩
          · have HF : Hid ((acc + n % 128 * 2 ^ (7 * k), k + 1, 0) = front (l.drop at_)) := by
              have hfr := HFR.out
              rw [if_neg (fun h => h9 h.1), if_neg h128, if_neg h0'] at hfr
              exact hfr
            have HE := hide (tkI_yes (i := at_) HF.out)
            clear HFR HF
            by_cases hn0 : n = 0
            · have hk0 : k < 1 := by omega
              have hn1 : n < 1 := by omega
              clear h0' hn0
              go_wp2
              go_ret2
              exact ⟨by rw [HE.out.1, HE.out.2]; exact ret_two (by first | exact acc_ref_zero acc n k (by omega) HW.out | exact HW.out) (by omega), rfl⟩
            · have hn1 : 0 < n := by omega
              clear h0' hn0
              go_wp2
              all_goals
                go_ret2
                exact ⟨by rw [HE.out.1, HE.out.2]; exact ret_two HW.out (by omega), rfl⟩
    · have he : k = (l.drop at_).length := by omega
      have HF : Hid ((0, 0, 10) = front (l.drop at_)) := by
        have hfr := hfr
        rw [List.drop_of_length_le (by omega), frontGo] at hfr
        exact hfr
      have HE := hide (tkI_no (i := at_) HF.out (by decide))
      have d1 : ¬ ((at_ : Int) + (k : Int) < (l.length : Int)) := by omega
      clear hel hfr HF hacc hlt he
      go_wp2
      go_ret2
      exact ⟨by rw [HE.out.1, HE.out.2]; rfl, rfl⟩
theorem unz_odd4 (u : Nat) (h : u % 2 = 1) : -((u / 2 : Nat) : Int) - 1 = unz u := by unfold unz; rw [if_neg (by omega)]
theorem unz_even4 (u : Nat) (h : u % 2 = 0) : ((u / 2 : Nat) : Int) = unz u := by unfold unz; rw [if_pos h]
set_option maxRecDepth 100000 in
theorem unzig_k (u : Nat) (hu : u < 18446744073709551616) (w : World) : Calls Tryz.prog 37 #[.int .u64 u] w fun e w' => e = .returned (.int .i64 (unz u)) ∧ w' = w := by
  have hd : IntKind.i64.wrap (((u / 2 : Nat) : Int)) = ((u / 2 : Nat) : Int) := by rw [IntKind.wrap_i64]; omega
  have hdu : (u : Int) / 2 = ((u / 2 : Nat) : Int) := by omega
  by_cases h : u % 2 = 1
  · have hm : (u : Int) % 2 = 1 := by omega
    have HZ := hide (unz_odd4 u h)
    generalize u / 2 = q at *
    go_enter Tryz.func37, Tryz.ntmps37
    go_wp2
    go_ret
    exact ⟨by rw [← HZ.out]; first | rfl | (congr 2; omega), rfl⟩
  · have hm : (u : Int) % 2 = 0 := by omega
    have HZ := hide (unz_even4 u (by omega))
    generalize u / 2 = q at *
    go_enter Tryz.func37, Tryz.ntmps37
    go_wp2
    go_ret
    exact ⟨by rw [← HZ.out]; rfl, rfl⟩
end Go.Proofs.YtjbpodkhgdaopaaGreatDoor
