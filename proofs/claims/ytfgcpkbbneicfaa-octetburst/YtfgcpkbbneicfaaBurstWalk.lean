/- OctetBurst answers true of every row of bytes, every bit and every mask. -/
import Derived.Test.YtfgcpkbbneicfaaBurstMath
import Derived.Test.YtfgcpkbbneicfaaBackWalk
import Derived.Test.YtfgcpkbbneicfaaOwn
namespace Go.Proofs.Ytfgcpkbbneicfaa
open Go.RowKit

theorem pow_bit (r i : Nat) (hr : r < 8) : (UInt8.ofNat (2 ^ r)).toBitVec.getLsbD i = decide (i = r) := by
  by_cases hi : i < 8
  · have : ∀ r i : Fin 8, (UInt8.ofNat (2 ^ r.val)).toBitVec.getLsbD i.val = decide (i.val = r.val) := by decide +kernel
    exact this ⟨r, hr⟩ ⟨i, hi⟩
  · rw [BitVec.getLsbD_of_ge _ _ (by omega)]
    simp
    omega

/-- Bit P turned. -/
def flip (l : List UInt8) (P : Nat) : List UInt8 := l.set (P / 8) (l.getD (P / 8) 0 ^^^ UInt8.ofNat (2 ^ (P % 8)))

theorem flip_length (l : List UInt8) (P : Nat) : (flip l P).length = l.length := by simp [flip]

theorem bt_flip (l : List UInt8) (P j : Nat) (hP : P < 8 * l.length) : bt (flip l P) j = (bt l j ^^ decide (j = P)) := by
  have hq : P / 8 < l.length := by omega
  unfold bt flip
  by_cases h : j / 8 = P / 8
  · have e : (l.set (P / 8) (l.getD (P / 8) 0 ^^^ UInt8.ofNat (2 ^ (P % 8)))).getD (j / 8) 0 = l.getD (P / 8) 0 ^^^ UInt8.ofNat (2 ^ (P % 8)) := by
      rw [h]
      simp [List.getD, hq]
    rw [e, UInt8.toBitVec_xor, BitVec.getLsbD_xor, pow_bit _ _ (by omega), h]
    have : (j % 8 = P % 8) ↔ j = P := by omega
    simp [this]
  · have e : (l.set (P / 8) (l.getD (P / 8) 0 ^^^ UInt8.ofNat (2 ^ (P % 8)))).getD (j / 8) 0 = l.getD (j / 8) 0 := by
      simp [List.getD, List.getElem?_set_ne (Ne.symm h)]
    rw [e]
    have : ¬ j = P := by omega
    simp [this]

theorem xor_pow (x : UInt8) (r : Nat) (hr : r < 8) : bits .xor .u8 (x.toNat : Int) (2 ^ r % 256) = (((x ^^^ UInt8.ofNat (2 ^ r)).toNat : Nat) : Int) := by
  have hp : 2 ^ r ≤ 2 ^ 7 := Nat.pow_le_pow_right (by decide) (by omega)
  have h := u8_xor_nat x.toNat (2 ^ r) x.toNat_lt (by omega)
  have e : ((2 ^ r : Nat) : Int) = 2 ^ r % 256 := by
    have e1 : ((2 ^ r : Nat) : Int) = 2 ^ r := by rw [Int.natCast_pow]; rfl
    rw [← e1]
    clear e1 h
    generalize 2 ^ r = y at hp ⊢
    omega
  rw [e] at h
  rw [h, UInt8.toNat_xor, UInt8.toNat_ofNat', Nat.mod_eq_of_lt (by omega)]

/-- What stands when k bits of the mask are gone through. -/
structure Turned (w wr : World) (g cap : Nat) (l lk : List UInt8) (p k : Nat) (b : Nat → Bool) (t : Bool) : Prop where
  len : lk.length = l.length
  own : wr.ownsRow w.heap.size 5 1 (.slice (some ⟨g, 0, none⟩) (l.length + 4) cap) (l.length + 4) (cellsOf (lk ++ le4 (crc l).toNat))
  bel : Below w.heap.size w wr
  bits : ∀ j, j < 8 * l.length → (bt l j ^^ bt lk j) = (decide (p ≤ j ∧ j < p + k) && b (j - p))
  told : t = true ↔ ∃ i, i < k ∧ p + i < 8 * l.length ∧ b i = true

theorem Turned.skip {w wr : World} {g cap : Nat} {l lk : List UInt8} {p k : Nat} {b : Nat → Bool} {t : Bool} (h : Turned w wr g cap l lk p k b t) (hb : p + k < 8 * l.length → b k = false) : Turned w wr g cap l lk p (k + 1) b t := by
  refine ⟨h.len, h.own, h.bel, fun j hj => ?_, ?_⟩
  · rw [h.bits j hj]
    by_cases e : j = p + k
    · subst e
      have h1 := hb hj
      have h2 : p + k - p = k := by omega
      rw [h2, h1]
      simp
    · have : (p ≤ j ∧ j < p + (k + 1)) ↔ (p ≤ j ∧ j < p + k) := by omega
      simp [this]
  · rw [h.told]
    constructor
    · rintro ⟨i, h1, h2, h3⟩; exact ⟨i, by omega, h2, h3⟩
    · rintro ⟨i, h1, h2, h3⟩
      refine ⟨i, ?_, h2, h3⟩
      rcases Nat.lt_or_ge i k with h4 | h4
      · exact h4
      · have : i = k := by omega
        subst this
        rw [hb h2] at h3
        cases h3

theorem cellsOf_set (l : List UInt8) (q : Nat) (c : UInt8) : (cellsOf l).set q (.int .u8 (c.toNat : Int)) = cellsOf (l.set q c) := by
  unfold cellsOf
  rw [List.map_set]

theorem Turned.turn {w wr : World} {g cap : Nat} {l lk : List UInt8} {p k : Nat} {b : Nat → Bool} {t : Bool} (h : Turned w wr g cap l lk p k b t) (hb : b k = true) (hin : p + k < 8 * l.length) :
    Turned w (wr.setCell ⟨g, (p + k) / 8, none⟩ (.int .u8 ((lk.getD ((p + k) / 8) 0 ^^^ UInt8.ofNat (2 ^ ((p + k) % 8))).toNat : Int))) g cap l (flip lk (p + k)) p (k + 1) b true := by
  have hlen := h.len
  have hq : (p + k) / 8 < lk.length := by omega
  have hg := (h.own.lt g rfl).1
  refine ⟨by rw [flip_length, h.len], ?_, h.bel.setCell hg _, fun j hj => ?_, ?_⟩
  · have hs := ownsRow_set h.own ((p + k) / 8) (.int .u8 ((lk.getD ((p + k) / 8) 0 ^^^ UInt8.ofNat (2 ^ ((p + k) % 8))).toNat : Int))
    rw [cellsOf_set, List.set_append_left _ _ hq] at hs
    exact hs
  · rw [bt_flip lk (p + k) j (by omega), ← Bool.xor_assoc, h.bits j hj]
    by_cases e : j = p + k
    · subst e
      have h2 : p + k - p = k := by omega
      rw [h2, hb]
      simp
    · have : (p ≤ j ∧ j < p + (k + 1)) ↔ (p ≤ j ∧ j < p + k) := by omega
      simp [this, e]
  · simp only [true_iff]
    exact ⟨k, by omega, hin, hb⟩

theorem turned_err {w wr : World} {g cap : Nat} {l lk : List UInt8} {p : Nat} {b : Nat → Bool} {t : Bool} (h : Turned w wr g cap l lk p 32 b t) (hp : p < 8 * l.length) :
    openErr (lk ++ le4 (crc l).toNat) = if t = true then 13 else 0 := by
  have h4 : (le4 (crc l).toNat).length = 4 := rfl
  have hl : (lk ++ le4 (crc l).toNat).length - 4 = lk.length := by rw [List.length_append, h4]; omega
  have hbu := burst l lk h.len.symm p b hp h.bits
  have ht : t = true ↔ ¬ (crc l = crc lk) := by
    rw [h.told, hbu]
    constructor
    · rintro ⟨i, h1, h2, h3⟩ hh
      rw [hh i h1 h2] at h3
      cases h3
    · intro hh
      refine Classical.byContradiction fun hn => hh fun i h1 h2 => ?_
      cases hb : b i with
      | false => rfl
      | true => exact absurd ⟨i, h1, h2, hb⟩ hn
  have heq : (le4 (crc l).toNat == le4 (crc lk).toNat) = true ↔ crc l = crc lk := by
    rw [beq_iff_eq]
    constructor
    · intro h
      exact BitVec.eq_of_toNat_eq (le4_inj _ _ (crc l).isLt (crc lk).isLt h)
    · intro h
      rw [h]
  unfold openErr
  rw [if_neg (by rw [List.length_append, h4]; omega), hl, List.drop_left, List.take_left]
  by_cases hc : crc l = crc lk
  · rw [if_pos (heq.2 hc), if_neg (fun h => ht.1 h hc)]
  · rw [if_neg (fun h => hc (heq.1 h)), if_pos (ht.2 hc)]

theorem seal_some (w : World) (a : Option Addr) (c : Nat) (l : List UInt8) (hb : Bytes w (.slice a l.length c) l) (hl : l.length ≤ 140737488355324) (p : Nat) (b : Nat → Bool) :
    Calls Try.prog 32 #[.slice a l.length c] w fun e w' => ∃ g cap, e = .returned (.slice (some ⟨g, 0, none⟩) (l.length + 4) cap) ∧ Turned w w' g cap l l p 0 b false := by
  refine (seal_any w a c l hb hl).mono ?_
  rintro e w' ⟨v, rfl, h1, h2⟩
  have hn : (sealed l).length = l.length + 4 := by unfold sealed; rw [List.length_append]; rfl
  rw [hn] at h1
  rcases id h1.2 with ⟨_, h0⟩ | ⟨g, cap, cur, rfl, _⟩
  · omega
  · exact ⟨g, cap, rfl, rfl, h1, h2, fun j _ => by
      have : ¬ (p ≤ j ∧ j < p + 0) := by omega
      rw [decide_eq_false this]
      simp, by simp⟩

/-- Bit i of the mask. -/
def mb (mask : Nat) (i : Nat) : Bool := decide (mask / 2 ^ i % 2 = 1)

theorem mb_walk (mask k : Nat) (hm : mask < 4294967296) : (bits .and .u32 ((mask : Int) / 2 ^ k) 1 == 1) = mb mask k := by
  have e : ((mask : Int) / 2 ^ k) = ((mask / 2 ^ k : Nat) : Int) := by
    rw [Int.natCast_ediv, Int.natCast_pow]
    rfl
  have hlt : mask / 2 ^ k < 4294967296 := Nat.lt_of_le_of_lt (Nat.div_le_self _ _) hm
  have h := u32_and_nat (mask / 2 ^ k) 1 hlt (by decide)
  rw [nat_mask1] at h
  have e1 : ((1 : Nat) : Int) = 1 := rfl
  rw [e1] at h
  rw [e, h]
  unfold mb
  rcases Nat.mod_two_eq_zero_or_one (mask / 2 ^ k) with h2 | h2 <;> rw [h2] <;> rfl

theorem open_turned {w wr : World} {g cap : Nat} {l lk : List UInt8} {p : Nat} {b : Nat → Bool} {t : Bool} (h : Turned w wr g cap l lk p 32 b t) (hp : p < 8 * l.length) (hl : l.length ≤ 140737488351232) :
    Calls Try.prog 31 #[.slice (some ⟨g, 0, none⟩) (l.length + 4) cap] wr fun e w' => ∃ a' n' c', e = .returned (.tuple #[.slice a' n' c', .int .i64 (if t = true then 13 else 0)]) ∧ Below w.heap.size w w' := by
  have h4 : (lk ++ le4 (crc l).toNat).length = l.length + 4 := by rw [List.length_append, h.len]; rfl
  have hb := (ownsRow_bytes h.own).2.mono (w' := wr) (lo' := 0) (hi' := wr.heap.size) (fun _ _ _ _ => rfl) (Nat.zero_le _) (Nat.le_refl _)
  have ho := open_any wr (some ⟨g, 0, none⟩) cap (lk ++ le4 (crc l).toNat) (by rw [h4]; exact hb) (by rw [h4]; omega)
  rw [turned_err h hp, h4] at ho
  refine ho.mono ?_
  rintro e w' ⟨a', c', rfl, _, h2⟩
  refine ⟨a', (openData (lk ++ le4 (crc l).toNat)).length, c', ?_, h.bel.trans (h2.mono h.bel.size)⟩
  by_cases ht : t = true
  · rw [if_pos ht, if_pos ht]; rfl
  · rw [if_neg ht, if_neg ht]; rfl

set_option maxRecDepth 100000 in
set_option maxHeartbeats 4000000 in
theorem burst_walk (a : Option Addr) (c : Nat) (l : List UInt8) (bit mask : Nat) (w : World) (hb : Bytes w (.slice a l.length c) l) (hl : l.length ≤ 140737488351232) (hbit : bit < 18446744073709551616) (hm : mask < 4294967296) (hl0 : 0 < l.length) (hm0 : 0 < mask) :
    Calls Try.prog 8 #[.slice a l.length c, .int .u64 bit, .int .u32 mask] w fun e w' => e = .returned (.bool true) ∧ Below w.heap.size w w' := by
  obtain ⟨p, hp⟩ : ∃ p, bit % (8 * l.length) = p := ⟨_, rfl⟩
  have hpl : p < 8 * l.length := by rw [← hp]; exact Nat.mod_lt _ (by omega)
  have hpi : ((bit : Int) % (8 * (l.length : Int))) = (p : Int) := by rw [← hp, Int.natCast_emod, Int.natCast_mul]; rfl
  have HB := hide hb
  have HM := hide hm
  have hml0 : ((mask : Int) == 0) = false := by rw [beq_eq_false_iff_ne]; omega
  have hll0 : ((l.length : Int) == 0) = false := by rw [beq_eq_false_iff_ne]; omega
  clear hb hp
  go_enter Try.func8, Try.ntmps8
  go_wp2_with (go_at_call 32; refine (seal_some _ _ _ l HB.out (by omega) p (mb mask)).mono ?_; rintro e w1 ⟨g, cap, rfl, A1⟩; have T1 := hide A1; clear A1)
  go_loopw [8, 9] (fun t i wr => ∃ (k : Nat) (tb : Bool) (lk : List UInt8), k ≤ 32 ∧ i = .int .u64 k ∧ t = .bool tb ∧ Turned w wr g cap l lk p k (mb mask) tb) (fun _ i _ => 32 - (intOf i).toNat)
  case atStart => exact ⟨0, false, l, by omega, rfl, rfl, T1.out⟩
  case round =>
    obtain ⟨k, tb, lk, hk, rfl, rfl, htu⟩ := hrel
    clear T1
    by_cases hlt : k < 32
    · have hmk := mb_walk mask k HM.out
      have HT := hide htu
      by_cases hin : p + k < 8 * l.length
      · cases hmb : mb mask k with
        | true =>
          rw [hmb] at hmk
          have hq : (p + k) / 8 < lk.length := by rw [htu.len]; omega
          have hq2 : (p + k) / 8 < l.length + 4 := by omega
          obtain ⟨hc1, hc2⟩ := own_cell htu.own ((p + k) / 8) hq2
          have hc3 : wr.cell? ⟨g, (p + k) / 8, none⟩ = some (.int .u8 ((lk.getD ((p + k) / 8) 0).toNat : Int)) := by
            rw [hc1]
            unfold cellsOf
            rw [List.getElem?_map, List.getElem?_append_left hq]
            simp [hq]
          have HR := hide (HT.out.turn hmb hin)
          have HX := hide (xor_pow (lk.getD ((p + k) / 8) 0) ((p + k) % 8) (by omega))
          clear htu hc1 hmb hq
          generalize lk.getD ((p + k) / 8) 0 = x at *
          go_wp2
          go_roundw
          case rel => exact ⟨k + 1, true, flip lk (p + k), by omega, by go_num, rfl, by rw [HX.out]; exact HR.out⟩
          case measure => simp [intOf]; omega
        | false =>
          rw [hmb] at hmk
          have HR := hide (HT.out.skip (fun _ => hmb))
          clear htu hmb
          go_wp2
          go_roundw
          case rel => exact ⟨k + 1, tb, lk, by omega, by go_num, rfl, HR.out⟩
          case measure => simp [intOf]; omega
      · have HR := hide (HT.out.skip (fun h => absurd h hin))
        clear htu
        cases hmb : mb mask k with
        | true =>
          rw [hmb] at hmk
          clear hmb
          go_wp2
          go_roundw
          case rel => exact ⟨k + 1, tb, lk, by omega, by go_num, rfl, HR.out⟩
          case measure => simp [intOf]; omega
        | false =>
          rw [hmb] at hmk
          clear hmb
          go_wp2
          go_roundw
          case rel => exact ⟨k + 1, tb, lk, by omega, by go_num, rfl, HR.out⟩
          case measure => simp [intOf]; omega
    · have e : k = 32 := by omega
      subst e
      have HT := hide htu
      clear htu
      cases tb with
      | true =>
        go_wp2_with (first | (go_at_call 31; refine (open_turned HT.out hpl hl).mono ?_; rintro e w2 ⟨a', n', c', rfl, A1⟩; have B2 := hide A1; clear A1) | (go_at_call 17; refine (heads_any _).mono ?_; rintro e w3 ⟨rfl, A1⟩; have B3 := hide A1; clear A1))
        go_ret
        exact ⟨rfl, B2.out.trans (B3.out.mono B2.out.size)⟩
      | false =>
        go_wp2_with (first | (go_at_call 31; refine (open_turned HT.out hpl hl).mono ?_; rintro e w2 ⟨a', n', c', rfl, A1⟩; have B2 := hide A1; clear A1) | (go_at_call 17; refine (heads_any _).mono ?_; rintro e w3 ⟨rfl, A1⟩; have B3 := hide A1; clear A1))
        go_ret
        exact ⟨rfl, B2.out.trans (B3.out.mono B2.out.size)⟩

set_option maxRecDepth 100000 in
set_option maxHeartbeats 1000000 in
theorem burst_empty (a : Option Addr) (c : Nat) (bit mask : Nat) (w : World) :
    Calls Try.prog 8 #[.slice a 0 c, .int .u64 bit, .int .u32 mask] w fun e w' => e = .returned (.bool true) ∧ Below w.heap.size w w' := by
  go_enter Try.func8, Try.ntmps8
  go_wp2_with (go_at_call 17; refine (heads_any _).mono ?_; rintro e w3 ⟨rfl, A1⟩; have B3 := hide A1; clear A1)
  go_ret
  exact ⟨rfl, B3.out⟩

set_option maxRecDepth 100000 in
set_option maxHeartbeats 1000000 in
theorem burst_nomask (a : Option Addr) (n c : Nat) (bit : Nat) (w : World) (hn : 0 < n) :
    Calls Try.prog 8 #[.slice a n c, .int .u64 bit, .int .u32 0] w fun e w' => e = .returned (.bool true) ∧ Below w.heap.size w w' := by
  have hn0 : ((n : Int) == 0) = false := by rw [beq_eq_false_iff_ne]; omega
  go_enter Try.func8, Try.ntmps8
  go_wp2_with (go_at_call 17; refine (heads_any _).mono ?_; rintro e w3 ⟨rfl, A1⟩; have B3 := hide A1; clear A1)
  go_ret
  exact ⟨rfl, B3.out⟩
end Go.Proofs.Ytfgcpkbbneicfaa
