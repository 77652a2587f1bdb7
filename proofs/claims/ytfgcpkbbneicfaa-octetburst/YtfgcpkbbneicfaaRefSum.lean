/- The document's own Crc, Seal and Open. -/
import Derived.Test.YtfgcpkbbneicfaaSeal
namespace Go.Proofs.Ytfgcpkbbneicfaa
open Go.RowKit

theorem crcBit_even (x : BitVec 32) (h : x.toNat % 2 = 0) : ((x.toNat : Int) / 2) = ((crcBit x).toNat : Int) := by
  have hb : x.getLsbD 0 = decide (x.toNat % 2 = 1) := by simp [BitVec.getLsbD, Nat.testBit_zero]
  unfold crcBit
  rw [hb, h]
  simp [BitVec.toNat_ushiftRight, Nat.shiftRight_eq_div_pow]

theorem crcBit_odd (x : BitVec 32) (h : x.toNat % 2 = 1) : bits .xor .u32 ((x.toNat : Int) / 2) 3988292384 = ((crcBit x).toNat : Int) := by
  have hb : x.getLsbD 0 = decide (x.toNat % 2 = 1) := by simp [BitVec.getLsbD, Nat.testBit_zero]
  have hx := x.isLt
  have hd : ((x.toNat : Int) / 2) = ((x.toNat / 2 : Nat) : Int) := by omega
  have := u32_xor_nat (x.toNat / 2) 3988292384 (by omega) (by decide)
  have e : ((3988292384 : Nat) : Int) = 3988292384 := rfl
  rw [e] at this
  rw [hd, this]
  unfold crcBit
  rw [hb, h]
  simp [BitVec.toNat_ushiftRight, Nat.shiftRight_eq_div_pow]

theorem not_ref (x : BitVec 32) : bits .xor .u32 (x.toNat : Int) 4294967295 = ((~~~x).toNat : Int) := by
  have h := not_walk x
  have e : IntKind.u32.max = 4294967295 := by decide
  rw [e] at h
  rw [← h]
  show IntKind.u32.wrap ((BitVec.ofInt 32 _ ^^^ BitVec.ofInt 32 _).toNat : Int) = IntKind.u32.wrap ((BitVec.ofInt 32 _ ^^^ BitVec.ofInt 32 _).toNat : Int)
  rw [BitVec.xor_comm]

set_option maxRecDepth 100000 in
set_option maxHeartbeats 2000000 in
theorem refCrc_any (w : World) (a : Option Addr) (c : Nat) (l : List UInt8) (hb : Bytes w (.slice a l.length c) l) (hl : l.length ≤ maxLen) :
    Calls Try.prog 35 #[.slice a l.length c] w fun e w' => e = .returned (.int .u32 (crc l).toNat) ∧ w' = w := by
  have HE := hide hb.elim
  clear hb
  unfold maxLen at hl
  go_enter Try.func35, Try.ntmps35
  go_wp2
  go_loop [3, 4, 5, 6] (fun t i _ _ => ∃ k : Nat, k ≤ l.length ∧ i = .int .i64 k ∧ t = .int .u32 (crcL 0xFFFFFFFF#32 (l.take k)).toNat) (fun _ i _ _ => l.length - (intOf i).toNat)
  case atStart => exact ⟨0, Nat.zero_le _, rfl, rfl⟩
  case round =>
    obtain ⟨k, hk, rfl, rfl⟩ := hrel
    by_cases hlt : k < l.length
    · have hcell : ∃ b off, a = some ⟨b, off, none⟩ ∧ w.cell? ⟨b, off + k, none⟩ = some (.int .u8 (l[k].toNat : Int)) := by
        rcases HE.out with ⟨e, _⟩ | ⟨_, b, off, c', e, h7⟩
        · rw [e] at hlt; simp at hlt
        · simp only [Value.slice.injEq] at e
          exact ⟨b, off, e.1, h7 k hlt⟩
      obtain ⟨b, off, rfl, hcell⟩ := hcell
      clear HE
      have HS := hide (crcL_take 0xFFFFFFFF#32 l k hlt)
      generalize l[k] = x at *
      generalize crcL 0xFFFFFFFF#32 (l.take k) = y at *
      have HX := hide (xorByte_walk y x)
      go_wp2
      go_loop [3, 5, 6] (fun t i _ => ∃ j : Nat, j ≤ 8 ∧ i = .int .i64 j ∧ t = .int .u32 (iter crcBit j (y ^^^ x.toBitVec.setWidth 32)).toNat) (fun _ i _ => 8 - (intOf i).toNat)
      case atStart => exact ⟨0, Nat.zero_le _, rfl, by rw [HX.out]; rfl⟩
      case round =>
        obtain ⟨j, hj, rfl, rfl⟩ := hrel
        have HI : Hid (iter crcBit (j + 1) (y ^^^ x.toBitVec.setWidth 32) = crcBit (iter crcBit j (y ^^^ x.toBitVec.setWidth 32))) := rfl
        have HC : Hid (j = 8 → iter crcBit j (y ^^^ x.toBitVec.setWidth 32) = crcB y x) := fun e => by subst e; rfl
        generalize iter crcBit j (y ^^^ x.toBitVec.setWidth 32) = z at *
        have hz := z.isLt
        by_cases hj8 : j < 8
        · rcases Nat.mod_two_eq_zero_or_one z.toNat with hm | hm
          · have HM := hide (crcBit_even z hm)
            have hmi : ((z.toNat : Int) % 2 == 1) = false := by simp; omega
            clear hm
            go_wp2
            go_round
            case rel => exact ⟨j + 1, by omega, by go_num, by rw [HI.out, HM.out]⟩
            case measure => simp [intOf]; omega
          · have HM := hide (crcBit_odd z hm)
            have hmi : ((z.toNat : Int) % 2 == 1) = true := by simp; omega
            clear hm
            go_wp2
            go_round
            case rel => exact ⟨j + 1, by omega, by go_num, by rw [HI.out, HM.out]⟩
            case measure => simp [intOf]; omega
        · have e := HC.out (by omega)
          have HE2 := hide e
          clear e
          go_wp2
          go_round
          case rel => exact ⟨k + 1, by omega, by go_num, by rw [HS.out, HE2.out]⟩
          case measure => simp [intOf]; omega
    · have e : l.take k = l := List.take_of_length_le (by omega)
      rw [e]
      clear HE
      go_wp2
      go_ret
      exact ⟨ret_int (not_ref _), rfl⟩

theorem refCrc_same (w : World) (a : Option Addr) (c : Nat) (l : List UInt8) (hb : Bytes w (.slice a l.length c) l) (hl : l.length ≤ maxLen) :
    Calls Try.prog 35 #[.slice a l.length c] w fun e w' => e = .returned (.int .u32 (crc l).toNat) ∧ w = w' :=
  (refCrc_any w a c l hb hl).mono fun _ _ h => ⟨h.1, h.2.symm⟩

theorem run_append_one (w : World) (base : Nat) (ty : TypeId) (v : Value) (n : Nat) (xs : List Value) (hown : w.ownsRow base 5 1 v n xs) (y : Value) (c : UInt8) (hy : y = .int .u8 (c.toNat : Int)) (hn : n + 1 ≤ 140737488355328) (hbase : base ≤ w.heap.size) :
    ∃ v' w', (Builtin.append_ #[23, 23] ty #[v, .slice (some ⟨w.heap.size, 0, none⟩) 1 1]).run Try.prog (w.alloc (.cells #[y] 5)) = .ok v' w' ∧ w'.ownsRow base 5 1 v' (n + 1) (xs ++ cellsOf [c]) ∧ (w.alloc (.cells #[y] 5)).grownBy w' v.ownBlock := by
  obtain ⟨i0, hi, hz0, hz1, hz2⟩ := info_parts info_u8
  obtain ⟨v', w', h1, h2, h3, _⟩ := run_append_own (P := Try.prog) (w.alloc (.cells #[y] 5)) base 23 ty 5 i0 (.int .u8 0) 1 1 Try.underlying23 hi hz0 hz1 hz2 rfl (by decide) v n xs (hown.alloc _) ⟨w.heap.size, 0, none⟩ 1 1 (cellsOf [c]) rfl (cell_new w y c hy) (cellsOf_one _) (by unfold maxLen; omega) (by omega) (by simp; omega)
  exact ⟨v', w', h1, h2, h3⟩

theorem le4_get (X k : Nat) (hk : k < 4) (z : Int) (hz : z = (X : Int) / 2 ^ (8 * k) % 256) : Value.int .u8 z = .int .u8 (((le4 X)[k]'hk).toNat : Int) := by
  subst hz
  congr 1
  have e0 := u8_mod X
  have e1 := u8_mod (X / 256)
  have e2 := u8_mod (X / 65536)
  have e3 := u8_mod (X / 16777216)
  match k, hk with
  | 0, _ => show (X : Int) / 1 % 256 = (X.toUInt8.toNat : Int); rw [← e0]; simp
  | 1, _ => show (X : Int) / 256 % 256 = ((X / 256).toUInt8.toNat : Int); rw [← e1]; rfl
  | 2, _ => show (X : Int) / 65536 % 256 = ((X / 65536).toUInt8.toNat : Int); rw [← e2]; rfl
  | 3, _ => show (X : Int) / 16777216 % 256 = ((X / 16777216).toUInt8.toNat : Int); rw [← e3]; rfl

set_option maxRecDepth 100000 in
set_option maxHeartbeats 2000000 in
theorem refSeal_any (w : World) (a : Option Addr) (c : Nat) (l : List UInt8) (hb : Bytes w (.slice a l.length c) l) (hl : l.length ≤ 140737488355324) :
    Calls Try.prog 36 #[.slice a l.length c] w fun e w' => ∃ v, e = .returned v ∧ w'.ownsRow w.heap.size 5 1 v (sealed l).length (cellsOf (sealed l)) ∧ Below w.heap.size w w' := by
  have HB := hide hb
  have HL := hide hl
  have hX := (crc l).isLt
  obtain ⟨i0, hi, hz0, hz1, hz2⟩ := info_parts info_u8
  clear hb hl
  go_enter Try.func36, Try.ntmps36
  go_wp2_with (first | (go_at_call 35; refine (refCrc_same _ _ _ l HB.out (by have := HL.out; unfold maxLen; omega)).mono ?_; rintro e w0 ⟨rfl, rfl⟩) | (go_at_call 19; refine (copy_any _ _ l HB.out (by have := HL.out; omega)).mono ?_; rintro e w1 ⟨g1, c1, rfl, A1, A2⟩; have B1 := hide A1; have B2 := hide A2; clear A1 A2))
  have HSL : Hid (sealed l = l ++ le4 (crc l).toNat) := rfl
  generalize (crc l).toNat = X at *
  go_loopw [4, 5] (fun v i wr => ∃ k : Nat, k ≤ 4 ∧ i = .int .i64 k ∧ wr.ownsRow w.heap.size 5 1 v (l.length + k) (cellsOf (l ++ (le4 X).take k)) ∧ Below w.heap.size w wr) (fun _ i _ => 4 - (intOf i).toNat)
  case atStart => exact ⟨0, by omega, rfl, by simpa using B1.out, B2.out⟩
  case round =>
    obtain ⟨k, hk, rfl, hown, hbel⟩ := hrel
    clear B1 B2
    have hsz := hbel.size
    by_cases hlt : k < 4
    · have hlen : (le4 X).length = 4 := rfl
      obtain ⟨c', hc'⟩ : ∃ c', (le4 X)[k]'(by rw [hlen]; exact hlt) = c' := ⟨_, rfl⟩
      have hval : ∀ z : Int, z = (X : Int) / 2 ^ (8 * k) % 256 → Value.int .u8 z = .int .u8 (c'.toNat : Int) := fun z hz => by rw [← hc']; exact le4_get X k hlt z hz
      have hnext : (le4 X).take (k + 1) = (le4 X).take k ++ [c'] := by rw [List.take_succ_eq_append_getElem (by rw [hlen]; exact hlt), hc']
      have HV := hide hval
      have HNX := hide hnext
      have HBE := hide hbel
      clear hval hnext hbel hc' hlen
      go_wp2_with (at_builtin; refine wpList_append_own _ rfl _ _ 23 rfl w.heap.size 5 i0 (.int .u8 0) 1 1 Try.underlying23 hi hz0 hz1 hz2 rfl (by decide) _ _ _ rfl (hown.alloc _) ⟨wr.heap.size, 0, none⟩ 1 1 (cellsOf [c']) rfl rfl ?c1 (cellsOf_one _) ?c3 ?c4 ?c5 ?_)
      case c1 =>
        exact cell_new _ _ _ (HV.out _ rfl)
      case c3 => have := HL.out; unfold maxLen; omega
      case c4 => have := HL.out; omega
      case c5 => simp; omega
      · intro v' w2 hown' hgrow _
        have R : Hid (w2.ownsRow w.heap.size 5 1 v' (l.length + (k + 1)) (cellsOf (l ++ (le4 X).take (k + 1))) ∧ Below w.heap.size w w2) := by
          refine ⟨?_, ?_⟩
          · rw [HNX.out, ← List.append_assoc, cellsOf_append]
            exact hown'
          · exact (HBE.out.alloc hsz _).grown hgrow (by simp; omega) (fun k hk => (hown.lt k hk).1)
        clear hown' hgrow hown
        go_wp2
        go_roundw
        case rel => exact ⟨k + 1, by omega, by go_num, R.out.1, R.out.2⟩
        case measure => simp [intOf]; omega
    · have e : k = 4 := by omega
      subst e
      have R : Hid (wr.ownsRow w.heap.size 5 1 u4 (sealed l).length (cellsOf (sealed l)) ∧ Below w.heap.size w wr) := by
        rw [HSL.out, List.length_append]
        exact ⟨hown, hbel⟩
      clear hown hbel
      go_wp2
      go_ret
      exact ⟨_, rfl, R.out.1, R.out.2⟩

theorem seal_eq (l : List UInt8) (n : Nat) : (sealed (l.take n) == l) = (l.drop n == le4 (crc (l.take n)).toNat) := by
  have h : sealed (l.take n) = l ↔ l.drop n = le4 (crc (l.take n)).toNat := by
    unfold sealed
    constructor
    · intro h
      have h2 : l = l.take n ++ l.drop n := (List.take_append_drop n l).symm
      have h3 := h.trans h2
      exact (List.append_cancel_left h3).symm
    · intro h
      rw [← h]
      exact List.take_append_drop n l
  rw [Bool.eq_iff_iff]
  simp only [beq_iff_eq]
  exact h

theorem refSeal_at (w : World) (a : Option Addr) (n c : Nat) (l : List UInt8) (hn : l.length = n) (hb : Bytes w (.slice a n c) l) (hl : l.length ≤ 140737488355324) :
    Calls Try.prog 36 #[.slice a n c] w fun e w' => ∃ v, e = .returned v ∧ w'.ownsRow w.heap.size 5 1 v (sealed l).length (cellsOf (sealed l)) ∧ Below w.heap.size w w' := by
  subst hn
  exact refSeal_any w a c l hb hl

set_option maxRecDepth 100000 in
set_option maxHeartbeats 1000000 in
theorem refOpen_any (w : World) (a : Option Addr) (c : Nat) (l : List UInt8) (hb : BytesIn w 0 w.heap.size (.slice a l.length c) l) (hl : l.length ≤ 140737488355328) :
    Calls Try.prog 34 #[.slice a l.length c] w fun e w' => ∃ a' c', e = .returned (.tuple #[.slice a' (openData l).length c', .int .i64 (openErr l)]) ∧ Bytes w' (.slice a' (openData l).length c') (openData l) ∧ Below w.heap.size w w' := by
  by_cases h4 : l.length < 4
  · have e1 : openErr l = 10 := if_pos h4
    have e2 : openData l = [] := by unfold openData; rw [e1]; rfl
    rw [e1, e2]
    clear e1 e2 hb
    go_enter Try.func34, Try.ntmps34
    go_wp2
    go_ret2
    exact ⟨none, 0, rfl, ⟨none, 0, rfl, fun j hj => by simp at hj⟩, Below.refl _ _⟩
  · obtain ⟨n, hn⟩ : ∃ n, l.length - 4 = n := ⟨_, rfl⟩
    have hln : ((l.length : Int) - 4) = (n : Int) := by omega
    obtain ⟨a1, c1, hs1, hb1⟩ := slice_high w .i64 a c hb n (by omega)
    have hl1 : (l.take n).length = n := by rw [List.length_take]; omega
    have HSE := hide (seal_eq l n)
    have S0 := hide hb.plain
    have S1 := hide hb1
    have HL1 := hide hl1
    clear hb1 hb hl1
    by_cases hq : (l.drop n == le4 (crc (l.take n)).toNat) = true
    · have e1 : openErr l = 0 := by unfold openErr; rw [if_neg h4, hn, if_pos hq]
      have e2 : openData l = l.take n := by unfold openData; rw [e1, if_pos rfl, hn]
      rw [e1, e2, HL1.out]
      have HQ := hide hq
      clear e1 e2 hq
      go_enter Try.func34, Try.ntmps34
      go_wp2_with (first | (go_at_call 36; refine (refSeal_at _ _ _ _ (l.take n) HL1.out S1.out.plain (by rw [HL1.out]; omega)).mono ?_; rintro e w1 ⟨v1, rfl, A1, A2⟩; have B1 := hide A1; have B2 := hide A2; clear A1 A2) | (go_at_call 12; refine (same_any _ _ _ _ _ (ownsRow_bytes B1.out).2.plain (S0.out.later B2.out)).mono ?_; rintro e w2 ⟨rfl, rfl⟩; rw [HSE.out, HQ.out]) | (go_at_call 19; refine (copy_any _ _ (l.take n) (S1.out.plain.later B2.out) (by rw [HL1.out]; omega)).mono ?_; rintro e w3 ⟨g3, c3, rfl, A1, A2⟩; have B4 := hide (ownsRow_bytes A1).2.plain; rw [HL1.out] at B4; have B5 := hide A2; clear A1 A2; rw [HL1.out]))
      go_ret2
      exact ⟨_, _, rfl, B4.out, B2.out.trans (B5.out.mono B2.out.size)⟩
    · have hq' : (l.drop n == le4 (crc (l.take n)).toNat) = false := by simpa using hq
      have e1 : openErr l = 13 := by unfold openErr; rw [if_neg h4, hn, if_neg hq]
      have e2 : openData l = [] := by unfold openData; rw [e1]; rfl
      rw [e1, e2]
      have HQ := hide hq'
      clear e1 e2 hq hq'
      go_enter Try.func34, Try.ntmps34
      go_wp2_with (first | (go_at_call 36; refine (refSeal_at _ _ _ _ (l.take n) HL1.out S1.out.plain (by rw [HL1.out]; omega)).mono ?_; rintro e w1 ⟨v1, rfl, A1, A2⟩; have B1 := hide A1; have B2 := hide A2; clear A1 A2) | (go_at_call 12; refine (same_any _ _ _ _ _ (ownsRow_bytes B1.out).2.plain (S0.out.later B2.out)).mono ?_; rintro e w2 ⟨rfl, rfl⟩; rw [HSE.out, HQ.out]))
      go_ret2
      exact ⟨none, 0, rfl, ⟨none, 0, rfl, fun j hj => by simp at hj⟩, B2.out⟩
end Go.Proofs.Ytfgcpkbbneicfaa
