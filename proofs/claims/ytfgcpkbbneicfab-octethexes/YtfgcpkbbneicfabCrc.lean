/- What crcByte and Crc answer, whatever they are given: the plain check sum; memory stays as it was. -/
import Derived.Test.YtfgcpkbbneicfabPlain
import Derived.Test.YtfgcpkbbneicfabRows
import Derived.WalkKit
import Derived.WalkSpells
import Derived.WalkLawsBesides
namespace Go.Proofs.Ytfgcpkbbneicfab
open Go.RowKit

set_option maxHeartbeats 400000 in
theorem crcByte_any (x : BitVec 32) (c : UInt8) (w : World) :
    Calls Try.prog 26 #[.int .u32 x.toNat, .int .u8 c.toNat] w fun e w' => e = .returned (.int .u32 (crcB x c).toNat) ∧ w' = w := by
  go_enter Try.func26, Try.ntmps26
  go_wp2
  go_loop [0, 9] (fun t i => ∃ k : Nat, k ≤ 8 ∧ i = .int .i64 k ∧ t = .int .u32 (iter crcBit k (x ^^^ c.toBitVec.setWidth 32)).toNat) (fun _ i => 8 - (intOf i).toNat)
  case atStart => exact ⟨0, Nat.zero_le _, rfl, by rw [xorByte_walk]; rfl⟩
  case round =>
    obtain ⟨k, hk, rfl, rfl⟩ := hrel
    go_wp2
    · go_round
      case rel => exact ⟨k + 1, by omega, by go_num, by rw [crcBit_walk]; rfl⟩
      case measure => simp [intOf]; omega
    · go_ret
      have : k = 8 := by omega
      subst this
      exact ⟨rfl, rfl⟩

/-- A slice of bytes that reads as l. -/
def Bytes (w : World) (v : Value) (l : List UInt8) : Prop :=
  ∃ a c, v = .slice a l.length c ∧ ∀ j (h : j < l.length), ∃ b off, a = some ⟨b, off, none⟩ ∧ w.cell? ⟨b, off + j, none⟩ = some (.int .u8 (l[j].toNat : Int))

theorem Bytes.elim {w : World} {v : Value} {l : List UInt8} (h : Bytes w v l) :
    (l = [] ∧ ∃ a c, v = .slice a 0 c) ∨
    (l ≠ [] ∧ ∃ b off c, v = .slice (some ⟨b, off, none⟩) l.length c ∧ ∀ j (h : j < l.length), w.cell? ⟨b, off + j, none⟩ = some (.int .u8 (l[j].toNat : Int))) := by
  obtain ⟨a, c, rfl, h⟩ := h
  rcases l with _ | ⟨x, l⟩
  · exact .inl ⟨rfl, a, c, rfl⟩
  · obtain ⟨b, off, rfl, _⟩ := h 0 (by simp)
    refine .inr ⟨by simp, b, off, c, rfl, fun j hj => ?_⟩
    obtain ⟨b', off', e, h'⟩ := h j hj
    simp only [Option.some.injEq, Addr.mk.injEq, and_true] at e
    obtain ⟨rfl, rfl⟩ := e
    exact h'

theorem crcL_snoc (x : BitVec 32) (l : List UInt8) (c : UInt8) : crcL x (l ++ [c]) = crcB (crcL x l) c := by simp [crcL]
theorem crcL_take (x : BitVec 32) (l : List UInt8) (k : Nat) (h : k < l.length) : crcL x (l.take (k + 1)) = crcB (crcL x (l.take k)) l[k] := by
  rw [List.take_succ_eq_append_getElem h, crcL_snoc]
theorem crcL_append (x : BitVec 32) (l m : List UInt8) : crcL x (l ++ m) = crcL (crcL x l) m := by simp [crcL]

set_option maxHeartbeats 1000000 in
theorem crc_some (pb po pc : Nat) (ls : List (List UInt8)) (w : World) (hl : ls.length ≤ maxLen)
    (hs : ∀ i (h : i < ls.length), ls[i].length ≤ maxLen)
    (hp : ∀ i (h : i < ls.length), ∃ v, w.cell? ⟨pb, po + i, none⟩ = some v ∧ Bytes w v ls[i]) :
    Calls Try.prog 19 #[.slice (some ⟨pb, po, none⟩) ls.length pc] w fun e w' => e = .returned (.int .u32 (crc ls.flatten).toNat) ∧ w' = w := by
  unfold maxLen at hl hs
  go_enter Try.func19, Try.ntmps19
  go_wp2
  go_loop [3, 10] (fun t i => ∃ k : Nat, k ≤ ls.length ∧ i = .int .i64 k ∧ t = .int .u32 (crcL 0xFFFFFFFF#32 (ls.take k).flatten).toNat) (fun _ i => ls.length - (intOf i).toNat)
  case atStart => exact ⟨0, Nat.zero_le _, rfl, rfl⟩
  case round =>
    obtain ⟨k, hk, rfl, rfl⟩ := hrel
    by_cases hlt : k < ls.length
    · obtain ⟨v, hv, hb⟩ := hp k hlt
      have hlen := hs k hlt
      clear hp hs
      have HS : Hid (∀ x, crcL x (ls.take (k + 1)).flatten = crcL (crcL x (ls.take k).flatten) ls[k]) := by
        intro x
        rw [List.take_succ_eq_append_getElem hlt, List.flatten_append, crcL_append]
        simp
      generalize hy : crcL 0xFFFFFFFF#32 (ls.take k).flatten = y
      have HY := hy; clear hy
      have HY' : Hid (crcL 0xFFFFFFFF#32 (ls.take k).flatten = y) := HY
      clear HY
      generalize hlk : ls[k] = l at hb hlen HS
      clear hlk
      rcases hb.elim with ⟨rfl, a, c, rfl⟩ | ⟨hne, b, off, c, rfl, hc⟩
      · go_wp2
        go_loop [3, 16] (fun t i => t = .int .u32 y.toNat ∧ i = .int .i64 0) (fun _ i => 0)
        case atStart => exact ⟨rfl, rfl⟩
        case round =>
          obtain ⟨rfl, rfl⟩ := hrel
          go_wp2
          go_round
          case rel => exact ⟨k + 1, by omega, by go_num, by rw [HS.out, HY'.out]; rfl⟩
          case measure => simp [intOf]; omega
      · go_wp2
        go_loop [3, 7, 16] (fun t _ i => ∃ j : Nat, j ≤ l.length ∧ t = .int .u32 (crcL y (l.take j)).toNat ∧ i = .int .i64 j) (fun _ _ i => l.length - (intOf i).toNat)
        case atStart => exact ⟨0, Nat.zero_le _, rfl, rfl⟩
        case round =>
          obtain ⟨j, hj, rfl, rfl⟩ := hrel
          by_cases hjl : j < l.length
          · have hcell := hc j hjl
            clear hc
            go_wp2_with (go_at_call 26; refine (crcByte_any _ _ _).mono ?_; rintro e w' ⟨rfl, rfl⟩)
            go_round
            case rel => exact ⟨j + 1, by omega, by rw [crcL_take _ _ _ hjl], by go_num⟩
            case measure => simp [intOf]; omega
          · have : j = l.length := by omega
            subst this
            clear hc
            go_wp2
            go_round
            case rel => exact ⟨k + 1, by omega, by go_num, by rw [HS.out, HY'.out, List.take_of_length_le (Nat.le_refl _)]⟩
            case measure => simp [intOf]; omega
    · have : k = ls.length := by omega
      subst this
      clear hp
      go_wp2
      go_ret
      exact ⟨ret_int (not_walk _), rfl⟩

end Go.Proofs.Ytfgcpkbbneicfab
