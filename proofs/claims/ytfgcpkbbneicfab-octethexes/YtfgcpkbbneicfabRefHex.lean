/- The document's own Hex. -/
import Derived.Test.YtfgcpkbbneicfabHex
namespace Go.Proofs.Ytfgcpkbbneicfab
open Go.RowKit

theorem add_bytes (A B : List UInt8) (h : A.length + B.length ≤ 9223372036854775807) (w : World) : (Op.stringOp .add (bytesOf A) (bytesOf B)).run Try.prog w = .ok (.string (bytesOf (A ++ B))) w := by
  have e : bytesOf (A ++ B) = bytesOf A ++ bytesOf B := by
    apply Go.WideShapes.bytes_inj
    rw [ByteArray.data_append]
    simp [bytesOf]
  have hs : (bytesOf A).size + (bytesOf B).size ≤ 9223372036854775807 := by
    show A.toArray.size + B.toArray.size ≤ _
    simpa using h
  rw [e]
  exact run_string_add_sum (P := Try.prog) w (bytesOf A) (bytesOf B) hs

theorem slice_dig (n : Nat) (hn : n < 16) (w : World) : (Instr.slice 9 (.string ⟨#[48, 49, 50, 51, 52, 53, 54, 55, 56, 57, 97, 98, 99, 100, 101, 102]⟩) (some (.int .u8 (n : Int))) (some (.int .u8 ((n : Int) + 1))) none).run Try.prog w = .ok (.string (bytesOf [hexd n])) w := by
  have h2 : ((n : Int) + 1) ≤ ((⟨#[48, 49, 50, 51, 52, 53, 54, 55, 56, 57, 97, 98, 99, 100, 101, 102]⟩ : ByteArray).size : Int) := by
    show (n : Int) + 1 ≤ 16
    omega
  rw [run_slice_string (P := Try.prog) w 9 _ .u8 .u8 (n : Int) ((n : Int) + 1) Try.underlying9 (by omega) (by omega) h2]
  have e : ((n : Int) + 1).toNat = n + 1 := by omega
  rw [e, Int.toNat_natCast]
  have h : n = 0 ∨ n = 1 ∨ n = 2 ∨ n = 3 ∨ n = 4 ∨ n = 5 ∨ n = 6 ∨ n = 7 ∨ n = 8 ∨ n = 9 ∨ n = 10 ∨ n = 11 ∨ n = 12 ∨ n = 13 ∨ n = 14 ∨ n = 15 := by omega
  clear e h2 hn
  congr 2
  rcases h with rfl | rfl | rfl | rfl | rfl | rfl | rfl | rfl | rfl | rfl | rfl | rfl | rfl | rfl | rfl | rfl
  all_goals decide

set_option maxRecDepth 100000 in
set_option maxHeartbeats 1000000 in
theorem refHex_any (w : World) (a : Option Addr) (c : Nat) (l : List UInt8) (hb : Bytes w (.slice a l.length c) l) (hl : l.length ≤ 140737488351232) :
    Calls Try.prog 8 #[.slice a l.length c] w fun e w' => e = .returned (.string (bytesOf (hexL l))) ∧ ∃ n, w' = w.drewN n := by
  have HE := hide hb.elim
  clear hb
  go_enter Try.func8, Try.ntmps8
  go_wp2
  go_loopw [4, 5] (fun v i wr => ∃ k n : Nat, k ≤ l.length ∧ i = .int .i64 k ∧ v = .string (bytesOf (hexL (l.take k))) ∧ wr = w.drewN n) (fun _ i _ => l.length - (intOf i).toNat)
  case atStart => exact ⟨0, 0, Nat.zero_le _, rfl, rfl, rfl⟩
  case round =>
    obtain ⟨k, nd, hk, rfl, rfl, rfl⟩ := hrel
    by_cases hlt : k < l.length
    · have hcell : ∃ b off, a = some ⟨b, off, none⟩ ∧ w.cell? ⟨b, off + k, none⟩ = some (.int .u8 (l[k].toNat : Int)) := by
        rcases HE.out with ⟨e, _⟩ | ⟨_, b, off, c', e, h7⟩
        · rw [e] at hlt; simp at hlt
        · simp only [Value.slice.injEq] at e
          exact ⟨b, off, e.1, h7 k hlt⟩
      obtain ⟨b, off, rfl, hcell⟩ := hcell
      have HS := hide (hexL_take l k hlt)
      have hlen := hexL_len (l.take k)
      have htk : (l.take k).length ≤ k := by rw [List.length_take]; omega
      clear HE
      generalize l[k] = x at *
      have hx : x.toNat < 256 := x.toNat_lt
      obtain ⟨y1, hy1⟩ : ∃ y, x.toNat / 16 = y := ⟨_, rfl⟩
      obtain ⟨y2, hy2⟩ : ∃ y, x.toNat % 16 = y := ⟨_, rfl⟩
      have hdiv : ((x.toNat : Int) / 16) = (y1 : Int) := by omega
      have hrem : ((x.toNat : Int) % 16) = (y2 : Int) := by omega
      have hy1' : y1 < 16 := by omega
      have hy2' : y2 < 16 := by omega
      have wr1 : IntKind.u8.wrap (y1 : Int) = (y1 : Int) := by rw [IntKind.wrap_u8']; omega
      have wr2 : IntKind.u8.wrap ((y1 : Int) + 1) = (y1 : Int) + 1 := by rw [IntKind.wrap_u8']; omega
      have wr3 : IntKind.u8.wrap (y2 : Int) = (y2 : Int) := by rw [IntKind.wrap_u8']; omega
      have wr4 : IntKind.u8.wrap ((y2 : Int) + 1) = (y2 : Int) + 1 := by rw [IntKind.wrap_u8']; omega
      have hi1 := slice_dig y1 hy1'
      have hi2 := slice_dig y2 hy2'
      have HX : Hid (hex2 x = [hexd y1, hexd y2]) := by show _ = _; unfold hex2; rw [hy1, hy2]
      rw [HX.out] at HS
      clear hy1 hy2 HX
      generalize hexd y1 = c1 at *
      generalize hexd y2 = c2 at *
      generalize hexL (l.take k) = A at *
      have hA1 := add_bytes A [c1] (by simp; omega)
      have hA2 := add_bytes (A ++ [c1]) [c2] (by simp; omega)
      have HAP : Hid ((A ++ [c1]) ++ [c2] = A ++ [c1, c2]) := by show _ = _; simp
      rw [HAP.out] at hA2
      rw [← HS.out] at hA2
      obtain ⟨A2, hA2e⟩ : ∃ A2, hexL (l.take (k + 1)) = A2 := ⟨_, rfl⟩
      have HA2 := hide hA2e
      rw [hA2e] at hA2
      clear hlen htk HAP hA2e
      go_wp2_with fail
      go_quiet (fail)
      go_wp2
      go_roundw
      case rel => exact ⟨k + 1, _, by omega, by go_num, by rw [HA2.out], rfl⟩
      case measure => simp [intOf]; omega
    · have e : l.take k = l := List.take_of_length_le (by omega)
      rw [e]
      clear HE
      go_wp2
      go_ret
      exact ⟨rfl, _, rfl⟩
end Go.Proofs.Ytfgcpkbbneicfab
