/- Digits there and back, and OctetHexes walked. -/
import Derived.Test.YtfgcpkbbneicfabRefUnhex
import Derived.Test.YtfgcpkbbneicfabRefHex
namespace Go.Proofs.Ytfgcpkbbneicfab
open Go.RowKit

theorem dv_hexd (n : Nat) (h : n < 16) : dv (hexd n).toNat = n := by
  have h : n = 0 ∨ n = 1 ∨ n = 2 ∨ n = 3 ∨ n = 4 ∨ n = 5 ∨ n = 6 ∨ n = 7 ∨ n = 8 ∨ n = 9 ∨ n = 10 ∨ n = 11 ∨ n = 12 ∨ n = 13 ∨ n = 14 ∨ n = 15 := by omega
  rcases h with rfl | rfl | rfl | rfl | rfl | rfl | rfl | rfl | rfl | rfl | rfl | rfl | rfl | rfl | rfl | rfl
  all_goals rfl

theorem hexL_get : ∀ (l : List UInt8) (j : Nat) (h : j < l.length), (hexL l).getD (2 * j) 0 = hexd (l[j].toNat / 16) ∧ (hexL l).getD (2 * j + 1) 0 = hexd (l[j].toNat % 16)
  | c :: r, 0, _ => by simp [hexL, hex2]
  | c :: r, j + 1, h => by
    have ih := hexL_get r j (by simpa using h)
    have e : hexL (c :: r) = hexd (c.toNat / 16) :: hexd (c.toNat % 16) :: hexL r := by simp [hexL, hex2]
    rw [e, show 2 * (j + 1) = (2 * j + 1) + 1 by omega]
    simp only [List.getD_cons_succ, List.getElem_cons_succ]
    exact ih

theorem sb_bytesOf (m : List UInt8) (i : Nat) : sb (bytesOf m) i = (m.getD i 0).toNat := by
  unfold sb bytesOf
  simp

theorem size_bytesOf (m : List UInt8) : (bytesOf m).size = m.length := by
  unfold bytesOf
  simp [ByteArray.size]

theorem hex_size (l : List UInt8) : (bytesOf (hexL l)).size = 2 * l.length := by rw [size_bytesOf, hexL_len]

theorem hex_dv (l : List UInt8) (j : Nat) (h : j < l.length) : dv (sb (bytesOf (hexL l)) (2 * j)) = l[j].toNat / 16 ∧ dv (sb (bytesOf (hexL l)) (2 * j + 1)) = l[j].toNat % 16 := by
  have hl := l[j].toNat_lt
  rw [sb_bytesOf, sb_bytesOf, (hexL_get l j h).1, (hexL_get l j h).2]
  exact ⟨dv_hexd _ (by omega), dv_hexd _ (by omega)⟩

theorem hex_good (l : List UInt8) : (bytesOf (hexL l)).size % 2 = 0 ∧ good (bytesOf (hexL l)) (bytesOf (hexL l)).size := by
  rw [hex_size]
  refine ⟨by omega, fun i hi => ?_⟩
  have hj : i / 2 < l.length := by omega
  have hl := l[i / 2].toNat_lt
  have h := hex_dv l (i / 2) hj
  rcases Nat.mod_two_eq_zero_or_one i with hm | hm
  · have e : 2 * (i / 2) = i := by omega
    rw [e] at h
    rw [h.1]
    omega
  · have e : 2 * (i / 2) + 1 = i := by omega
    rw [e] at h
    rw [h.2]
    omega

theorem unErr_hex (l : List UInt8) : unErr (bytesOf (hexL l)) = 0 := by unfold unErr; rw [if_pos (hex_good l)]
theorem unData_hex (l : List UInt8) : unData (bytesOf (hexL l)) = l := by
  unfold unData
  rw [if_pos (hex_good l)]
  unfold unL
  rw [hex_size, show 2 * l.length / 2 = l.length by omega]
  apply List.ext_getElem
  · simp
  · intro j h1 h2
    have h := hex_dv l j h2
    rw [List.getElem_map, List.getElem_range, h.1, h.2]
    have e : 16 * (l[j].toNat / 16) + l[j].toNat % 16 = l[j].toNat := by omega
    rw [e]
    apply UInt8.toNat_inj.1
    rw [Nat.toUInt8_eq, UInt8.toNat_ofNat']
    have := l[j].toNat_lt
    omega

theorem drew_below (n : Nat) (w : World) : Below w.heap.size w (w.drewN n) := ⟨rfl, rfl, rfl, Nat.le_refl _, fun _ _ => rfl⟩

theorem refHex_at (w : World) (a : Option Addr) (c : Nat) (l : List UInt8) (hb : Bytes w (.slice a l.length c) l) (hl : l.length ≤ 140737488351232) :
    Calls Try.prog 8 #[.slice a l.length c] w fun e w' => e = .returned (.string (bytesOf (hexL l))) ∧ Below w.heap.size w w' :=
  (refHex_any w a c l hb hl).mono fun _ _ ⟨h, n, e⟩ => ⟨h, by rw [e]; exact drew_below n w⟩

theorem unhex_hex (l : List UInt8) (w : World) (hl : l.length ≤ 140737488351232) :
    Calls Try.prog 6 #[.string (bytesOf (hexL l))] w fun e w' => ∃ a' c', e = .returned (.tuple #[.slice a' l.length c', .int .i64 0]) ∧ Bytes w' (.slice a' l.length c') l ∧ Below w.heap.size w w' := by
  have h := unhex_any (bytesOf (hexL l)) w (by rw [hex_size]; omega)
  rw [unErr_hex, unData_hex] at h
  exact h

theorem chain {a b c : World} (h : Below a.heap.size a b) (k : Below b.heap.size b c) : Below a.heap.size a c := h.trans (k.mono h.size)

set_option maxRecDepth 100000 in
set_option maxHeartbeats 2000000 in
theorem hexes_any (a : Option Addr) (c : Nat) (l : List UInt8) (s : ByteArray) (w : World) (hb : Bytes w (.slice a l.length c) l) (hl : l.length ≤ 140737488351232) (hs : s.size ≤ 140737488351232) :
    Calls Try.prog 3 #[.slice a l.length c, .string s] w fun e w' => e = .returned (.bool true) ∧ Below w.heap.size w w' := by
  have HB := hide hb
  have HL := hide hl
  have HS : Hid (s.size ≤ 281474976702464) := hide (by omega)
  clear hb hl hs
  go_enter Try.func3, Try.ntmps3
  go_upto_region 3 with (first | (go_at_call 5; refine (hex_any _ _ _ l HB.out HL.out).mono ?_; rintro e w1 ⟨rfl, A1⟩; have B1 := hide A1; clear A1) | (go_at_call 6; refine (unhex_hex l _ HL.out).mono ?_; rintro e w2 ⟨a2, c2, rfl, A1, A2⟩; have S2 := hide A1; have B2 := hide A2; clear A1 A2))
  go_upto_region 5 with (first | (go_at_call 6; refine (unhex_any s _ HS.out).mono ?_; rintro e w3 ⟨a3, c3, rfl, A1, A2⟩; have S3 := hide A1; have B3 := hide A2; clear A1 A2) | (go_at_call 7; refine (refUnhex_any s _ HS.out).mono ?_; rintro e w4 ⟨a4, c4, rfl, A1, A2⟩; have S4 := hide A1; have B4 := hide A2; clear A1 A2))
  have T4 := hide (chain (chain (chain B1.out B2.out) B3.out) B4.out)
  have Y1 := hide (HB.out.later T4.out)
  have Y2 := hide (S2.out.later (chain B3.out B4.out))
  have Y3 := hide (S3.out.later B4.out)
  clear B1 B2 B3 B4 S2 S3 HB
  go_wp2_with (first | (go_at_call 8; refine (refHex_at _ _ _ l Y1.out HL.out).mono ?_; rintro e w5 ⟨rfl, A1⟩; have B5 := hide A1; clear A1) | (go_at_call 9; refine (same_yes _ _ _ l l (Y2.out.later B5.out) (Y1.out.later B5.out) rfl).mono ?_; rintro e w6 ⟨rfl, rfl⟩) | (go_at_call 9; refine (same_yes _ _ _ (unData s) (unData s) (Y3.out.later B5.out) (S4.out.later B5.out) rfl).mono ?_; rintro e w6 ⟨rfl, rfl⟩) | (go_at_call 10; refine (heads_any _).mono ?_; rintro e w7 ⟨rfl, A1⟩; have B7 := hide A1; clear A1))
  go_ret
  exact ⟨rfl, chain (chain T4.out B5.out) B7.out⟩
end Go.Proofs.Ytfgcpkbbneicfab
