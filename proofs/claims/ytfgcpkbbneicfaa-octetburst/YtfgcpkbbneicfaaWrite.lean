/- What Uvarint, Varint and Text write: the document's bytes, in new memory. -/
import Derived.Test.YtfgcpkbbneicfaaHeads
import Derived.Lib.AppendStr
namespace Go.Proofs.Ytfgcpkbbneicfaa
open Go.RowKit
open Go.Lib (uvarint uvarint_small uvarint_big uvarint_length64 uvarint_pos)

theorem cellsOf_append (l m : List UInt8) : cellsOf (l ++ m) = cellsOf l ++ cellsOf m := by simp [cellsOf]

theorem byte_more (x : Nat) : bits .or .u8 ((x : Int) % 256) 128 = (((x % 128 + 128).toUInt8.toNat : Nat) : Int) := by
  rw [Lib.u8_or128_any _ (by omega) (by omega)]
  have : (x % 128 + 128).toUInt8.toNat = x % 128 + 128 := by
    rw [Nat.toUInt8_eq, UInt8.toNat_ofNat']
    omega
  rw [this]
  omega

theorem byte_last (x : Nat) (h : x < 128) : (x : Int) = ((x.toUInt8.toNat : Nat) : Int) := by
  have : x.toUInt8.toNat = x := by
    rw [Nat.toUInt8_eq, UInt8.toNat_ofNat']
    omega
  rw [this]

/-- The new cell of an append of one byte, as cells. -/
theorem cell_new (w : World) (v : Value) (c : UInt8) (h : v = .int .u8 (c.toNat : Int)) :
    ∀ j u, (cellsOf [c])[j]? = some u → (w.alloc (.cells #[v] 5)).cell? ((⟨w.heap.size, 0, none⟩ : Addr).add j) = some u := by
  intro j u hu
  subst h
  match j, hu with
  | 0, hu =>
    simp [cellsOf] at hu
    subst hu
    rw [Addr.add_lit, World.cell?_alloc_new]
    rfl

theorem ref_more (x : Nat) : ((x : Int) % 128 + 128) = (((x % 128 + 128).toUInt8.toNat : Nat) : Int) := by
  have : (x % 128 + 128).toUInt8.toNat = x % 128 + 128 := by
    rw [Nat.toUInt8_eq, UInt8.toNat_ofNat']
    omega
  rw [this]
  omega

set_option maxRecDepth 100000 in
set_option maxHeartbeats 1000000 in
theorem uvarint_any (u : Nat) (hu : u < 18446744073709551616) (w : World) :
    Calls Try.prog 9 #[.int .u64 u] w fun e w' => ∃ v, e = .returned v ∧ w'.ownsRow w.heap.size 5 1 v (uvarint u).length (cellsOf (uvarint u)) ∧ Below w.heap.size w w' := by
  obtain ⟨i0, hi, hz0, hz1, hz2⟩ := info_parts info_u8
  have HL : Hid ((uvarint u).length ≤ 10) := uvarint_length64 hu
  go_enter Try.func9, Try.ntmps9
  go_wp2
  go_loopw [0, 3] (fun t v wr => ∃ (x : Nat) (pre : List UInt8), t = .int .u64 x ∧ x < 18446744073709551616 ∧ pre ++ uvarint x = uvarint u ∧ wr.ownsRow w.heap.size 5 1 v pre.length (cellsOf pre) ∧ Below w.heap.size w wr) (fun t _ _ => (intOf t).toNat)
  case atStart => exact ⟨u, [], rfl, hu, rfl, World.ownsRow_nil _ _ _ _, Below.refl _ _⟩
  case round =>
    obtain ⟨x, pre, rfl, hx, hpre, hown, hbel⟩ := hrel
    have hlen : pre.length + (uvarint x).length ≤ 10 := by
      have := HL.out
      rw [← hpre, List.length_append] at this
      exact this
    have hpos := uvarint_pos x
    have hsz := hbel.size
    by_cases h128 : 128 ≤ x
    · obtain ⟨c, hc⟩ : ∃ c, c = (x % 128 + 128).toUInt8 := ⟨_, rfl⟩
      have hb := byte_more x
      rw [← hc] at hb
      have hp : (pre ++ [c]) ++ uvarint (x / 128) = uvarint u := by
        rw [← hpre, uvarint_big h128, hc, List.append_assoc]; rfl
      have HB := hide hb
      have HP := hide hp
      have HW := hide hbel
      clear hpre hbel hb hp hc
      go_wp2_with (at_builtin; refine wpList_append_own _ rfl _ _ 23 rfl w.heap.size 5 i0 (.int .u8 0) 1 1 Try.underlying23 hi hz0 hz1 hz2 rfl (by decide) _ _ _ rfl (hown.alloc _) ⟨wr.heap.size, 0, none⟩ 1 1 (cellsOf [c]) rfl rfl ?c1 (cellsOf_one _) ?c3 ?c4 ?c5 ?_)
      case c1 => exact cell_new _ _ _ (congrArg (Value.int .u8) HB.out)
      case c3 => unfold maxLen; omega
      case c4 => omega
      case c5 => simp; omega
      · intro v' w1 hown' hgrow _
        have R : Hid (w1.ownsRow w.heap.size 5 1 v' (pre ++ [c]).length (cellsOf (pre ++ [c])) ∧ Below w.heap.size w w1) := by
          refine ⟨?_, ?_⟩
          · rw [cellsOf_append, List.length_append]; exact hown'
          · exact (HW.out.alloc hsz _).grown hgrow (by simp; omega) (fun k hk => (hown.lt k hk).1)
        clear hown' hgrow hown
        go_wp2
        go_roundw
        case rel => exact ⟨x / 128, pre ++ [c], by go_num, by omega, HP.out, R.out.1, R.out.2⟩
        case measure => simp [intOf]; omega
    · obtain ⟨c, hc⟩ : ∃ c, c = x.toUInt8 := ⟨_, rfl⟩
      have hb := byte_last x (by omega)
      rw [← hc] at hb
      have hp : pre ++ [c] = uvarint u := by
        rw [← hpre, uvarint_small (by omega), hc]
      have HB := hide hb
      have HP := hide hp
      have HW := hide hbel
      clear hpre hbel hb hp hc
      go_wp2_with (at_builtin; refine wpList_append_own _ rfl _ _ 23 rfl w.heap.size 5 i0 (.int .u8 0) 1 1 Try.underlying23 hi hz0 hz1 hz2 rfl (by decide) _ _ _ rfl (hown.alloc _) ⟨wr.heap.size, 0, none⟩ 1 1 (cellsOf [c]) rfl rfl ?c1 (cellsOf_one _) ?c3 ?c4 ?c5 ?_)
      case c1 => exact cell_new _ _ _ (congrArg (Value.int .u8) HB.out)
      case c3 => unfold maxLen; omega
      case c4 => omega
      case c5 => simp; omega
      · intro v' w1 hown' hgrow _
        have R : Hid (w1.ownsRow w.heap.size 5 1 v' (pre ++ [c]).length (cellsOf (pre ++ [c])) ∧ Below w.heap.size w w1) := by
          refine ⟨?_, ?_⟩
          · rw [cellsOf_append, List.length_append]; exact hown'
          · exact (HW.out.alloc hsz _).grown hgrow (by simp; omega) (fun k hk => (hown.lt k hk).1)
        clear hown' hgrow hown
        go_wp2
        go_ret
        rw [← HP.out]
        exact ⟨v', rfl, R.out.1, R.out.2⟩
set_option maxRecDepth 100000 in
set_option maxHeartbeats 1000000 in
theorem refUvarint_any (u : Nat) (hu : u < 18446744073709551616) (w : World) :
    Calls Try.prog 13 #[.int .u64 u] w fun e w' => ∃ v, e = .returned v ∧ w'.ownsRow w.heap.size 5 1 v (uvarint u).length (cellsOf (uvarint u)) ∧ Below w.heap.size w w' := by
  obtain ⟨i0, hi, hz0, hz1, hz2⟩ := info_parts info_u8
  have HL : Hid ((uvarint u).length ≤ 10) := uvarint_length64 hu
  go_enter Try.func13, Try.ntmps13
  go_wp2
  go_loopw [0, 3] (fun t v wr => ∃ (x : Nat) (pre : List UInt8), t = .int .u64 x ∧ x < 18446744073709551616 ∧ pre ++ uvarint x = uvarint u ∧ wr.ownsRow w.heap.size 5 1 v pre.length (cellsOf pre) ∧ Below w.heap.size w wr) (fun t _ _ => (intOf t).toNat)
  case atStart => exact ⟨u, [], rfl, hu, rfl, World.ownsRow_nil _ _ _ _, Below.refl _ _⟩
  case round =>
    obtain ⟨x, pre, rfl, hx, hpre, hown, hbel⟩ := hrel
    have hlen : pre.length + (uvarint x).length ≤ 10 := by
      have := HL.out
      rw [← hpre, List.length_append] at this
      exact this
    have hpos := uvarint_pos x
    have hsz := hbel.size
    by_cases h128 : 128 ≤ x
    · obtain ⟨c, hc⟩ : ∃ c, c = (x % 128 + 128).toUInt8 := ⟨_, rfl⟩
      have hb := ref_more x
      rw [← hc] at hb
      have hp : (pre ++ [c]) ++ uvarint (x / 128) = uvarint u := by
        rw [← hpre, uvarint_big h128, hc, List.append_assoc]; rfl
      have HB := hide hb
      have HP := hide hp
      have HW := hide hbel
      clear hpre hbel hb hp hc
      go_wp2_with (at_builtin; refine wpList_append_own _ rfl _ _ 23 rfl w.heap.size 5 i0 (.int .u8 0) 1 1 Try.underlying23 hi hz0 hz1 hz2 rfl (by decide) _ _ _ rfl (hown.alloc _) ⟨wr.heap.size, 0, none⟩ 1 1 (cellsOf [c]) rfl rfl ?c1 (cellsOf_one _) ?c3 ?c4 ?c5 ?_)
      case c1 => exact cell_new _ _ _ (congrArg (Value.int .u8) HB.out)
      case c3 => unfold maxLen; omega
      case c4 => omega
      case c5 => simp; omega
      · intro v' w1 hown' hgrow _
        have R : Hid (w1.ownsRow w.heap.size 5 1 v' (pre ++ [c]).length (cellsOf (pre ++ [c])) ∧ Below w.heap.size w w1) := by
          refine ⟨?_, ?_⟩
          · rw [cellsOf_append, List.length_append]; exact hown'
          · exact (HW.out.alloc hsz _).grown hgrow (by simp; omega) (fun k hk => (hown.lt k hk).1)
        clear hown' hgrow hown
        go_wp2
        go_roundw
        case rel => exact ⟨x / 128, pre ++ [c], by go_num, by omega, HP.out, R.out.1, R.out.2⟩
        case measure => simp [intOf]; omega
    · obtain ⟨c, hc⟩ : ∃ c, c = x.toUInt8 := ⟨_, rfl⟩
      have hb := byte_last x (by omega)
      rw [← hc] at hb
      have hp : pre ++ [c] = uvarint u := by
        rw [← hpre, uvarint_small (by omega), hc]
      have HB := hide hb
      have HP := hide hp
      have HW := hide hbel
      clear hpre hbel hb hp hc
      go_wp2_with (at_builtin; refine wpList_append_own _ rfl _ _ 23 rfl w.heap.size 5 i0 (.int .u8 0) 1 1 Try.underlying23 hi hz0 hz1 hz2 rfl (by decide) _ _ _ rfl (hown.alloc _) ⟨wr.heap.size, 0, none⟩ 1 1 (cellsOf [c]) rfl rfl ?c1 (cellsOf_one _) ?c3 ?c4 ?c5 ?_)
      case c1 => exact cell_new _ _ _ (congrArg (Value.int .u8) HB.out)
      case c3 => unfold maxLen; omega
      case c4 => omega
      case c5 => simp; omega
      · intro v' w1 hown' hgrow _
        have R : Hid (w1.ownsRow w.heap.size 5 1 v' (pre ++ [c]).length (cellsOf (pre ++ [c])) ∧ Below w.heap.size w w1) := by
          refine ⟨?_, ?_⟩
          · rw [cellsOf_append, List.length_append]; exact hown'
          · exact (HW.out.alloc hsz _).grown hgrow (by simp; omega) (fun k hk => (hown.lt k hk).1)
        clear hown' hgrow hown
        go_wp2
        go_ret
        rw [← HP.out]
        exact ⟨v', rfl, R.out.1, R.out.2⟩

/-- The number of a varint. -/
def zz (v : Int) : Nat := if 0 ≤ v then (2 * v).toNat else (-2 * v - 1).toNat

theorem fold_bits (v : Int) (h0 : -9223372036854775808 ≤ v) (h1 : v ≤ 9223372036854775807) :
    bits .xor .u64 (IntKind.u64.wrap (IntKind.u64.wrap v * 2)) (IntKind.u64.wrap (v / 9223372036854775808)) = ((zz v : Nat) : Int) := by
  unfold zz
  simp only [IntKind.wrap_u64]
  split
  · have e1 : (v % 18446744073709551616 * 2) % 18446744073709551616 = (((2 * v).toNat : Nat) : Int) := by omega
    have e2 : v / 9223372036854775808 % 18446744073709551616 = ((0 : Nat) : Int) := by omega
    rw [e1, e2, u64_xor_nat _ _ (by omega) (by omega), Nat.xor_zero]
  · have e1 : (v % 18446744073709551616 * 2) % 18446744073709551616 = (((2 * v + 18446744073709551616).toNat : Nat) : Int) := by omega
    have e2 : v / 9223372036854775808 % 18446744073709551616 = ((18446744073709551615 : Nat) : Int) := by omega
    rw [e1, e2, u64_xor_nat _ _ (by omega) (by omega), Nat.xor_comm]
    have := Lib.xor_ones64 (2 * v + 18446744073709551616).toNat (by omega)
    have e3 : (18446744073709551615 : Nat) = 2 ^ 64 - 1 := by decide
    rw [e3, this]
    omega

theorem zz_lt (v : Int) (h0 : -9223372036854775808 ≤ v) (h1 : v ≤ 9223372036854775807) : zz v < 18446744073709551616 := by
  unfold zz
  split <;> omega

theorem fold_any (v : Int) (h0 : -9223372036854775808 ≤ v) (h1 : v ≤ 9223372036854775807) (w : World) :
    Calls Try.prog 37 #[.int .i64 v] w fun e w' => e = .returned (.int .u64 (zz v)) ∧ w' = w := by
  go_enter Try.func37, Try.ntmps37
  go_wp2
  go_ret
  exact ⟨ret_int (fold_bits v h0 h1), rfl⟩

theorem varint_any (v : Int) (h0 : -9223372036854775808 ≤ v) (h1 : v ≤ 9223372036854775807) (w : World) :
    Calls Try.prog 10 #[.int .i64 v] w fun e w' => ∃ v', e = .returned v' ∧ w'.ownsRow w.heap.size 5 1 v' (uvarint (zz v)).length (cellsOf (uvarint (zz v))) ∧ Below w.heap.size w w' := by
  go_enter Try.func10, Try.ntmps10
  go_wp2_with (first | (go_at_call 37; refine (fold_any _ h0 h1 _).mono ?_; rintro e w1 ⟨rfl, rfl⟩) | (go_at_call 9; refine (uvarint_any _ (zz_lt v h0 h1) _).mono ?_; rintro e w1 ⟨v1, rfl, A1, A2⟩; have B1 := hide A1; have B2 := hide A2; clear A1 A2))
  go_ret
  exact ⟨_, rfl, B1.out, B2.out⟩

theorem refUvarint_at (x : Int) (u : Nat) (e : x = u) (hu : u < 18446744073709551616) (w : World) :
    Calls Try.prog 13 #[.int .u64 x] w fun e w' => ∃ v, e = .returned v ∧ w'.ownsRow w.heap.size 5 1 v (uvarint u).length (cellsOf (uvarint u)) ∧ Below w.heap.size w w' := by
  subst e
  exact refUvarint_any u hu w

theorem uvarint_at (x : Int) (u : Nat) (e : x = u) (hu : u < 18446744073709551616) (w : World) :
    Calls Try.prog 9 #[.int .u64 x] w fun e w' => ∃ v, e = .returned v ∧ w'.ownsRow w.heap.size 5 1 v (uvarint u).length (cellsOf (uvarint u)) ∧ Below w.heap.size w w' := by
  subst e
  exact uvarint_any u hu w

set_option maxRecDepth 100000 in
theorem refVarint_any (v : Int) (h0 : -9223372036854775808 ≤ v) (h1 : v ≤ 9223372036854775807) (w : World) :
    Calls Try.prog 14 #[.int .i64 v] w fun e w' => ∃ v', e = .returned v' ∧ w'.ownsRow w.heap.size 5 1 v' (uvarint (zz v)).length (cellsOf (uvarint (zz v))) ∧ Below w.heap.size w w' := by
  have hz := zz_lt v h0 h1
  by_cases hv : v < 0
  · have HE : Hid (-(v + 1) * 2 + 1 = ((zz v : Nat) : Int)) := by
      show _ = _
      unfold zz
      rw [if_neg (by omega)]
      omega
    have HZ := hide hz
    clear hz
    go_enter Try.func14, Try.ntmps14
    go_wp2_with (go_at_call 13; refine (refUvarint_at _ (zz v) HE.out HZ.out _).mono ?_; rintro e w1 ⟨v1, rfl, A1, A2⟩; have B1 := hide A1; have B2 := hide A2; clear A1 A2)
    go_ret
    exact ⟨_, rfl, B1.out, B2.out⟩
  · have HE : Hid (v * 2 = ((zz v : Nat) : Int)) := by
      show _ = _
      unfold zz
      rw [if_pos (by omega)]
      omega
    have HZ := hide hz
    clear hz
    go_enter Try.func14, Try.ntmps14
    go_wp2_with (go_at_call 13; refine (refUvarint_at _ (zz v) HE.out HZ.out _).mono ?_; rintro e w1 ⟨v1, rfl, A1, A2⟩; have B1 := hide A1; have B2 := hide A2; clear A1 A2)
    go_ret
    exact ⟨_, rfl, B1.out, B2.out⟩

/-- A text's bytes: how many, and these. -/
def txt (s : ByteArray) : List UInt8 := uvarint s.size ++ s.data.toList

theorem strCells_eq (s : ByteArray) : Lib.strCells s = cellsOf s.data.toList := rfl
theorem size_eq (s : ByteArray) : s.data.toList.length = s.size := by rw [Array.length_toList]; rfl

theorem ownsRow_len {w : World} {base : Nat} {v : Value} {n m : Nat} {xs : List Value} (h : w.ownsRow base 5 1 v n xs) (e : n = m) : w.ownsRow base 5 1 v m xs := by
  subst e
  exact h

set_option maxRecDepth 100000 in
set_option maxHeartbeats 1000000 in
theorem text_any (s : ByteArray) (hs : s.size ≤ 140737488351232) (w : World) :
    Calls Try.prog 11 #[.string s] w fun e w' => ∃ v, e = .returned v ∧ w'.ownsRow w.heap.size 5 1 v (txt s).length (cellsOf (txt s)) ∧ Below w.heap.size w w' := by
  obtain ⟨i0, hi, hz0, hz1, hz2⟩ := info_parts info_u8
  have hL : (uvarint s.size).length ≤ 10 := uvarint_length64 (by omega)
  go_enter Try.func11, Try.ntmps11
  go_wp2_with (first | (go_at_call 9; refine (uvarint_at _ s.size rfl (by omega) _).mono ?_; rintro e w1 ⟨v1, rfl, A1, A2⟩; have B1 := hide A1; have B2 := hide A2; clear A1 A2) | (at_builtin; refine Lib.wpList_append_own_string _ rfl (.tmp 6) (.tmp 7) 23 9 rfl w.heap.size 5 i0 Try.underlying23 Try.underlying9 hi hz0 hz1 hz2 _ _ _ rfl B1.out s rfl (by unfold maxLen; omega) (by omega) (B2.out.size) ?_))
  intro v' w2 hown hgrow _
  have R : Hid (w2.ownsRow w.heap.size 5 1 v' (txt s).length (cellsOf (txt s)) ∧ Below w.heap.size w w2) := by
    refine ⟨?_, ?_⟩
    · rw [strCells_eq, ← cellsOf_append] at hown
      exact ownsRow_len hown (by unfold txt; rw [List.length_append, size_eq])
    · exact B2.out.grown hgrow B2.out.size (fun k hk => (B1.out.lt k hk).1)
  clear hown hgrow
  go_wp2
  go_ret
  exact ⟨_, rfl, R.out.1, R.out.2⟩

set_option maxRecDepth 100000 in
set_option maxHeartbeats 1000000 in
theorem refText_any (s : ByteArray) (hs : s.size ≤ 140737488351232) (w : World) :
    Calls Try.prog 15 #[.string s] w fun e w' => ∃ v, e = .returned v ∧ w'.ownsRow w.heap.size 5 1 v (txt s).length (cellsOf (txt s)) ∧ Below w.heap.size w w' := by
  obtain ⟨i0, hi, hz0, hz1, hz2⟩ := info_parts info_u8
  have hL : (uvarint s.size).length ≤ 10 := uvarint_length64 (by omega)
  go_enter Try.func15, Try.ntmps15
  go_wp2_with (first | (go_at_call 13; refine (refUvarint_at _ s.size rfl (by omega) _).mono ?_; rintro e w1 ⟨v1, rfl, A1, A2⟩; have B1 := hide A1; have B2 := hide A2; clear A1 A2) | (at_builtin; refine Lib.wpList_append_own_string _ rfl (.tmp 6) (.tmp 7) 23 9 rfl w.heap.size 5 i0 Try.underlying23 Try.underlying9 hi hz0 hz1 hz2 _ _ _ rfl B1.out s rfl (by unfold maxLen; omega) (by omega) (B2.out.size) ?_))
  intro v' w2 hown hgrow _
  have R : Hid (w2.ownsRow w.heap.size 5 1 v' (txt s).length (cellsOf (txt s)) ∧ Below w.heap.size w w2) := by
    refine ⟨?_, ?_⟩
    · rw [strCells_eq, ← cellsOf_append] at hown
      exact ownsRow_len hown (by unfold txt; rw [List.length_append, size_eq])
    · exact B2.out.grown hgrow B2.out.size (fun k hk => (B1.out.lt k hk).1)
  clear hown hgrow
  go_wp2
  go_ret
  exact ⟨_, rfl, R.out.1, R.out.2⟩

end Go.Proofs.Ytfgcpkbbneicfaa
