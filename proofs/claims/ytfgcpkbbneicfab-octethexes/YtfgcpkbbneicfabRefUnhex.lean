/- What the document's own Unhex reads, whatever text it is given: the same. -/
import Derived.Test.YtfgcpkbbneicfabUnhexWalk
import Derived.Deep.RegionWith
import Derived.Deep.RegionHeld3
import Derived.Deep.CutRange
import Derived.Deep.DeepCutAuto
namespace Go.Proofs.Ytfgcpkbbneicfab
open Go.RowKit

theorem idx_str (s : ByteArray) (n : Nat) (i : Int) (hn : n < s.size) (hi : i = (n : Int)) (w : World) : (Instr.index 9 (.string s) (.int .i64 i)).run Try.prog w = .ok (.int .u8 (sb s n : Int)) w := by
  subst hi
  have h1 : (n : Int) < (s.size : Int) := by omega
  have h2 := sb_get s n hn
  simp [go_sem, h1, Try.underlying9]
  exact_mod_cast h2

theorem cell_one (w : World) (v : Value) (c : UInt8) (h : v = .int .u8 (c.toNat : Int)) :
    ∀ j u, (cellsOf [c])[j]? = some u → (w.alloc (.cells #[v] 5)).cell? ((⟨w.heap.size, 0, none⟩ : Addr).add j) = some u := by
  intro j u hu
  subst h
  match j, hu with
  | 0, hu =>
    simp [cellsOf] at hu
    subst hu
    rw [Addr.add_lit, World.cell?_alloc_new]
    rfl

theorem unL_take (s : ByteArray) (k : Nat) (h : 2 * k + 1 < s.size) : (unL s).take (k + 1) = (unL s).take k ++ [(16 * dv (sb s (2 * k)) + dv (sb s (2 * k + 1))).toUInt8] := by
  have hl : k < (unL s).length := by rw [unL_len]; omega
  rw [List.take_succ_eq_append_getElem hl]
  congr 2
  simp [unL]

theorem refDigit_same (r : Nat) (hr : r < 256) (w : World) : Calls Try.prog 13 #[.int .u8 r] w fun e w' => e = .returned (.int .u8 (dv r)) ∧ w = w' :=
  (refDigit_any r hr w).mono fun _ _ h => ⟨h.1, h.2.symm⟩

theorem good_two {s : ByteArray} {k : Nat} (h : good s (2 * k)) (h1 : dv (sb s (2 * k)) < 16) (h2 : dv (sb s (2 * k + 1)) < 16) : good s (2 * (k + 1)) := by
  intro i hi
  rcases Nat.lt_or_ge i (2 * k) with a | a
  · exact h i a
  · rcases Nat.lt_or_ge i (2 * k + 1) with b | b
    · have e : i = 2 * k := by omega
      rw [e]
      exact h1
    · have e : i = 2 * k + 1 := by omega
      rw [e]
      exact h2

theorem un_own {w w' : World} {s : ByteArray} {v : Value} (he : s.size % 2 = 0) (hg : good s s.size) (hown : w'.ownsRow w.heap.size 5 1 v (s.size / 2) (cellsOf (unL s))) (hb : Below w.heap.size w w') :
    ∃ a' c', (Ending.returned (.tuple #[v, .int .i64 0])) = .returned (.tuple #[.slice a' (unData s).length c', .int .i64 (unErr s)]) ∧ Bytes w' (.slice a' (unData s).length c') (unData s) ∧ Below w.heap.size w w' := by
  have hE : unErr s = 0 := by unfold unErr; rw [if_pos ⟨he, hg⟩]
  have hD : unData s = unL s := by unfold unData; rw [if_pos ⟨he, hg⟩]
  have h2 := (ownsRow_bytes hown).2.plain
  rw [hE, hD]
  have h3 := h2
  obtain ⟨a, c, rfl, _⟩ := h3
  exact ⟨a, c, rfl, h2, hb⟩

set_option maxRecDepth 100000 in
set_option maxHeartbeats 2000000 in
theorem refUnhex_even (s : ByteArray) (w : World) (hs : s.size ≤ 281474976702464) (he : s.size % 2 = 0) :
    Calls Try.prog 7 #[.string s] w fun e w' => ∃ a' c', e = .returned (.tuple #[.slice a' (unData s).length c', .int .i64 (unErr s)]) ∧ Bytes w' (.slice a' (unData s).length c') (unData s) ∧ Below w.heap.size w w' := by
  obtain ⟨i0, hi, hz0, hz1, hz2⟩ := info_parts info_u8
  have hev : ((s.size : Int) % 2) = 0 := by omega
  go_enter Try.func7, Try.ntmps7
  go_wp2
  go_loopw [4, 5] (fun v i wr => ∃ k : Nat, 2 * k ≤ s.size ∧ i = .int .i64 (2 * (k : Int)) ∧ wr.ownsRow w.heap.size 5 1 v k (cellsOf ((unL s).take k)) ∧ good s (2 * k) ∧ Below w.heap.size w wr) (fun _ i _ => s.size - (intOf i).toNat)
  case atStart =>
    refine ⟨0, Nat.zero_le _, rfl, ?_, fun i hi => by omega, Below.refl _ _⟩
    exact ⟨rfl, .inl ⟨rfl, rfl⟩⟩
  case round =>
    obtain ⟨k, hk, rfl, hown, hg, hbel⟩ := hrel
    clear hev
    have hsz := hbel.size
    by_cases hlt : 2 * k < s.size
    · have hx1 := idx_str s (2 * k) (2 * (k : Int)) hlt (by omega)
      have hx2 := idx_str s (2 * k + 1) (2 * (k : Int) + 1) (by omega) (by omega)
      have b1 := sb_lt s (2 * k)
      have b2 := sb_lt s (2 * k + 1)
      have HG := hide hg
      have HNX := hide (unL_take s k (by omega))
      have k1 := hide (fun w => refDigit_same (sb s (2 * k)) b1 w)
      have k2 := hide (fun w => refDigit_same (sb s (2 * k + 1)) b2 w)
      have d1 := dv_le (sb s (2 * k))
      have d2 := dv_le (sb s (2 * k + 1))
      have HBE := hide hbel
      have HN1 := hide (fun (c : dv (sb s (2 * k)) = 16) => un_no (w := w) (s := s) (fun h => by have := h.2 (2 * k) hlt; omega) hbel)
      have HN2 := hide (fun (c : dv (sb s (2 * k + 1)) = 16) => un_no (w := w) (s := s) (fun h => by have := h.2 (2 * k + 1) (by omega); omega) hbel)
      have HG2 := hide (fun h1 h2 => good_two (s := s) (k := k) hg h1 h2)
      clear hg hbel HG
      generalize sb s (2 * k) = x1 at *
      generalize sb s (2 * k + 1) = x2 at *
      generalize dv x1 = y1 at *
      generalize dv x2 = y2 at *
      by_cases c1 : y1 = 16
      · subst c1
        have HB := hide (HN1.out rfl)
        clear hown HNX HBE HN1 HN2 HG2
        go_upto_region 8 with (go_at_call 13; refine (k1.out _).mono ?_; rintro e w2 ⟨rfl, rfl⟩)
        go_wp2_with (go_at_call 13; refine (k2.out _).mono ?_; rintro e w2 ⟨rfl, rfl⟩)
        go_ret2
        exact HB.out
      · by_cases c2 : y2 = 16
        · subst c2
          have HB := hide (HN2.out rfl)
          clear hown HNX HBE HN1 HN2 HG2
          go_upto_region 8 with (go_at_call 13; refine (k1.out _).mono ?_; rintro e w2 ⟨rfl, rfl⟩)
          go_wp2_with (go_at_call 13; refine (k2.out _).mono ?_; rintro e w2 ⟨rfl, rfl⟩)
          go_ret2
          exact HB.out
        · have hy1 : y1 < 16 := by omega
          have hy2 : y2 < 16 := by omega
          have HGD := hide (HG2.out hy1 hy2)
          have hn1 : ¬ (y1 : Int) = 16 := by omega
          have hn2 : ¬ (y2 : Int) = 16 := by omega
          have ev : (16 * y1 + y2).toUInt8.toNat = 16 * y1 + y2 := by rw [Nat.toUInt8_eq, UInt8.toNat_ofNat']; omega
          have HEV := hide ev
          generalize (16 * y1 + y2).toUInt8 = c' at *
          clear HN1 HN2 HG2 d1 d2 c1 c2 ev
          go_upto_region 8 with (go_at_call 13; refine (k1.out _).mono ?_; rintro e w2 ⟨rfl, rfl⟩)
          go_upto_region 11 with (go_at_call 13; refine (k2.out _).mono ?_; rintro e w2 ⟨rfl, rfl⟩)
          go_wp2_with (at_builtin; refine wpList_append_own _ rfl _ _ 22 rfl w.heap.size 5 i0 (.int .u8 0) 1 1 Try.underlying22 hi hz0 hz1 hz2 rfl (by decide) _ _ _ rfl (hown.alloc _) ⟨wr.heap.size, 0, none⟩ 1 1 (cellsOf [c']) rfl rfl ?c1 (cellsOf_one _) ?c3 ?c4 ?c5 ?_)
          case c1 => exact cell_one _ _ _ (by rw [HEV.out]; congr 1; omega)
          case c3 => unfold maxLen; omega
          case c4 => omega
          case c5 => simp; omega
          · rename_i hor
            simp [hn1, hn2] at hor
          · intro v' w2 hown' hgrow _
            have R : Hid (w2.ownsRow w.heap.size 5 1 v' (k + 1) (cellsOf ((unL s).take (k + 1))) ∧ Below w.heap.size w w2) := by
              refine ⟨?_, ?_⟩
              · rw [HNX.out, cellsOf_cat]
                exact hown'
              · exact (HBE.out.alloc hsz _).grown hgrow (by simp; omega) (fun k hk => (hown.lt k hk).1)
            clear hown' hgrow hown
            go_wp2
            go_roundw
            case rel => exact ⟨k + 1, by omega, by go_num, R.out.1, HGD.out, R.out.2⟩
            case measure => simp [intOf]; omega
    · have e : 2 * k = s.size := by omega
      rw [e] at hg
      have e2 : (unL s).take k = unL s := List.take_of_length_le (by rw [unL_len]; omega)
      have e3 : k = s.size / 2 := by omega
      rw [e2] at hown
      have HB : Hid _ := hide (un_own he hg (e3 ▸ hown) hbel)
      clear hown hg hbel
      go_wp2
      go_ret2
      exact HB.out

set_option maxRecDepth 100000 in
theorem refUnhex_odd (s : ByteArray) (w : World) (hs : s.size ≤ 281474976702464) (he : s.size % 2 = 1) :
    Calls Try.prog 7 #[.string s] w fun e w' => ∃ a' c', e = .returned (.tuple #[.slice a' (unData s).length c', .int .i64 (unErr s)]) ∧ Bytes w' (.slice a' (unData s).length c') (unData s) ∧ Below w.heap.size w w' := by
  have HB := hide (un_no (w := w) (w' := w) (s := s) (fun h => by omega) (Below.refl _ _))
  have hev : ((s.size : Int) % 2) = 1 := by omega
  go_enter Try.func7, Try.ntmps7
  go_wp2
  go_ret2
  exact HB.out

theorem refUnhex_any (s : ByteArray) (w : World) (hs : s.size ≤ 281474976702464) :
    Calls Try.prog 7 #[.string s] w fun e w' => ∃ a' c', e = .returned (.tuple #[.slice a' (unData s).length c', .int .i64 (unErr s)]) ∧ Bytes w' (.slice a' (unData s).length c') (unData s) ∧ Below w.heap.size w w' := by
  rcases Nat.mod_two_eq_zero_or_one s.size with h | h
  · exact refUnhex_even s w hs h
  · exact refUnhex_odd s w hs h
end Go.Proofs.Ytfgcpkbbneicfab
