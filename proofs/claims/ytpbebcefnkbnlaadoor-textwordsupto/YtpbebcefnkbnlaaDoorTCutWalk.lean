/- The walk of the statement on where words stand. -/
import Derived.Test.YtpbebcefnkbnlaaDoorTCutMath
namespace Go.Proofs.YtpbebcefnkbnlaaDoor
open Go.RowKit

theorem wordCells_at : ∀ (n : Int) (x : List Wd) (k : Nat) (h : k < x.length), (wordCells n x)[k * 4]? = some (.string (str (x[k]'h).text)) ∧ (wordCells n x)[k * 4 + 1]? = some (.int .i64 (x[k]'h).off) ∧ (wordCells n x)[k * 4 + 2]? = some (.int .i64 n) ∧ (wordCells n x)[k * 4 + 3]? = some (.int .i64 (x[k]'h).col)
  | _, [], k, h => absurd h (by simp)
  | n, c :: r, 0, _ => ⟨rfl, rfl, rfl, rfl⟩
  | n, c :: r, k + 1, h => by
    have := wordCells_at n r k (by simpa using h)
    have e : wordCells n (c :: r) = [.string (str c.text), .int .i64 c.off, .int .i64 n, .int .i64 c.col] ++ wordCells n r := rfl
    have e1 : (k + 1) * 4 = k * 4 + 4 := by omega
    rw [e, e1]
    exact this

/-- What text.Words answers, cell by cell. -/
theorem words_cells (s : ByteArray) (hs : s.size ≤ 1048576) (n : Int) (w : World) :
    Calls Tryd.prog 22 #[.string s, .int .i64 n] w fun e w' => ∃ a c, e = .returned (.slice a (wds 0 0 false s.data.toList).length c) ∧
      Hid (∀ k (h : k < (wds 0 0 false s.data.toList).length), ∃ g, a = some ⟨g, 0, none⟩ ∧ w'.cell? ⟨g, k * 4, none⟩ = some (.string (str ((wds 0 0 false s.data.toList)[k]'h).text)) ∧ w'.cell? ⟨g, k * 4 + 1, none⟩ = some (.int .i64 ((wds 0 0 false s.data.toList)[k]'h).off) ∧ w'.cell? ⟨g, k * 4 + 2, none⟩ = some (.int .i64 n) ∧ w'.cell? ⟨g, k * 4 + 3, none⟩ = some (.int .i64 ((wds 0 0 false s.data.toList)[k]'h).col)) ∧ Below w.heap.size w w' := by
  refine (words_k s hs n w).mono ?_
  rintro e w' ⟨v, rfl, h1, hb⟩
  obtain ⟨a, c, rfl⟩ := row_slice h1
  refine ⟨a, c, rfl, fun k hk => ?_, hb⟩
  obtain ⟨M, hM⟩ : ∃ M, (wds 0 0 false s.data.toList).length = M + 1 := ⟨_, (Nat.sub_add_cancel (by omega : 1 ≤ (wds 0 0 false s.data.toList).length)).symm⟩
  obtain ⟨q1, q2, q3, q4⟩ := wordCells_at n _ k hk
  rw [hM] at h1
  obtain ⟨g1, c1, e⟩ := ownsRow_succ h1
  cases e
  exact ⟨g1, rfl, rowCell h1 _ _ q1, rowCell h1 _ _ q2, rowCell h1 _ _ q3, rowCell h1 _ _ q4⟩

set_option maxRecDepth 100000 in
set_option maxHeartbeats 4000000 in
theorem textCut_walk (s : ByteArray) (hs : s.size ≤ 1048576) (n : Int) (w : World) (ht : Tabs w) :
    Calls Tryd.prog 8 #[.string s, .int .i64 n] w fun e w' => e = .returned (.bool true) ∧ Below w.heap.size w w' := by
  have hlen : s.data.toList.length = s.size := by rw [Array.length_toList]; rfl
  have hW := words_cells s hs n w
  have hcut := cut_all s
  have hML : (wds 0 0 false s.data.toList).length ≤ s.size := by rw [← hlen]; exact wds_len _ _ _ _
  generalize wds 0 0 false s.data.toList = x at *
  obtain ⟨M, hM⟩ : ∃ M, x.length = M := ⟨_, rfl⟩
  have hW : Calls Tryd.prog 22 #[.string s, .int .i64 n] w fun e w' => ∃ a c, e = .returned (.slice a M c) ∧
      Hid (∀ k (h : k < x.length), ∃ g, a = some ⟨g, 0, none⟩ ∧ w'.cell? ⟨g, k * 4, none⟩ = some (.string (str (x[k]'h).text)) ∧ w'.cell? ⟨g, k * 4 + 1, none⟩ = some (.int .i64 (x[k]'h).off)) ∧ Below w.heap.size w w' := by
    refine hW.mono ?_
    rintro e w' ⟨a, c, rfl, h, hb⟩
    exact ⟨a, c, by rw [hM], fun k hk => by obtain ⟨g, e, h1, h2, _⟩ := h k hk; exact ⟨g, e, h1, h2⟩, hb⟩
  rw [hM] at hML
  have hal := alive_k
  have HCUT := hide hcut
  clear hcut
  go_enter Tryd.func8, Tryd.ntmps8
  go_wp2_with (go_at_call 22; refine hW.mono ?_; rintro e w1 ⟨a, cp, rfl, HC, b1⟩)
  clear hW
  go_loopw [6, 7, 8, 9, 10, 11] (fun va vi _ _ _ _ wr => ∃ at0 i : Nat, va = .int .i64 (at0 : Int) ∧ vi = .int .i64 (i : Int) ∧ i ≤ M ∧ at0 ≤ s.size ∧ Hid (CutOK s at0 (x.drop i)) ∧ wr = w1) (fun _ v _ _ _ _ _ => M + 1 - (Lib.intOf v).toNat)
  case atStart => exact ⟨0, 0, rfl, rfl, Nat.zero_le _, Nat.zero_le _, by simpa using HCUT, rfl⟩
  case round =>
    obtain ⟨at0, i, rfl, rfl, hiM, hat, HK, rfl⟩ := hrel
    have t1 := ht.below b1
    by_cases hlt : i < M
    · have hk := HK.out
      rw [List.drop_eq_getElem_cons (by omega)] at hk
      obtain ⟨k1, k2, k3, k4, k5, k6, k7⟩ := hk
      obtain ⟨g, rfl, d1, d2⟩ := HC.out i (by omega)
      generalize x[i] = wx at *
      have hex := extract_str s wx.off (wx.off + wx.text.length)
      rw [Nat.add_sub_cancel_left, k6] at hex
      have hz := str_size wx.text
      have k3' : 0 < (str wx.text).size := by rw [hz]; exact k3
      have hby := byte_at (str wx.text) 0 k3'
      rw [bytes_str] at hby
      have hne35 : ((((str wx.text)[0]'k3').toNat : Int) == 35) = false := by rw [hby]; exact beq_eq_false_iff_ne.2 (fun h => k4 (by omega))
      have K2 := hide k2
      have K7 := hide k7
      have hse : ((str wx.text).toList == ([] : List UInt8)) = false := by
        rw [Lib.toList_data, bytes_str]
        have : wx.text ≠ [] := List.length_pos_iff.1 k3
        simpa using this
      have hss : ((str wx.text).toList == (str wx.text).toList) = true := by simp
      clear k2 k7 k6 HK hby k4
      generalize str wx.text = sx at *
      rw [← hz] at hex k5 K7
      generalize wx.off = off at *
      clear hz
      have hsl : ∀ w', (Instr.slice 9 (.string s) (some (.int .i64 (off : Int))) (some (.int .i64 ((off : Int) + (sx.size : Int)))) none).run Tryd.prog w' = .ok (.string sx) w' := fun w' => by
        rw [run_slice_string _ _ s .i64 .i64 _ _ Tryd.underlying9 (by omega) (by omega) (by omega)]
        have e : ((off : Int) + (sx.size : Int)).toNat = off + sx.size := by omega
        rw [e, Int.toNat_natCast, hex]
      clear hex
      go_wp2
      go_loopw [9, 10] (fun vk _ w' => ∃ k : Nat, vk = .int .i64 (k : Int) ∧ at0 ≤ k ∧ k ≤ off ∧ w' = wr) (fun v _ _ => off - (Lib.intOf v).toNat)
      case atStart => exact ⟨at0, rfl, Nat.le_refl _, k1, rfl⟩
      case round =>
        obtain ⟨k, rfl, hk1, hk2, rfl⟩ := hrel
        by_cases hko : k < off
        · have hkb := K2.out k hk1 hko
          have hks : k < s.size := by omega
          have hbk := bt_get s k hks
          unfold bl at hkb
          generalize bt s k = bk at *
          rcases hkb with rfl | rfl | rfl
          all_goals (
            go_wp2
            go_roundw
            case rel => exact ⟨k + 1, by simp, by omega, by omega, trivial⟩
            case measure =>
              simp [Lib.intOf]
              omega)
        · have hke : k = off := by omega
          subst hke
          go_wp2
          go_roundw
          case rel => exact ⟨k + sx.size, i + 1, by simp, by simp, by omega, k5, K7, trivial⟩
          case measure =>
            simp [Lib.intOf]
            omega
    · have hie : i = M := by omega
      subst hie
      have hk := HK.out
      rw [List.drop_of_length_le (by omega)] at hk
      obtain ⟨m, k1, k2, k3, k4⟩ := hk
      have K3 := hide k3
      clear k3 HK HC
      go_wp2
      go_loopw [9, 10] (fun vk _ w' => ∃ k : Nat, vk = .int .i64 (k : Int) ∧ at0 ≤ k ∧ k ≤ m ∧ w' = wr) (fun v _ _ => s.size - (Lib.intOf v).toNat)
      case atStart => exact ⟨at0, rfl, Nat.le_refl _, k1, rfl⟩
      case round =>
        obtain ⟨k, rfl, hk1, hk2, rfl⟩ := hrel
        by_cases hkm : k < m
        · have hkb := K3.out k hk1 hkm
          have hks : k < s.size := by omega
          have hbk := bt_get s k hks
          unfold bl at hkb
          generalize bt s k = bk at *
          clear k4
          rcases hkb with rfl | rfl | rfl
          all_goals (
            go_wp2
            go_roundw
            case rel => exact ⟨k + 1, by simp, by omega, by omega, trivial⟩
            case measure =>
              simp [Lib.intOf]
              omega)
        · have hke : k = m := by omega
          subst hke
          rcases k4 with k4 | ⟨k4, k5, k6⟩
          · subst k4
            go_wp2_with (go_at_call 16; refine (hal _ t1).mono ?_; rintro e w3 ⟨rfl, b3⟩)
            go_ret
            exact ⟨rfl, b1.trans (b3.mono b1.size)⟩
          · have hbk := bt_get s k k4
            rw [k5] at hbk
            rcases k6 with k6 | k6
            · subst k6
              go_wp2_with (go_at_call 16; refine (hal _ t1).mono ?_; rintro e w3 ⟨rfl, b3⟩)
              go_ret
              exact ⟨rfl, b1.trans (b3.mono b1.size)⟩
            · by_cases hk0 : k = 0
              · subst hk0
                clear k6
                go_wp2_with (go_at_call 16; refine (hal _ t1).mono ?_; rintro e w3 ⟨rfl, b3⟩)
                go_ret
                exact ⟨rfl, b1.trans (b3.mono b1.size)⟩
              · obtain ⟨q, rfl⟩ : ∃ q, k = q + 1 := ⟨k - 1, by omega⟩
                have hqs : q < s.size := by omega
                have hbq := bt_get s q hqs
                have e1 : (((q + 1 : Nat) : Int) - 1) = (q : Int) := by omega
                unfold bl at k6
                rw [Nat.add_sub_cancel] at k6
                generalize bt s q = bq at *
                rcases k6 with rfl | rfl | rfl
                all_goals (
                  go_wp2_with (go_at_call 16; refine (hal _ t1).mono ?_; rintro e w3 ⟨rfl, b3⟩)
                  go_ret
                  exact ⟨rfl, b1.trans (b3.mono b1.size)⟩)
end Go.Proofs.YtpbebcefnkbnlaaDoor
