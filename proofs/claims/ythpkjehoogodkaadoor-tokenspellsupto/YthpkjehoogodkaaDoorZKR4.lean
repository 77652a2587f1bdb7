/- The document's scanner: row. -/
import Derived.Test.YthpkjehoogodkaaDoorZKR3
import Derived.Test.YthpkjehoogodkaaDoorZKSp
namespace Go.Proofs.YthpkjehoogodkaaDoor
open Go.RowKit

theorem At.uniq {L : List UInt8} {i k k' : Nat} (h : At L i k) (h' : At L i k') : k = k' := by
  by_cases hi : i < (rs L).length
  · obtain ⟨_, _, e, _⟩ := h.rune hi
    obtain ⟨_, _, e', _⟩ := h'.rune hi
    omega
  · rw [h.done hi, h'.done hi]
theorem At.mono {L : List UInt8} {m x : Nat} : ∀ {d y : Nat}, At L m x → At L (m + 1 + d) y → m < (rs L).length → x + wd (L.drop x) ≤ y
  | 0, y, hx, hy, hm => by
    obtain ⟨_, _, _, _, _, h6⟩ := hx.rune hm
    have := At.uniq h6 hy
    omega
  | d + 1, y, hx, hy, hm => by
    obtain ⟨_, _, _, _, _, h6⟩ := hx.rune hm
    by_cases h1 : m + 1 < (rs L).length
    · have := At.mono (d := d) h6 (by rw [show m + 1 + 1 + d = m + 1 + (d + 1) by omega]; exact hy) h1
      omega
    · have e1 := h6.done h1
      have e2 := hy.2
      have e3 := hy.done (by omega)
      omega
theorem isRest_nm (l : List UInt8) : isRest (rv l) = isNm (raw (rv l)) := by
  rw [isRest_eq]
  unfold isNm
  have h1 := isLetter_raw (rv l)
  have h2 := mayF_raw (rv l)
  rw [← h1, ← h2]
  unfold mayF isDg
  rw [Bool.or_assoc]
theorem take_more3 (l : List UInt8) (k p n : Nat) (hk : k ≤ p) : (l.drop k).take (p + n - k) = (l.drop k).take (p - k) ++ (l.drop p).take n := by
  have e : p + n - k = (p - k) + n := by omega
  rw [e, List.take_add, List.drop_drop]
  congr 2
  congr 1
  omega

set_option maxRecDepth 100000 in
set_option maxHeartbeats 8000000 in
theorem rowS_k (s : ByteArray) (hs : s.size ≤ 1048576) (a : Option Addr) (cp P i0 f k : Nat) (W : World) (h : Sn s a cp P i0 W) (hat : At s.data.toList f k) (hfl : f ≤ (rs s.data.toList).length) :
    Calls Tryd.prog 44 #[.pointer (some ⟨P, 0, none⟩), .int .i64 (f : Int)] W fun e W' => e = .returned (.string (str ((s.data.toList.drop k).take (rowL isNm (s.data.toList.drop k))))) ∧
      ∃ i, Hid (At s.data.toList i (k + rowL isNm (s.data.toList.drop k))) ∧ Sn s a cp P i W' ∧ W.grownBy W' (some P) := by
  have hb := rs_bound s
  have hlen := size_toList s
  have HLEN := hide hlen
  have HS := hide h
  have HAT := hide hat
  obtain ⟨K, hK⟩ : ∃ K, k + rowL isNm (s.data.toList.drop k) = K := ⟨_, rfl⟩
  have hKr : rowL isNm (s.data.toList.drop k) = K - k := by omega
  have hkK : k ≤ K := by omega
  have HK := hide hK
  rw [hK, hKr]
  obtain ⟨c0, c1, c2, f2⟩ := h.cells
  clear h hat hK hKr hlen
  go_enter Tryd.func44, Tryd.ntmps44
  go_wp2
  go_loopw [5] (fun v wr => ∃ j kj : Nat, v = .int .i64 (j : Int) ∧ j ≤ (rs s.data.toList).length ∧ f ≤ j ∧ Hid (At s.data.toList j kj ∧ kj + rowL isNm (s.data.toList.drop kj) = K) ∧ wr = W)
    (fun v _ => (rs s.data.toList).length - (Lib.intOf v).toNat)
  case atStart => exact ⟨f, k, rfl, hfl, Nat.le_refl _, hide ⟨HAT.out, HK.out⟩, rfl⟩
  case round =>
    obtain ⟨j, kj, rfl, hj, hfj, HM, hwr⟩ := hrel
    obtain rfl := hwr.symm
    have stop : ∀ (H : kj = K), Hid (At s.data.toList j K) := fun H => hide (H ▸ HM.out.1)
    by_cases hgo : j < (rs s.data.toList).length ∧ isRest (rv (s.data.toList.drop kj)) = true
    · obtain ⟨hlt, hrest⟩ := hgo
      obtain ⟨q1, q2, q3, q4, q5, q6⟩ := HM.out.1.rune hlt
      obtain ⟨g, rfl, d1, d2, d3⟩ := HS.out.rr j hlt
      rw [q2] at d1
      have HR := hide (fun w => refRest_k (rv (s.data.toList.drop kj)) w)
      rw [hrest] at HR
      have HM2 : Hid (At s.data.toList (j + 1) (kj + wd (s.data.toList.drop kj)) ∧ kj + wd (s.data.toList.drop kj) + rowL isNm (s.data.toList.drop (kj + wd (s.data.toList.drop kj))) = K) := by
        have := HM.out.2
        rw [rowL_step isNm _ q5, ← isRest_nm, if_pos hrest, List.drop_drop] at this
        exact hide ⟨q6, by omega⟩
      have hltI : (j : Int) < ((rs s.data.toList).length : Int) := by omega
      clear q1 q2 q3 q4 q5 q6 d2 d3 stop hrest
      generalize rv (s.data.toList.drop kj) = r at *
      generalize (rs s.data.toList).length = n at *
      go_wp2_with (go_at_call 58; refine (HR.out _).mono ?_; clear HR; rintro e w2 ⟨rfl, rfl⟩)
      go_roundw
      case rel => exact ⟨j + 1, _, by simp, by omega, by omega, HM2, by first | rfl | trivial⟩
      case measure =>
        simp [Lib.intOf]
        omega
    · have hkK2 : kj = K := by
        have h2 := HM.out.2
        by_cases hlt : j < (rs s.data.toList).length
        · obtain ⟨q1, q2, q3, q4, q5, q6⟩ := HM.out.1.rune hlt
          have hr : isRest (rv (s.data.toList.drop kj)) = false := by
            cases hq : isRest (rv (s.data.toList.drop kj)) with
            | false => rfl
            | true => exact absurd ⟨hlt, hq⟩ hgo
          rw [rowL_step isNm _ q5, ← isRest_nm, hr, if_neg (by decide)] at h2
          omega
        · rw [HM.out.1.end hlt, rowL_nil] at h2
          omega
      have HE := stop hkK2
      have HMJ := hide HM.out.1
      clear stop
      by_cases hlt : j < (rs s.data.toList).length
      · obtain ⟨q1, q2, q3, q4, q5, q6⟩ := HM.out.1.rune hlt
        have hr : isRest (rv (s.data.toList.drop kj)) = false := by
          cases hq : isRest (rv (s.data.toList.drop kj)) with
          | false => rfl
          | true => exact absurd ⟨hlt, hq⟩ hgo
        obtain ⟨g, rfl, d1, d2, d3⟩ := HS.out.rr j hlt
        rw [q2] at d1
        have HR := hide (fun w => refRest_k (rv (s.data.toList.drop kj)) w)
        rw [hr] at HR
        have hltI : (j : Int) < ((rs s.data.toList).length : Int) := by omega
        clear q1 q2 q3 q4 q5 q6 d2 d3 hr hgo hkK2
        generalize rv (s.data.toList.drop kj) = r at *
        go_wp2_with (go_at_call 58; refine (HR.out _).mono ?_; clear HR; rintro e w2 ⟨rfl, rfl⟩)
        have hjn : j ≤ (rs s.data.toList).length := hj
        go_loopw [6, 7] (fun v vm wr => ∃ m km : Nat, vm = .int .i64 (m : Int) ∧ f ≤ m ∧ m ≤ j ∧ v = .string (str ((s.data.toList.drop k).take (km - k))) ∧ Hid (At s.data.toList m km ∧ k ≤ km ∧ km ≤ K) ∧ Below W.heap.size W wr)
          (fun _ v _ => j - (Lib.intOf v).toNat)
        case atStart => exact ⟨f, k, rfl, Nat.le_refl _, hfj, by rw [Nat.sub_self, List.take_zero]; rfl, hide ⟨HAT.out, Nat.le_refl _, hkK⟩, Below.refl _ _⟩
        case round =>
          obtain ⟨m, km, rfl, hfm, hmj, rfl, HM2, hbel⟩ := hrel
          have HS2 := hide (HS.out.below hbel)
          have HB := hide hbel
          obtain ⟨e0, e1, e2, e3⟩ := HS2.out.cells
          clear hbel
          by_cases hm : m < j
          · obtain ⟨q1, q2, q3, q4, q5, q6⟩ := HM2.out.1.rune (show m < (rs s.data.toList).length by omega)
            obtain ⟨g, ha, d1, d2, d3⟩ := HS2.out.rr m (by omega)
            cases ha
            rw [q3] at d2
            rw [q4] at d3
            have hle := wd_le _ q5
            rw [List.length_drop, HLEN.out] at hle
            obtain ⟨h1, h2, h3⟩ := HM2.out
            have hnext : km + wd (s.data.toList.drop km) ≤ K := by
              have hu : ∀ x y : Nat, At s.data.toList m x → At s.data.toList j y → m < j → x + wd (s.data.toList.drop x) ≤ y := fun x y hx hy hxy => At.mono (d := j - m - 1) hx (by rw [show m + 1 + (j - m - 1) = j by omega]; exact hy) (by omega)
              exact hu km K h1 HE.out hm
            have hcat : str ((s.data.toList.drop k).take (km - k)) ++ s.extract km (km + wd (s.data.toList.drop km)) = str ((s.data.toList.drop k).take (km + wd (s.data.toList.drop km) - k)) := by
              rw [extract_str, take_more3 _ _ _ _ h2, str_app, bytes_str, bytes_str]
              congr 3
              omega
            have HM3 : Hid (At s.data.toList (m + 1) (km + wd (s.data.toList.drop km)) ∧ k ≤ km + wd (s.data.toList.drop km) ∧ km + wd (s.data.toList.drop km) ≤ K) := hide ⟨q6, by omega, hnext⟩
            have sA : (str ((s.data.toList.drop k).take (km - k))).size ≤ 1048576 := by
              rw [str_size, List.length_take, List.length_drop, HLEN.out]
              omega
            have hmI : (m : Int) < (j : Int) := by omega
            have hmn : m < (rs s.data.toList).length := by omega
            have hwp := wd_pos (s.data.toList.drop km)
            clear q1 q2 q3 q4 q5 q6 d1 h1 h2 h3 hnext
            generalize hN : (rs s.data.toList).length = n at *
            generalize wd (s.data.toList.drop km) = ww at *
            have hww : IntKind.i64.wrap ((km : Int) + (ww : Int)) = ((km + ww : Nat) : Int) := by rw [IntKind.wrap_i64]; omega
            have hww2 : IntKind.i64.wrap ((m : Int) + 1) = ((m + 1 : Nat) : Int) := by rw [IntKind.wrap_i64]; omega
            generalize hE : km + ww = E at *
            have hkE : km ≤ E := by omega
            have hEs : E ≤ s.size := by omega
            have sX : (s.extract km E).size ≤ 1048576 := by
              rw [extract_str, str_size, List.length_take, List.length_drop, HLEN.out]
              omega
            generalize str ((s.data.toList.drop k).take (km - k)) = A at *
            generalize hB' : str ((s.data.toList.drop k).take (E - k)) = B at *
            have HBE := hide hB'
            have HNN := hide hN
            clear hB' hN hE hle
            go_wp2
            go_quiet (fail)
            go_wp2
            go_roundw
            case rel => exact ⟨m + 1, E, by simp, by omega, by omega, by rw [HBE.out], HM3, ktrans HB.out (below_drewN _ _)⟩
            case measure =>
              simp [Lib.intOf]
              omega
          · have hmj2 : m = j := by omega
            subst hmj2
            have hkm : km = K := At.uniq HM2.out.1 HE.out
            have HKM := hide hkm
            have hmI : ¬ (m : Int) < (m : Int) := by omega
            clear hkm
            go_wp2
            go_ret
            obtain ⟨x1, x2⟩ := HS2.out.put 0 m (m : Int) rfl
            exact ⟨by rw [HKM.out]; rfl, m, HE, x1, grown_trans (grown_below' HB.out) x2⟩
      · have hltI : ¬ (j : Int) < ((rs s.data.toList).length : Int) := by omega
        clear hgo hkK2
        go_wp2
        have hjn : j ≤ (rs s.data.toList).length := hj
        go_loopw [6, 7] (fun v vm wr => ∃ m km : Nat, vm = .int .i64 (m : Int) ∧ f ≤ m ∧ m ≤ j ∧ v = .string (str ((s.data.toList.drop k).take (km - k))) ∧ Hid (At s.data.toList m km ∧ k ≤ km ∧ km ≤ K) ∧ Below W.heap.size W wr)
          (fun _ v _ => j - (Lib.intOf v).toNat)
        case atStart => exact ⟨f, k, rfl, Nat.le_refl _, hfj, by rw [Nat.sub_self, List.take_zero]; rfl, hide ⟨HAT.out, Nat.le_refl _, hkK⟩, Below.refl _ _⟩
        case round =>
          obtain ⟨m, km, rfl, hfm, hmj, rfl, HM2, hbel⟩ := hrel
          have HS2 := hide (HS.out.below hbel)
          have HB := hide hbel
          obtain ⟨e0, e1, e2, e3⟩ := HS2.out.cells
          clear hbel
          by_cases hm : m < j
          · obtain ⟨q1, q2, q3, q4, q5, q6⟩ := HM2.out.1.rune (show m < (rs s.data.toList).length by omega)
            obtain ⟨g, ha, d1, d2, d3⟩ := HS2.out.rr m (by omega)
            cases ha
            rw [q3] at d2
            rw [q4] at d3
            have hle := wd_le _ q5
            rw [List.length_drop, HLEN.out] at hle
            obtain ⟨h1, h2, h3⟩ := HM2.out
            have hnext : km + wd (s.data.toList.drop km) ≤ K := by
              have hu : ∀ x y : Nat, At s.data.toList m x → At s.data.toList j y → m < j → x + wd (s.data.toList.drop x) ≤ y := fun x y hx hy hxy => At.mono (d := j - m - 1) hx (by rw [show m + 1 + (j - m - 1) = j by omega]; exact hy) (by omega)
              exact hu km K h1 HE.out hm
            have hcat : str ((s.data.toList.drop k).take (km - k)) ++ s.extract km (km + wd (s.data.toList.drop km)) = str ((s.data.toList.drop k).take (km + wd (s.data.toList.drop km) - k)) := by
              rw [extract_str, take_more3 _ _ _ _ h2, str_app, bytes_str, bytes_str]
              congr 3
              omega
            have HM3 : Hid (At s.data.toList (m + 1) (km + wd (s.data.toList.drop km)) ∧ k ≤ km + wd (s.data.toList.drop km) ∧ km + wd (s.data.toList.drop km) ≤ K) := hide ⟨q6, by omega, hnext⟩
            have sA : (str ((s.data.toList.drop k).take (km - k))).size ≤ 1048576 := by
              rw [str_size, List.length_take, List.length_drop, HLEN.out]
              omega
            have hmI : (m : Int) < (j : Int) := by omega
            have hmn : m < (rs s.data.toList).length := by omega
            have hwp := wd_pos (s.data.toList.drop km)
            clear q1 q2 q3 q4 q5 q6 d1 h1 h2 h3 hnext
            generalize hN : (rs s.data.toList).length = n at *
            generalize wd (s.data.toList.drop km) = ww at *
            have hww : IntKind.i64.wrap ((km : Int) + (ww : Int)) = ((km + ww : Nat) : Int) := by rw [IntKind.wrap_i64]; omega
            have hww2 : IntKind.i64.wrap ((m : Int) + 1) = ((m + 1 : Nat) : Int) := by rw [IntKind.wrap_i64]; omega
            generalize hE : km + ww = E at *
            have hkE : km ≤ E := by omega
            have hEs : E ≤ s.size := by omega
            have sX : (s.extract km E).size ≤ 1048576 := by
              rw [extract_str, str_size, List.length_take, List.length_drop, HLEN.out]
              omega
            generalize str ((s.data.toList.drop k).take (km - k)) = A at *
            generalize hB' : str ((s.data.toList.drop k).take (E - k)) = B at *
            have HBE := hide hB'
            have HNN := hide hN
            clear hB' hN hE hle
            go_wp2
            go_quiet (fail)
            go_wp2
            go_roundw
            case rel => exact ⟨m + 1, E, by simp, by omega, by omega, by rw [HBE.out], HM3, ktrans HB.out (below_drewN _ _)⟩
            case measure =>
              simp [Lib.intOf]
              omega
          · have hmj2 : m = j := by omega
            subst hmj2
            have hkm : km = K := At.uniq HM2.out.1 HE.out
            have HKM := hide hkm
            have hmI : ¬ (m : Int) < (m : Int) := by omega
            clear hkm
            go_wp2
            go_ret
            obtain ⟨x1, x2⟩ := HS2.out.put 0 m (m : Int) rfl
            exact ⟨by rw [HKM.out]; rfl, m, HE, x1, grown_trans (grown_below' HB.out) x2⟩
end Go.Proofs.YthpkjehoogodkaaDoor
