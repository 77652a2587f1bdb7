/- The document's scanner: skip. -/
import Derived.Test.YthpkjehoogodkaaDoorZKR2
namespace Go.Proofs.YthpkjehoogodkaaDoor
open Go.RowKit

def posOf (P : Nat) (W : World) : Nat := match W.cell? ⟨P, 2, none⟩ with
  | some (.int _ n) => n.toNat
  | _ => 0
theorem Sn.pos {s : ByteArray} {a : Option Addr} {cp P i : Nat} {W : World} (h : Sn s a cp P i W) : posOf P W = i := by
  unfold posOf
  rw [h.cells.2.2.1]
  simp
theorem Sn.drewN {s : ByteArray} {a : Option Addr} {cp P i : Nat} {W : World} (h : Sn s a cp P i W) (n : Nat) : Sn s a cp P i (W.drewN n) := h.below (below_drewN W n)
theorem sc_blank (L : List UInt8) (k : Nat) (h : L.drop k ≠ []) (hb : isBl (raw (rv (L.drop k))) = true) : sc L k = sc L (k + wd (L.drop k)) := by
  have hc : cutC (L.drop k) = ⟨Tkn.none, 1, 0⟩ := by
    unfold cutC
    rw [if_neg h, if_pos hb]
  have hw : wd (L.drop k) = 1 := by
    obtain ⟨b, t, e, hb7, _⟩ := low_head _ h (by unfold isBl at hb; simp at hb; omega)
    rw [e]
    exact (rv_ascii b t hb7).2
  rw [sc_step L k h (by rw [hc]), hc, hw]
  rfl
theorem sc_cmt (L : List UInt8) (k : Nat) (h : L.drop k ≠ []) (hb : isBl (raw (rv (L.drop k))) = false) (hp : Lib.hasPrefix (L.drop k) [47, 47] = true) : sc L k = sc L (k + rowL isLn (L.drop k)) := by
  have hc : cutC (L.drop k) = ⟨Tkn.none, rowL isLn (L.drop k), 0⟩ := by
    unfold cutC
    rw [if_neg h, if_neg (by rw [hb]; decide), if_pos hp]
  rw [sc_step L k h (by rw [hc]), hc]
  rfl
theorem isBl_rv (l : List UInt8) (r : Int) (h : rv l = r) : isBl (raw (rv l)) = isBl r := by
  subst h
  unfold raw
  split
  · have := rv_lo l
    have e : rv l = -1 := by omega
    rw [e]
    decide
  · rfl
theorem isLn_rv (l : List UInt8) : isLn (raw (rv l)) = isLn (rv l) := by
  unfold raw
  split
  · have := rv_lo l
    have e : rv l = -1 := by omega
    rw [e]
    decide
  · rfl
/-- Neither a blank nor a comment begins here. -/
def Stop (l : List UInt8) : Prop := l = [] ∨ (isBl (raw (rv l)) = false ∧ Lib.hasPrefix l [47, 47] = false)

theorem Sn.put {s : ByteArray} {a : Option Addr} {cp P i : Nat} {W : World} (h : Sn s a cp P i W) (m j : Nat) (v : Int) (hv : v = (j : Int)) : Sn s a cp P j ((W.drewN m).setCell ⟨P, 2, none⟩ (.int .i64 v)) ∧ W.grownBy ((W.drewN m).setCell ⟨P, 2, none⟩ (.int .i64 v)) (some P) := by
  subst hv
  exact ⟨(h.drewN m).set j, grown_trans (grown_below' (below_drewN W m)) (kgrown_set _ _ _ _)⟩

set_option maxRecDepth 100000 in
set_option maxHeartbeats 8000000 in
theorem skip_k (s : ByteArray) (hs : s.size ≤ 1048576) (a : Option Addr) (cp P i0 k0 : Nat) (W : World) (h : Sn s a cp P i0 W) (hat : At s.data.toList i0 k0) :
    Calls Tryd.prog 20 #[.pointer (some ⟨P, 0, none⟩)] W fun e W' => e = .returned (.tuple #[]) ∧ ∃ i k, Hid (At s.data.toList i k ∧ sc s.data.toList k0 = sc s.data.toList k ∧ Stop (s.data.toList.drop k)) ∧ Sn s a cp P i W' ∧ W.grownBy W' (some P) := by
  have hb := rs_bound s
  have H0 := hide h
  have HAT := hide hat
  clear h hat
  go_enter Tryd.func20, Tryd.ntmps20
  go_wp2
  go_loopw [2] (fun _ wr => ∃ i k, Hid (At s.data.toList i k ∧ sc s.data.toList k0 = sc s.data.toList k) ∧ Sn s a cp P i wr ∧ W.grownBy wr (some P))
    (fun _ wr => (rs s.data.toList).length - posOf P wr)
  case atStart => exact ⟨i0, k0, hide ⟨HAT.out, rfl⟩, H0.out, grown_refl _ _⟩
  case round =>
    obtain ⟨i, k, HM, hSn, hgr⟩ := hrel
    have hpos := hSn.pos
    have HS := hide hSn
    have HG := hide hgr
    obtain ⟨c0, c1, c2, f2⟩ := hSn.cells
    by_cases hlt : i < (rs s.data.toList).length
    · obtain ⟨q1, q2, q3, q4, q5, q6⟩ := HM.out.1.rune hlt
      obtain ⟨g, ha, d1, d2, d3⟩ := hSn.rr i hlt
      rw [q2] at d1
      have hltI : decide ((i : Int) < ((rs s.data.toList).length : Int)) = true := decide_eq_true (by omega)
      have hltN : (i : Int) < ((rs s.data.toList).length : Int) := by omega
      have hwi : IntKind.i64.wrap ((i : Int) + 1) = (i : Int) + 1 := by rw [IntKind.wrap_i64]; omega
      have HI := hide (fun W' (hb : Below wr.heap.size wr W') (h47 : rv (s.data.toList.drop k) = 47) => is_k s hs a cp P i k W' (hSn.below hb) HM.out.1 hlt h47)
      have hblr := isBl_rv (s.data.toList.drop k) _ rfl
      have HQ5 := hide q5
      have HQ6 := hide q6
      have HBLK := hide (fun hb => sc_blank s.data.toList k q5 hb)
      have HCMT := hide (fun hb hp => sc_cmt s.data.toList k q5 hb hp)
      rw [hblr] at HBLK HCMT
      have HBLR := hide hblr
      have HAE := hide ha
      subst ha
      clear hSn hgr q1 q2 q3 q4 q5 q6 d2 d3 c0 hblr
      generalize hn : (rs s.data.toList).length = n at *
      obtain ⟨r, hr⟩ : ∃ r, rv (s.data.toList.drop k) = r := ⟨_, rfl⟩
      rw [hr] at d1 HBLK HCMT HBLR
      have HR := hide hr
      clear hr
      have HN := hide hn
      clear hn
      by_cases hbl : isBl r = true
      · have HM2 : Hid (At s.data.toList (i + 1) (k + wd (s.data.toList.drop k)) ∧ sc s.data.toList k0 = sc s.data.toList (k + wd (s.data.toList.drop k))) := hide ⟨HQ6.out, HM.out.2.trans (HBLK.out hbl)⟩
        have hcs : r = 32 ∨ r = 9 ∨ r = 10 ∨ r = 13 := by unfold isBl at hbl; simp at hbl; omega
        clear hbl HBLK HCMT HI
        rcases hcs with e | e | e | e
        all_goals
          rw [e] at d1
          clear e
          go_wp2
          go_quiet (fail)
          go_wp2
          go_quiet (fail)
          go_wp2
          go_roundw
          case rel =>
            obtain ⟨x1, x2⟩ := HS.out.put _ (i + 1) ((i : Int) + 1) (by simp)
            exact ⟨i + 1, _, HM2, x1, grown_trans HG.out x2⟩
          case measure =>
            obtain ⟨x1, _⟩ := HS.out.put _ (i + 1) ((i : Int) + 1) (by simp)
            rw [x1.pos, hpos]
            omega
      · have hbl2 : isBl r = false := by simpa using hbl
        have n32 : (r == 32) = false := by unfold isBl at hbl; simp at hbl ⊢; omega
        have n9 : (r == 9) = false := by unfold isBl at hbl; simp at hbl ⊢; omega
        have n10 : (r == 10) = false := by unfold isBl at hbl; simp at hbl ⊢; omega
        have n13 : (r == 13) = false := by unfold isBl at hbl; simp at hbl ⊢; omega
        have HB2 := hide hbl2
        clear hbl hbl2 HBLK
        by_cases h47 : r = 47
        · subst h47
          have hIS : Hid (∀ W' (hb : Below wr.heap.size wr W'), Calls Tryd.prog 40 #[.pointer (some ⟨P, 0, none⟩), .int .i64 1, .int .i64 47] W' fun e W'' => e = .returned (.bool (Lib.hasPrefix (s.data.toList.drop k) [47, 47])) ∧ Below W'.heap.size W' W'') := hide (fun W' hb => HI.out W' hb HR.out)
          clear HI
          cases hp : Lib.hasPrefix (s.data.toList.drop k) [47, 47] with
          | false =>
            rw [hp] at hIS
            have HP := hide hp
            clear hp HCMT n32 n9 n10 n13
            go_wp2
            go_quiet (fail)
            go_wp2
            go_quiet (fail)
            go_wp2_with (go_at_call 40; refine (hIS.out _ (below_drewN _ _)).mono ?_; clear hIS; rintro e w2 ⟨rfl, b2⟩; have B2 := hide (ktrans (below_drewN wr _) b2); clear b2)
            first | (refine bodyPost_ret (results_none rfl _ _ _) rfl ?_) | go_end0
            exact ⟨rfl, i, k, hide ⟨HM.out.1, HM.out.2, .inr ⟨by rw [isBl_rv _ _ HR.out]; exact HB2.out, HP.out⟩⟩, HS.out.below B2.out, grown_trans HG.out (grown_below' B2.out)⟩
          | true =>
            rw [hp] at hIS
            have HT : Hid (sc s.data.toList k0 = sc s.data.toList (k + rowL isLn (s.data.toList.drop k))) := hide (HM.out.2.trans (HCMT.out HB2.out hp))
            have hrow : 0 < rowL isLn (s.data.toList.drop k) := rowL_pos isLn _ HQ5.out (by rw [isLn_rv, HR.out]; decide)
            have HROW := hide hrow
            clear hp hrow HCMT n32 n9 n10 n13
            go_wp2
            go_quiet (fail)
            go_wp2
            go_quiet (fail)
            go_wp2_with (go_at_call 40; refine (hIS.out _ (below_drewN _ _)).mono ?_; clear hIS; rintro e w2 ⟨rfl, b2⟩; have B2 := hide (ktrans (below_drewN wr _) b2); clear b2)
            have HW2 := hide (HS.out.below B2.out)
            have HG2 := hide (grown_trans HG.out (grown_below' (r := some P) B2.out))
            obtain ⟨wo, hwo⟩ : ∃ wo, wo = wr := ⟨_, rfl⟩
            subst hwo
            obtain ⟨K, hK⟩ : ∃ K, k + rowL isLn (s.data.toList.drop k) = K := ⟨_, rfl⟩
            have HK := hide hK
            rw [hK] at HT
            clear hK
            have hpo := HS.out.pos
            have hnr := HN.out
            go_loopw [53] (fun _ wr => ∃ i' k', Hid (At s.data.toList i' k' ∧ k' + rowL isLn (s.data.toList.drop k') = K ∧ i ≤ i' ∧ (i' = i → k' = k)) ∧ Sn s (some ⟨g, 0, none⟩) cp P i' wr ∧ W.grownBy wr (some P))
              (fun _ wr => n - posOf P wr)
            case atStart => exact ⟨i, k, hide ⟨HM.out.1, HK.out, Nat.le_refl _, fun _ => rfl⟩, HW2.out, HG2.out⟩
            case round =>
              obtain ⟨i', k', HM', hSn', hgr'⟩ := hrel
              have hpos' := hSn'.pos
              have HS' := hide hSn'
              have HG' := hide hgr'
              obtain ⟨e0, e1, e2, e3⟩ := hSn'.cells
              rw [hnr] at e1
              by_cases hlt' : i' < (rs s.data.toList).length
              · obtain ⟨q1, q2, q3, q4, q5, q6⟩ := HM'.out.1.rune hlt'
                obtain ⟨g', ha', x1, x2', x3'⟩ := hSn'.rr i' hlt'
                clear x2' x3'
                cases ha'
                rw [q2] at x1
                have hltI' : decide ((i' : Int) < (n : Int)) = true := decide_eq_true (by omega)
                have hltN' : (i' : Int) < (n : Int) := by omega
                have hwi' : IntKind.i64.wrap ((i' : Int) + 1) = (i' : Int) + 1 := by rw [IntKind.wrap_i64]; omega
                have hst := rowL_step isLn (s.data.toList.drop k') q5
                rw [isLn_rv, List.drop_drop] at hst
                have HST := hide hst
                have HQ6' := hide q6
                clear hst q1 q2 q3 q4 q5 q6 hSn' hgr' e0
                obtain ⟨r', hr'⟩ : ∃ r', rv (s.data.toList.drop k') = r' := ⟨_, rfl⟩
                rw [hr'] at x1 HST
                clear hr'
                have HLT' := hide hlt'
                clear hlt'
                by_cases h10 : r' = 10
                · subst h10
                  have hk' : k' = K := by
                    have := HM'.out.2.1
                    rw [HST.out, if_neg (by decide)] at this
                    omega
                  have hii : i < i' := by
                    have h1 := HM'.out.2.2.1
                    have h2 := HM'.out.2.2.2
                    by_cases e : i' = i
                    · have := h2 e
                      have := HROW.out
                      have := HK.out
                      omega
                    · omega
                  have HKK := hide hk'
                  clear hk'
                  go_wp2
                  go_quiet (fail)
                  go_wp2
                  go_roundw
                  case rel => exact ⟨i', k', hide ⟨HM'.out.1, by rw [HKK.out]; exact HT.out⟩, HS'.out.drewN _, grown_trans HG'.out (grown_below' (below_drewN _ _))⟩
                  case measure =>
                    have hp := fun m => (HS'.out.drewN m).pos
                    rw [hp, hpo]
                    have := HLT'.out
                    omega
                · have h10' : (r' != 10) = true := by simpa using h10
                  have HM2 : Hid (At s.data.toList (i' + 1) (k' + wd (s.data.toList.drop k')) ∧ k' + wd (s.data.toList.drop k') + rowL isLn (s.data.toList.drop (k' + wd (s.data.toList.drop k'))) = K ∧ i ≤ i' + 1 ∧ (i' + 1 = i → k' + wd (s.data.toList.drop k') = k)) := by
                    have := HM'.out.2.1
                    rw [HST.out, if_pos (by unfold isLn; exact h10')] at this
                    have h3 := HM'.out.2.2.1
                    exact hide ⟨HQ6'.out, by omega, by omega, fun e => by omega⟩
                  clear h10 HST HQ6'
                  go_wp2
                  go_quiet (fail)
                  go_wp2
                  go_roundw
                  case rel =>
                    obtain ⟨y1, y2⟩ := HS'.out.put _ (i' + 1) ((i' : Int) + 1) (by simp)
                    exact ⟨i' + 1, _, HM2, y1, grown_trans HG'.out y2⟩
                  case measure =>
                    obtain ⟨y1, _⟩ := HS'.out.put _ (i' + 1) ((i' : Int) + 1) (by simp)
                    rw [y1.pos, hpos']
                    have := HLT'.out
                    omega
              · have hltI' : decide ((i' : Int) < (n : Int)) = false := decide_eq_false (by omega)
                have hge : decide (i' < n) = false := decide_eq_false (by omega)
                have hend := HM'.out.1.end hlt'
                have hk' : k' = K := by
                  have := HM'.out.2.1
                  rw [hend, rowL_nil] at this
                  omega
                have hii : i < i' := by omega
                have HKK := hide hk'
                have HLT' := hide hlt'
                clear hSn' hgr' e0 hk' hend hlt' hnr hltI hltN d1
                go_wp2
                go_quiet (fail)
                go_wp2
                go_roundw
                case rel => exact ⟨i', k', hide ⟨HM'.out.1, by rw [HKK.out]; exact HT.out⟩, HS'.out.drewN _, grown_trans HG'.out (grown_below' (below_drewN _ _))⟩
                case measure =>
                  have hp := fun m => (HS'.out.drewN m).pos
                  rw [hp, hpo]
                  omega
        · have n47 : (r != 47) = true := by simpa using h47
          have hp : Lib.hasPrefix (s.data.toList.drop k) [47, 47] = false := by
            cases hq : Lib.hasPrefix (s.data.toList.drop k) [47, 47] with
            | false => rfl
            | true =>
              obtain ⟨t, e⟩ := prefix_app hq
              have h1 := HR.out
              rw [e] at h1
              have e2 : rv ([47, 47] ++ t) = 47 := (rv_ascii 47 (47 :: t) (by decide)).1
              exact absurd (h1.symm.trans e2) h47
          have HP := hide hp
          clear hp h47 HCMT HI
          go_wp2
          go_quiet (fail)
          go_wp2
          go_quiet (fail)
          go_wp2
          first | (refine bodyPost_ret (results_none rfl _ _ _) rfl ?_) | go_end0
          exact ⟨rfl, i, k, hide ⟨HM.out.1, HM.out.2, .inr ⟨by rw [isBl_rv _ _ HR.out]; exact HB2.out, HP.out⟩⟩, HS.out.drewN _, grown_trans HG.out (grown_below' (below_drewN _ _))⟩
    · have hltI : decide ((i : Int) < ((rs s.data.toList).length : Int)) = false := decide_eq_false (by omega)
      have hend := HM.out.1.end hlt
      have HEND := hide hend
      clear hSn hgr c0 hend
      generalize (rs s.data.toList).length = n at *
      go_wp2
      go_quiet (fail)
      go_wp2
      first | (refine bodyPost_ret (results_none rfl _ _ _) rfl ?_) | go_end0
      exact ⟨rfl, i, k, hide ⟨HM.out.1, HM.out.2, .inl HEND.out⟩, HS.out.drewN _, grown_trans HG.out (grown_below' (below_drewN _ _))⟩
end Go.Proofs.YthpkjehoogodkaaDoor
