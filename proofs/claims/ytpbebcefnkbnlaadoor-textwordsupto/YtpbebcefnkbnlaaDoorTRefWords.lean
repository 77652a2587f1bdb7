/- The document's words of a line. -/
import Derived.Test.YtpbebcefnkbnlaaDoorTRegion
import Derived.Test.YtpbebcefnkbnlaaDoorTCutWalk
namespace Go.Proofs.YtpbebcefnkbnlaaDoor
open Go.RowKit

set_option maxRecDepth 100000 in
theorem refBlank_k (r : Int) (w : World) :
    Calls Tryd.prog 38 #[.int .i64 r] w fun e w' => e = .returned (.bool (isBlank r)) ∧ w = w' := by
  unfold isBlank
  by_cases h1 : r = 32
  · subst h1
    go_enter Tryd.func38, Tryd.ntmps38
    go_wp2
    go_ret
    exact ⟨rfl, rfl⟩
  · by_cases h2 : r = 9
    · subst h2
      go_enter Tryd.func38, Tryd.ntmps38
      go_wp2
      go_ret
      exact ⟨rfl, rfl⟩
    · have e1 : (r == 32) = false := by simp [h1]
      have e2 : (r == 9) = false := by simp [h2]
      go_enter Tryd.func38, Tryd.ntmps38
      go_wp2
      go_ret
      refine ⟨?_, rfl⟩
      simp [e1, e2]

def rwCells (l : List Wd) : List Value := l.flatMap fun x => [.string (str x.text), .int .i64 x.off, .int .i64 x.col]
theorem rwCells_snoc (l : List Wd) (x : Wd) : rwCells (l ++ [x]) = rwCells l ++ [.string (str x.text), .int .i64 x.off, .int .i64 x.col] := by simp [rwCells]
theorem infoRefWord : (Tryd.prog.info? 58).map (fun i => (i.zero, i.size, i.bytes)) = some (some (.agg #[.string ⟨#[]⟩, .int .i64 0, .int .i64 0]), 3, 32) := by kernel_rfl

/-- Where one is: at the rune number i, which begins at k. -/
def At (L : List UInt8) (i k : Nat) : Prop := (rs L).drop i = rsT k (ru (L.drop k)) ∧ k ≤ L.length
theorem At.start (L : List UInt8) : At L 0 0 := ⟨rfl, Nat.zero_le _⟩
theorem At.get {L : List UInt8} {i k : Nat} (h : At L i k) (hi : i < (rs L).length) : k < L.length ∧ (rs L)[i] = (rv (L.drop k), k, wd (L.drop k)) ∧ At L (i + 1) (k + wd (L.drop k)) := by
  have hd := h.1
  rw [List.drop_eq_getElem_cons hi] at hd
  have hne : L.drop k ≠ [] := by
    intro e
    rw [e, ru_nil, rsT] at hd
    cases hd
  have hw := wd_le _ hne
  rw [List.length_drop] at hw
  have hp := wd_pos (L.drop k)
  rw [ru_step _ hne, rsT] at hd
  obtain ⟨h1, h2⟩ := List.cons.inj hd
  rw [List.drop_drop] at h2
  exact ⟨by omega, h1, h2, by omega⟩
theorem At.done {L : List UInt8} {i k : Nat} (h : At L i k) (hi : ¬ i < (rs L).length) : k = L.length := by
  have hd := h.1
  rw [List.drop_of_length_le (by omega)] at hd
  by_cases hk : k < L.length
  · have hne : L.drop k ≠ [] := by
      intro e
      have := congrArg List.length e
      rw [List.length_drop] at this
      simp at this
      omega
    rw [ru_step _ hne, rsT] at hd
    cases hd
  · have := h.2
    omega
theorem wds_word (off col : Nat) (l : List UInt8) (hl : l ≠ []) (hb : isBlank (rv l) = false) (h35 : rv l ≠ 35) : wds off col false l = ⟨tw l, off, col + 1⟩ :: wds off col true l := by
  rw [wds_step off col false l hl, wds_step off col true l hl, hb]
  simp [h35]
theorem wds_blank (off col : Nat) (l : List UInt8) (h : l = [] ∨ isBlank (rv l) = true) : wds off col true l = wds off col false l := by
  by_cases hl : l = []
  · subst hl
    rw [wds_nil, wds_nil]
  · have hb : isBlank (rv l) = true := h.resolve_left hl
    rw [wds_step off col true l hl, wds_step off col false l hl, hb]
    rfl
theorem tw_blank (l : List UInt8) (h : l = [] ∨ isBlank (rv l) = true) : tw l = [] := by
  by_cases hl : l = []
  · subst hl
    rfl
  · exact (blank_head l hl (h.resolve_left hl)).2.1
theorem wds_go (off col : Nat) (l : List UInt8) (hl : l ≠ []) (hb : isBlank (rv l) = false) : wds off col true l = wds (off + wd l) (col + 1) true (l.drop (wd l)) := by
  rw [wds_step off col true l hl, hb]
  rfl
theorem tw_head (l : List UInt8) (hl : l ≠ []) (hb : isBlank (rv l) = false) : 0 < (tw l).length ∧ (tw l).getD 0 0 = l.getD 0 0 ∧ (rv l = 35 ↔ (l.getD 0 0).toNat = 35) := by
  have htw := tw_rune l hl hb
  have hw := wd_pos l
  have hw2 := wd_le l hl
  have h0 : 0 < (tw l).length := by
    rw [htw, List.length_append, List.length_take]
    omega
  have hpre : (tw l) = l.take (tw l).length := (List.prefix_iff_eq_take.1 (List.takeWhile_prefix _))
  refine ⟨h0, ?_, ?_⟩
  · rw [hpre, List.getD_eq_getElem?_getD, List.getElem?_take, if_pos h0, ← List.getD_eq_getElem?_getD]
  · obtain ⟨d, t', rfl⟩ : ∃ c t', l = c :: t' := by cases l with | nil => exact absurd rfl hl | cons c t' => exact ⟨c, t', rfl⟩
    exact rv_low_iff d t' 35 (by decide)
theorem take_more2 (l : List UInt8) (k p n : Nat) (hk : k ≤ p) : (l.drop k).take (p + n - k) = (l.drop k).take (p - k) ++ (l.drop p).take n := by
  have e : p + n - k = (p - k) + n := by omega
  rw [e, List.take_add, List.drop_drop]
  have e2 : k + (p - k) = p := by omega
  rw [e2]

set_option maxRecDepth 100000 in
set_option maxHeartbeats 4000000 in
theorem refWords_k (s : ByteArray) (hs : s.size ≤ 1048576) (w : World) :
    Calls Tryd.prog 23 #[.string s] w fun e w' => ∃ v, e = .returned v ∧ w'.ownsRow w.heap.size 58 3 v (wds 0 0 false s.data.toList).length (rwCells (wds 0 0 false s.data.toList)) ∧ Below w.heap.size w w' := by
  obtain ⟨i3, hi3, h30, h31, h32⟩ := info_parts infoRefWord
  have hlen : s.data.toList.length = s.size := by rw [Array.length_toList]; rfl
  have hr := refRunes_cells s hs w
  have hle := rs_le s
  have hbl := refBlank_k
  obtain ⟨M, hM⟩ : ∃ M, (rs s.data.toList).length = M := ⟨_, rfl⟩
  rw [hM] at hr hle
  go_enter Tryd.func23, Tryd.ntmps23
  go_wp2_with (go_at_call 18; refine hr.mono ?_; clear hr; rintro e w1 ⟨a, cp, rfl, hx, hb⟩; have HX := hide hx; clear hx)
  have hsz1 := hb.size
  go_loopw [4, 5, 6, 7, 8] (fun v vi _ _ _ wr => ∃ (i k : Nat) (pre : List Wd), vi = .int .i64 (i : Int) ∧ i ≤ M ∧ Hid (At s.data.toList i k) ∧ pre.length ≤ i ∧ Hid (wds 0 0 false s.data.toList = pre ++ wds k i false (s.data.toList.drop k)) ∧ wr.ownsRow w1.heap.size 58 3 v pre.length (rwCells pre) ∧ Below w1.heap.size w1 wr)
    (fun _ v _ _ _ _ => M - (Lib.intOf v).toNat)
  case atStart => exact ⟨0, 0, [], rfl, Nat.zero_le _, At.start _, Nat.le_refl _, rfl, World.ownsRow_nil _ _ _ _, Below.refl _ _⟩
  case round =>
    obtain ⟨i, k, pre, rfl, hi, HA, hpi, HWD, hrow, hbel⟩ := hrel
    obtain ⟨ao, cp', rfl⟩ := row_slice hrow
    by_cases hlt : i < M
    · obtain ⟨hk, hget, hnx⟩ := HA.out.get (by omega)
      obtain ⟨g, rfl, d1, d2, -⟩ := HX.out i (by omega)
      rw [hget] at d1 d2
      dsimp only at d1 d2
      have e1 := keepCell d1 hbel
      have e2 := keepCell d2 hbel
      have hne : s.data.toList.drop k ≠ [] := drop_ne s k (by omega)
      clear d1 d2 hget
      cases hbk : isBlank (rv (s.data.toList.drop k)) with
      | true =>
        have hw := HWD.out
        rw [wds_step k i false _ hne, hbk, if_pos rfl, List.drop_drop] at hw
        have HW2 := hide hw
        have HN := hide hnx
        have hbc := hbl (rv (s.data.toList.drop k))
        rw [hbk] at hbc
        clear hw hnx HWD HA hbk
        generalize rv (s.data.toList.drop k) = r at *
        generalize wd (s.data.toList.drop k) = n at *
        go_wp2_with (go_at_call 38; refine (hbc _).mono ?_; rintro e w2 ⟨rfl, rfl⟩)
        go_roundw
        case rel => exact ⟨i + 1, k + n, pre, by simp, by omega, HN, by omega, HW2, hrow, hbel⟩
        case measure =>
          simp [Lib.intOf]
          omega
      | false =>
        have hbc := hbl (rv (s.data.toList.drop k))
        rw [hbk] at hbc
        have HBK := hide hbk
        have HN := hide hnx
        clear hbk hnx
        go_wp2_with (go_at_call 38; refine (hbc _).mono ?_; rintro e w2 ⟨rfl, rfl⟩)
        clear hbc
        go_loopw [6] (fun vj w' => ∃ j p : Nat, vj = .int .i64 (j : Int) ∧ i ≤ j ∧ j ≤ M ∧ k ≤ p ∧ Hid (At s.data.toList j p) ∧ Hid (tw (s.data.toList.drop k) = (s.data.toList.drop k).take (p - k) ++ tw (s.data.toList.drop p)) ∧ Hid (wds k i true (s.data.toList.drop k) = wds p j true (s.data.toList.drop p)) ∧ Hid (i < j ∨ (j = i ∧ p = k)) ∧ w' = wr) (fun v _ => M - (Lib.intOf v).toNat)
        case atStart => exact ⟨i, k, rfl, Nat.le_refl _, hi, Nat.le_refl _, HA, by simp [Hid], rfl, .inr ⟨rfl, rfl⟩, rfl⟩
        case round =>
          obtain ⟨j, p, rfl, hij, hjM, hkp, HAj, HTW, HWT, HIJ, rfl⟩ := hrel
          have hstop : (s.data.toList.drop p = [] ∨ isBlank (rv (s.data.toList.drop p)) = true) → tw (s.data.toList.drop k) = (s.data.toList.drop k).take (p - k) ∧ wds k i true (s.data.toList.drop k) = wds p j false (s.data.toList.drop p) ∧ i < j ∧ p ≤ s.size := by
            intro h
            refine ⟨?_, ?_, ?_, ?_⟩
            · rw [HTW.out, tw_blank _ h, List.append_nil]
            · rw [HWT.out, wds_blank _ _ _ h]
            · rcases HIJ.out with h1 | ⟨h1, h2⟩
              · exact h1
              · subst h2
                rcases h with h | h
                · exact absurd h hne
                · have := HBK.out
                  rw [h] at this
                  cases this
            · have := HAj.out.2
              omega
          by_cases hj : j < M
          · obtain ⟨hp, hgetj, hnxj⟩ := HAj.out.get (by omega)
            obtain ⟨g2, eg, d1, d2, -⟩ := HX.out j (by omega)
            cases eg
            rw [hgetj] at d1 d2
            dsimp only at d1 d2
            have y1 := keepCell d1 hbel
            have y2 := keepCell d2 hbel
            have hnej : s.data.toList.drop p ≠ [] := drop_ne s p (by omega)
            clear d1 d2 hgetj
            have hbc := hbl (rv (s.data.toList.drop p))
            cases hbj : isBlank (rv (s.data.toList.drop p)) with
            | true =>
              rw [hbj] at hbc
              clear hnxj
              obtain ⟨t1, t2, t3, t4⟩ := hstop (.inr hbj)
              have hex := extract_str s k p
              rw [← t1] at hex
              obtain ⟨q1, q2, q3⟩ := tw_head _ hne HBK.out
              have hz := str_size (tw (s.data.toList.drop k))
              have k3' : 0 < (str (tw (s.data.toList.drop k))).size := by rw [hz]; exact q1
              have hby := byte_at (str (tw (s.data.toList.drop k))) 0 k3'
              rw [bytes_str, q2] at hby
              have hw := HWD.out
              have T2 := hide t2
              clear t1 t2 hz q1 q2 hstop HTW HWT HIJ HWD
              by_cases h35 : rv (s.data.toList.drop k) = 35
              · rw [wds_step k i false _ hne, HBK.out, if_neg (by decide), if_neg (by decide), if_pos h35, List.append_nil] at hw
                rw [q3.1 h35] at hby
                have HW := hide hw
                clear q3 hw h35
                generalize str (tw (s.data.toList.drop k)) = sx at *
                go_wp2_with (go_at_call 38; refine (hbc _).mono ?_; rintro e w2 ⟨rfl, rfl⟩)
                go_ret
                rw [HW.out]
                exact ⟨_, rfl, row_base hrow hsz1, hb.trans (hbel.mono hsz1)⟩
              · rw [wds_word k i _ hne HBK.out h35, T2.out] at hw
                have hn35 : ((((str (tw (s.data.toList.drop k)))[0]'k3').toNat : Int) == 35) = false := beq_eq_false_iff_ne.2 (fun h => h35 (q3.2 (by rw [hby] at h; omega)))
                have HW := hide hw
                clear q3 hw h35 hby
                generalize tw (s.data.toList.drop k) = tx at *
                go_wp2_with (first
                  | (go_at_call 38; refine (hbc _).mono ?_; rintro e w2 ⟨rfl, rfl⟩)
                  | (at_builtin; refine wpList_append_own _ rfl _ _ 53 rfl w1.heap.size 58 i3 (.agg #[.string ⟨#[]⟩, .int .i64 0, .int .i64 0]) 3 32 Tryd.underlying53 hi3 h30 h31 h32 rfl (by decide) _ _ _ rfl (hrow.alloc _) ⟨wr.heap.size, 0, none⟩ 1 1 [.string (str tx), .int .i64 k, .int .i64 ((i : Int) + 1)] rfl rfl (cell_three_at _ _ _ _ _ _ rfl) (by simp [Value.oneCell']) (by unfold maxLen; omega) (by omega) (by have := hbel.size; simp; omega) ?_; intro v' w2 hown' hgrow _; obtain ⟨g', cap', rfl⟩ := ownsRow_succ hown'))
                go_roundw
                case rel =>
                  refine ⟨j, p, pre ++ [⟨tx, k, i + 1⟩], rfl, hjM, HAj, by simp; omega, ?_, ?_, (hbel.alloc hbel.size _).grown hgrow (by have := hbel.size; simp; omega) (fun j ej => (row_block hrow j ej).1)⟩
                  · have := HW.out
                    rw [this]
                    exact hide (by simp)
                  · rw [rwCells_snoc, List.length_append]
                    exact hown'
                case measure =>
                  simp [Lib.intOf]
                  omega
            | false =>
              rw [hbj] at hbc
              have h2 := take_more2 s.data.toList k p (wd (s.data.toList.drop p)) hkp
              have h3 := HTW.out
              rw [tw_rune _ hnej hbj, List.drop_drop, ← List.append_assoc, ← h2] at h3
              have h4 := HWT.out
              rw [wds_go _ _ _ hnej hbj, List.drop_drop] at h4
              have H3 := hide h3
              have H4 := hide h4
              have HNJ := hide hnxj
              clear h2 h3 h4 hnxj hbj hstop HTW HWT
              generalize wd (s.data.toList.drop p) = n2 at *
              generalize rv (s.data.toList.drop p) = r2 at *
              go_wp2_with (go_at_call 38; refine (hbc _).mono ?_; rintro e w2 ⟨rfl, rfl⟩)
              go_roundw
              case rel => exact ⟨j + 1, p + n2, by simp, by omega, by omega, by omega, HNJ, H3, H4, .inl (by omega), trivial⟩
              case measure =>
                simp [Lib.intOf]
                omega
          · have hje : j = M := by omega
            have hpe := HAj.out.done (by omega)
            have hps : p = s.size := hpe.trans hlen
            subst hps
            obtain ⟨t1, t2, t3, t4⟩ := hstop (.inl (by rw [hpe]; exact List.drop_of_length_le (Nat.le_refl _)))
            clear hpe
            have hex := extract_str s k s.size
            rw [← t1] at hex
            obtain ⟨q1, q2, q3⟩ := tw_head _ hne HBK.out
            have hz := str_size (tw (s.data.toList.drop k))
            have k3' : 0 < (str (tw (s.data.toList.drop k))).size := by rw [hz]; exact q1
            have hby := byte_at (str (tw (s.data.toList.drop k))) 0 k3'
            rw [bytes_str, q2] at hby
            have hw := HWD.out
            have T2 := hide t2
            clear t1 t2 hz q1 q2 hstop HTW HWT HIJ HWD
            by_cases h35 : rv (s.data.toList.drop k) = 35
            · rw [wds_step k i false _ hne, HBK.out, if_neg (by decide), if_neg (by decide), if_pos h35, List.append_nil] at hw
              rw [q3.1 h35] at hby
              have HW := hide hw
              clear q3 hw h35
              generalize str (tw (s.data.toList.drop k)) = sx at *
              go_wp2
              go_ret
              rw [HW.out]
              exact ⟨_, rfl, row_base hrow hsz1, hb.trans (hbel.mono hsz1)⟩
            · rw [wds_word k i _ hne HBK.out h35, T2.out] at hw
              have hn35 : ((((str (tw (s.data.toList.drop k)))[0]'k3').toNat : Int) == 35) = false := beq_eq_false_iff_ne.2 (fun h => h35 (q3.2 (by rw [hby] at h; omega)))
              have HW := hide hw
              clear q3 hw h35 hby
              generalize tw (s.data.toList.drop k) = tx at *
              go_wp2_with (first
                | (at_builtin; refine wpList_append_own _ rfl _ _ 53 rfl w1.heap.size 58 i3 (.agg #[.string ⟨#[]⟩, .int .i64 0, .int .i64 0]) 3 32 Tryd.underlying53 hi3 h30 h31 h32 rfl (by decide) _ _ _ rfl (hrow.alloc _) ⟨wr.heap.size, 0, none⟩ 1 1 [.string (str tx), .int .i64 k, .int .i64 ((i : Int) + 1)] rfl rfl (cell_three_at _ _ _ _ _ _ rfl) (by simp [Value.oneCell']) (by unfold maxLen; omega) (by omega) (by have := hbel.size; simp; omega) ?_; intro v' w2 hown' hgrow _; obtain ⟨g', cap', rfl⟩ := ownsRow_succ hown'))
              go_roundw
              case rel =>
                refine ⟨j, s.size, pre ++ [⟨tx, k, i + 1⟩], by rw [hje], hjM, HAj, by simp; omega, ?_, ?_, (hbel.alloc hbel.size _).grown hgrow (by have := hbel.size; simp; omega) (fun j ej => (row_block hrow j ej).1)⟩
                · have := HW.out
                  rw [this]
                  exact hide (by simp)
                · rw [rwCells_snoc, List.length_append]
                  exact hown'
              case measure =>
                simp [Lib.intOf]
                omega
    · have hk := HA.out.done (by omega)
      have hw := HWD.out
      rw [hk, List.drop_of_length_le (Nat.le_refl _), wds_nil, List.append_nil] at hw
      go_wp2
      go_ret
      rw [hw]
      exact ⟨_, rfl, row_base hrow hsz1, hb.trans (hbel.mono hsz1)⟩
end Go.Proofs.YtpbebcefnkbnlaaDoor
