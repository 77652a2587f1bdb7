/- Seal, Open, and the document's own Crc, Seal and Open. -/
import Derived.Test.YtfgcpkbbneicfaaSum
import Derived.Test.YtfgcpkbbneicfaaRefMore
namespace Go.Proofs.Ytfgcpkbbneicfaa
open Go.RowKit

set_option maxRecDepth 100000 in
set_option maxHeartbeats 1000000 in
theorem seal_any (w : World) (a : Option Addr) (c : Nat) (l : List UInt8) (hb : Bytes w (.slice a l.length c) l) (hl : l.length ≤ 140737488355324) :
    Calls Try.prog 32 #[.slice a l.length c] w fun e w' => ∃ v, e = .returned v ∧ w'.ownsRow w.heap.size 5 1 v (sealed l).length (cellsOf (sealed l)) ∧ Below w.heap.size w w' := by
  have HB := hide hb
  have HL := hide hl
  clear hb hl
  have conc : ∀ (w1 : World) (g : Nat), Below w.heap.size w w1 → Bytes w1 (.slice (some ⟨g, 0, none⟩) 4 4) (le4 (crc l).toNat) →
      Calls Try.prog 44 #[.slice (some ⟨w1.heap.size, 0, none⟩) 2 2] (w1.alloc (.cells #[.slice a l.length c, .slice (some ⟨g, 0, none⟩) 4 4] 23)) fun e w' =>
        ∃ v, e = .returned v ∧ w'.ownsRow w.heap.size 5 1 v (sealed l).length (cellsOf (sealed l)) ∧ Below w.heap.size w w' := by
    intro w1 g hbel h4
    have hal : Below w1.heap.size w1 (w1.alloc (.cells #[.slice a l.length c, .slice (some ⟨g, 0, none⟩) 4 4] 23)) := (Below.refl _ _).alloc (Nat.le_refl _) _
    have ef : ([l, le4 (crc l).toNat] : List (List UInt8)).flatten = sealed l := by simp [sealed]
    have h := concat_any (w1.alloc (.cells #[.slice a l.length c, .slice (some ⟨g, 0, none⟩) 4 4] 23)) w1.heap.size 2 [l, le4 (crc l).toNat] (by unfold maxLen; show 2 ≤ 2 ^ 63 - 1; decide)
      (by
        intro i hi
        match i, hi with
        | 0, _ => exact ⟨a, c, by rw [World.cell?_alloc_new]; rfl, (HB.out.later hbel).later hal⟩
        | 1, _ => exact ⟨some ⟨g, 0, none⟩, 4, by rw [World.cell?_alloc_new]; rfl, h4.later hal⟩)
      (by rw [ef]; simp [sealed, le4]) (by rw [ef]; simp only [sealed, List.length_append]; have := HL.out; show l.length + 4 ≤ _; omega)
    rw [ef] at h
    refine h.mono ?_
    rintro e w' ⟨v, rfl, h1, h2⟩
    have hs := hbel.size
    have hs2 := h2.size
    simp only [World.size_alloc] at h1 h2 hs2
    refine ⟨v, rfl, ?_, (hbel.alloc hs _).trans (h2.mono (by omega))⟩
    refine ⟨h1.1, ?_⟩
    rcases h1.2 with h | ⟨g', cap, cur, hv, hb, rest⟩
    · exact .inl h
    · exact .inr ⟨g', cap, cur, hv, by omega, rest⟩
  have CC := hide conc
  clear conc
  go_enter Try.func32, Try.ntmps32
  go_wp2_with (first | (go_at_call 43; refine (sumBytes_any _ _ _ l HB.out (by have := HL.out; unfold maxLen; omega)).mono ?_; rintro e w1 ⟨g, rfl, A1, A2⟩; have B1 := hide A1; have B2 := hide A2; clear A1 A2) | (go_at_call 44; refine (CC.out _ _ B2.out B1.out).mono ?_; rintro e w2 ⟨v, rfl, A1⟩; have D := hide A1; clear A1))
  go_ret
  exact ⟨_, rfl, D.out⟩

set_option maxRecDepth 100000 in
set_option maxHeartbeats 1000000 in
theorem equal_any (w : World) (v1 v2 : Value) (l1 l2 : List UInt8) (h1 : Bytes w v1 l1) (h2 : Bytes w v2 l2) (he : l1.length = l2.length) (hl : l1.length ≤ maxLen) :
    Calls Try.prog 42 #[v1, v2] w fun e w' => e = .returned (.bool (l1 == l2)) ∧ ∃ n, w' = w.drewN n := by
  have E1 := hide h1.elim
  have E2 := hide h2.elim
  obtain ⟨a1, c1, rfl, _⟩ := h1
  obtain ⟨a2, c2, rfl, _⟩ := h2
  rw [← he]
  unfold maxLen at hl
  have HE := hide he
  clear he
  go_enter Try.func42, Try.ntmps42
  go_wp2
  go_loopw [5, 13] (fun _ i wr => ∃ k n : Nat, k ≤ l1.length ∧ i = .int .i64 k ∧ wr = w.drewN n ∧ l1.take k = l2.take k) (fun _ i _ => l1.length - (intOf i).toNat)
  case atStart => exact ⟨0, 0, Nat.zero_le _, rfl, rfl, rfl⟩
  case round =>
    obtain ⟨k, nd, hk, rfl, rfl, htk⟩ := hrel
    have HT := hide htk
    clear htk
    by_cases hlt : k < l1.length
    · have hlt2 : k < l2.length := by rw [← HE.out]; exact hlt
      have hc1 : ∃ b off, a1 = some ⟨b, off, none⟩ ∧ w.cell? ⟨b, off + k, none⟩ = some (.int .u8 (l1[k].toNat : Int)) := by
        rcases E1.out with ⟨e, _⟩ | ⟨_, b, off, c', e, h7⟩
        · rw [e] at hlt; simp at hlt
        · simp only [Value.slice.injEq] at e
          exact ⟨b, off, e.1, h7 k hlt⟩
      have hc2 : ∃ b off, a2 = some ⟨b, off, none⟩ ∧ w.cell? ⟨b, off + k, none⟩ = some (.int .u8 (l2[k].toNat : Int)) := by
        rcases E2.out with ⟨e, _⟩ | ⟨_, b, off, c', e, h7⟩
        · rw [e] at hlt2; simp at hlt2
        · simp only [Value.slice.injEq] at e
          exact ⟨b, off, e.1, h7 k hlt2⟩
      obtain ⟨b1, o1, rfl, hc1⟩ := hc1
      obtain ⟨b2, o2, rfl, hc2⟩ := hc2
      clear E1 E2
      have HS : Hid (l1[k] = l2[k] → l1.take (k + 1) = l2.take (k + 1)) := fun e => by
        rw [List.take_succ_eq_append_getElem hlt, List.take_succ_eq_append_getElem hlt2, HT.out, e]
      have HN : Hid (l1[k] ≠ l2[k] → (l1 == l2) = false) := fun e => by
        simp only [beq_eq_false_iff_ne]
        intro e'
        subst e'
        exact e rfl
      generalize l1[k] = x at *
      generalize l2[k] = y at *
      by_cases hxy : x = y
      · subst hxy
        go_wp2_with fail
        go_quiet (fail)
        go_wp2
        go_roundw
        case rel => exact ⟨k + 1, _, by omega, by go_num, rfl, HS.out (by first | rfl | trivial)⟩
        case measure => simp [intOf]; omega
      · have hne0 : ¬ (x.toNat : Int) = (y.toNat : Int) := fun e => hxy (UInt8.toNat_inj.1 (by omega))
        have hne1 : ((x.toNat : Int) == (y.toNat : Int)) = false := by simpa using hne0
        have hne2 : ((x.toNat : Int) != (y.toNat : Int)) = true := by simpa using hne0
        have HF := hide (HN.out hxy)
        clear HS HN hxy
        go_wp2_with fail
        go_quiet (fail)
        go_wp2
        go_ret
        exact ⟨by rw [HF.out]; rfl, _, World.drewN_drewN _ _ _⟩
    · have HF : Hid ((l1 == l2) = true) := by
        have h := HT.out
        rw [List.take_of_length_le (by omega), List.take_of_length_le (by rw [← HE.out]; omega)] at h
        show _ = _
        simp [h]
      clear E1 E2
      go_wp2
      go_ret
      exact ⟨by rw [HF.out]; rfl, _, rfl⟩

theorem below_drewN (B : Nat) (w : World) (n : Nat) : Below B w (w.drewN n) := ⟨rfl, rfl, rfl, Nat.le_refl _, fun _ _ => rfl⟩

theorem sumBytes_at (w : World) (a : Option Addr) (n c : Nat) (l : List UInt8) (hn : l.length = n) (hb : Bytes w (.slice a n c) l) (hl : l.length ≤ maxLen) :
    Calls Try.prog 43 #[.slice a n c] w fun e w' => ∃ g, e = .returned (.slice (some ⟨g, 0, none⟩) 4 4) ∧ Bytes w' (.slice (some ⟨g, 0, none⟩) 4 4) (le4 (crc l).toNat) ∧ Below w.heap.size w w' := by
  subst hn
  exact sumBytes_any w a c l hb hl

def openErr (l : List UInt8) : Nat := if l.length < 4 then 10 else if (l.drop (l.length - 4) == le4 (crc (l.take (l.length - 4))).toNat) = true then 0 else 13
def openData (l : List UInt8) : List UInt8 := if openErr l = 0 then l.take (l.length - 4) else []

set_option maxRecDepth 100000 in
set_option maxHeartbeats 1000000 in
theorem open_any (w : World) (a : Option Addr) (c : Nat) (l : List UInt8) (hb : BytesIn w 0 w.heap.size (.slice a l.length c) l) (hl : l.length ≤ 140737488355328) :
    Calls Try.prog 31 #[.slice a l.length c] w fun e w' => ∃ a' c', e = .returned (.tuple #[.slice a' (openData l).length c', .int .i64 (openErr l)]) ∧ BytesIn w' w.heap.size w'.heap.size (.slice a' (openData l).length c') (openData l) ∧ Below w.heap.size w w' := by
  by_cases h4 : l.length < 4
  · have e1 : openErr l = 10 := if_pos h4
    have e2 : openData l = [] := by unfold openData; rw [e1]; rfl
    rw [e1, e2]
    clear e1 e2 hb
    go_enter Try.func31, Try.ntmps31
    go_wp2
    go_ret2
    exact ⟨none, 0, rfl, ⟨none, 0, rfl, by simp, by unfold maxLen; omega, fun j hj => by simp at hj⟩, Below.refl _ _⟩
  · obtain ⟨n, hn⟩ : ∃ n, l.length - 4 = n := ⟨_, rfl⟩
    have hln : ((l.length : Int) - 4) = (n : Int) := by omega
    obtain ⟨a1, c1, hs1, hb1⟩ := slice_high w .i64 a c hb n (by omega)
    obtain ⟨a2, c2, hs2, hb2⟩ := slice_low w .i64 a c hb n (by omega)
    rw [show l.length - n = 4 by omega] at hs2 hb2
    have hl1 : (l.take n).length = n := by rw [List.length_take]; omega
    have hl2 : (l.drop n).length = 4 := by rw [List.length_drop]; omega
    have S1 := hide hb1
    have S2 := hide hb2
    have HL1 := hide hl1
    have HL2 := hide hl2
    clear hb1 hb2 hb hl1 hl2
    by_cases hq : (l.drop n == le4 (crc (l.take n)).toNat) = true
    · have e1 : openErr l = 0 := by unfold openErr; rw [if_neg h4, hn, if_pos hq]
      have e2 : openData l = l.take n := by unfold openData; rw [e1, if_pos rfl, hn]
      rw [e1, e2, HL1.out]
      have HQ := hide hq
      clear e1 e2 hq
      go_enter Try.func31, Try.ntmps31
      go_wp2_with fail
      go_quiet (fail)
      go_wp2_with (first | (go_at_call 43; refine (sumBytes_at _ _ _ _ (l.take n) HL1.out (S1.out.plain.later (below_drewN _ _ _)) S1.out.len).mono ?_; rintro e w1 ⟨g, rfl, A1, A2⟩; have B1 := hide A1; have B2 := hide ((below_drewN w.heap.size w _).trans A2); clear A1 A2) | (go_at_call 42; refine (equal_any _ _ _ (l.drop n) _ (S2.out.plain.later B2.out) B1.out HL2.out (by rw [HL2.out]; unfold maxLen; omega)).mono ?_; rintro e w2 ⟨rfl, nd, A2⟩; have B3 := hide (show Below w.heap.size w w2 by rw [A2]; exact B2.out.trans (below_drewN _ _ _)); clear A2; rw [HQ.out]) | (go_at_call 38; refine (clone_any _ _ (l.take n) (S1.out.plain.later B3.out) (by rw [HL1.out]; omega)).mono ?_; rintro e w3 ⟨a', c', rfl, A1, A2⟩; rw [HL1.out] at A1; have B4 := hide A1; have B5 := hide A2; clear A1 A2; rw [HL1.out]))
      go_ret2
      have hs := B3.out.size
      exact ⟨_, _, rfl, B4.out.mono (fun _ _ _ _ => rfl) hs (Nat.le_refl _), B3.out.trans (B5.out.mono hs)⟩
    · have hq' : (l.drop n == le4 (crc (l.take n)).toNat) = false := by simpa using hq
      have e1 : openErr l = 13 := by unfold openErr; rw [if_neg h4, hn, if_neg hq]
      have e2 : openData l = [] := by unfold openData; rw [e1]; rfl
      rw [e1, e2]
      have HQ := hide hq'
      clear e1 e2 hq hq'
      go_enter Try.func31, Try.ntmps31
      go_wp2_with fail
      go_quiet (fail)
      go_wp2_with (first | (go_at_call 43; refine (sumBytes_at _ _ _ _ (l.take n) HL1.out (S1.out.plain.later (below_drewN _ _ _)) S1.out.len).mono ?_; rintro e w1 ⟨g, rfl, A1, A2⟩; have B1 := hide A1; have B2 := hide ((below_drewN w.heap.size w _).trans A2); clear A1 A2) | (go_at_call 42; refine (equal_any _ _ _ (l.drop n) _ (S2.out.plain.later B2.out) B1.out HL2.out (by rw [HL2.out]; unfold maxLen; omega)).mono ?_; rintro e w2 ⟨rfl, nd, A2⟩; have B3 := hide (show Below w.heap.size w w2 by rw [A2]; exact B2.out.trans (below_drewN _ _ _)); clear A2; rw [HQ.out]))
      go_ret2
      exact ⟨none, 0, rfl, ⟨none, 0, rfl, by simp, by unfold maxLen; omega, fun j hj => by simp at hj⟩, B3.out⟩
end Go.Proofs.Ytfgcpkbbneicfaa
