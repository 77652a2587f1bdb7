/- The reference's find, names, open, large. -/
import Derived.Test.YtnmkggoampkekaaGreatDoorGHRT
import Derived.Test.YtnmkggoampkekaaGreatDoorGHLdG
import Derived.Deep.QuietTactic
import Derived.BigQuiet
namespace Go.Proofs.YtnmkggoampkekaaGreatDoor
open Go.RowKit Go.Maps

theorem tl_ne {X Y : ByteArray} (h : X ≠ Y) : ¬ X.toList = Y.toList := fun e => h (by
  rw [ByteArray.toList_eq, ByteArray.toList_eq] at e
  cases X with
  | mk x => cases Y with
    | mk y => cases x; cases y; simp only at e; rw [e])
theorem bsN_ne {a b : List UInt8} (h : a ≠ b) : bsN a ≠ bsN b := fun e => h (bsN_inj e)
set_option maxRecDepth 100000 in
set_option maxHeartbeats 1000000 in
theorem find_k7 (l : List (List UInt8)) (s : List UInt8) (w : World) (B : Nat) (sl : Value) (h : NamesAt w B sl l) (hB : B ≤ w.heap.size) :
    Calls Tryz.prog 64 #[sl, .string (bsN s)] w fun e w' => e = .returned (.int .i64 (fnd l s)) ∧ w = w' := by
  obtain ⟨a, c, rfl, hl⟩ := h.len
  have HH := hide h
  clear h
  go_enter Tryz.func64, Tryz.ntmps64
  go_wp2
  go_loop [5] (fun i => ∃ k : Nat, k ≤ l.length ∧ i = .int .i64 k ∧ ∀ j (hj : j < l.length), j < k → l[j] ≠ s) (fun i => l.length - (intOf i).toNat)
  case atStart => exact ⟨0, Nat.zero_le _, rfl, fun j _ h => by omega⟩
  case round =>
    obtain ⟨k, hk, rfl, hn⟩ := hrel
    by_cases hlt : k < l.length
    · obtain ⟨b, off, rfl, hb, hc⟩ := HH.out.item k hlt
      have lb : b < w.heap.size := by omega
      have k0 : (0 : Int) ≤ (k : Int) := by omega
      have k1 : (k : Int) < (l.length : Int) := by omega
      by_cases e : l[k] = s
      · have HF := hide (fnd_hit hlt e hn)
        clear hn
        rw [e] at hc
        clear e
        go_wp2
        go_ret
        exact ⟨by rw [HF.out]; rfl, rfl⟩
      · have HN := hide (fun j (hj : j < l.length) (hjk : j < k + 1) => (show l[j] ≠ s from by
          by_cases e' : j = k
          · subst e'; exact e
          · exact hn j hj (by omega)))
        have hne := bsN_ne e
        clear hn e
        generalize bsN l[k] = X at *
        generalize bsN s = Y at *
        have hnt := tl_ne hne
        have hnb : (X.toList == Y.toList) = false := by simpa using hnt
        have hnc : (X.toList != Y.toList) = true := by simpa using hnt
        go_wp2
        go_round
        case rel => exact ⟨k + 1, by omega, by go_num, HN.out⟩
        case measure => simp [intOf]; omega
    · have he : k = l.length := by omega
      subst he
      have HF := hide (fnd_miss (fun j hj => hn j hj hj))
      clear hn
      go_wp2
      go_ret
      exact ⟨by rw [HF.out]; rfl, rfl⟩
set_option maxRecDepth 100000 in
set_option maxHeartbeats 1000000 in
theorem names_k7 (l r : List (List UInt8)) (w : World) (B C : Nat) (sa sb : Value) (ha : NamesAt w B sa l) (hb : NamesAt w C sb r) (hB : B ≤ w.heap.size) (hC : C ≤ w.heap.size) :
    Calls Tryz.prog 57 #[sa, sb] w fun e w' => e = .returned (.bool (decide (l = r))) ∧ Below w.heap.size w w' := by
  obtain ⟨a, c, rfl, hl⟩ := ha.len
  obtain ⟨a', c', rfl, hl'⟩ := hb.len
  have HA := hide ha
  have HB := hide hb
  clear ha hb
  by_cases hlen : l.length = r.length
  rotate_left
  · have hne : decide (l = r) = false := by simp; intro h; exact hlen (by rw [h])
    rw [hne]
    have hlb : ((l.length : Int) != (r.length : Int)) = true := by simp; omega
    clear hlen hne
    go_enter Tryz.func57, Tryz.ntmps57
    go_wp2
    go_ret
    exact ⟨rfl, Below.refl _ _⟩
  have HL := hide hlen
  have hlb2 : ((l.length : Int) != (r.length : Int)) = false := by simp; omega
  clear hlen
  go_enter Tryz.func57, Tryz.ntmps57
  go_wp2
  clear hlb2
  go_loopw [5] (fun i wr => ∃ k : Nat, k ≤ l.length ∧ i = .int .i64 k ∧ (∀ j (hj : j < l.length) (hj' : j < r.length), j < k → l[j] = r[j]) ∧ ∃ n, wr = w.drewN n) (fun i _ => l.length - (intOf i).toNat)
  case atStart => exact ⟨0, Nat.zero_le _, rfl, fun j _ _ h => by omega, 0, rfl⟩
  case round =>
    obtain ⟨k, hk, rfl, hn, nd, rfl⟩ := hrel
    by_cases hlt : k < l.length
    · have hlr : k < r.length := by have := HL.out; omega
      obtain ⟨b1, o1, rfl, g1, p1⟩ := HA.out.item k hlt
      obtain ⟨b2, o2, rfl, g2, p2⟩ := HB.out.item k hlr
      have l1 : b1 < w.heap.size := by omega
      have l2 : b2 < w.heap.size := by omega
      have k0 : (0 : Int) ≤ (k : Int) := by omega
      have k1 : (k : Int) < (l.length : Int) := by omega
      have k2 : (k : Int) < (r.length : Int) := by omega
      by_cases e : l[k] = r[k]
      · have HN := hide (fun j (hj : j < l.length) (hj' : j < r.length) (hjk : j < k + 1) => (show l[j] = r[j] from by
          by_cases e' : j = k
          · subst e'; exact e
          · exact hn j hj hj' (by omega)))
        rw [e] at p1
        clear hn e
        go_wp2
        go_quiet (fail)
        go_wp2
        go_roundw
        case rel => exact ⟨k + 1, by omega, by go_num, HN.out, _, rfl⟩
        case measure => simp [intOf]; omega
      · have HF : Hid (decide (l = r) = false) := hide (by simp only [decide_eq_false_iff_not]; intro h; subst h; exact e rfl)
        have hne := bsN_ne e
        clear hn e
        generalize bsN l[k] = X at *
        generalize bsN r[k] = Y at *
        have hnt := tl_ne hne
        have hnb : (X.toList == Y.toList) = false := by simpa using hnt
        have hnc : (X.toList != Y.toList) = true := by simpa using hnt
        go_wp2
        go_quiet (fail)
        go_wp2
        go_ret
        exact ⟨by rw [HF.out]; rfl, trans_v (drewB _ _) (drewB _ _)⟩
    · have he : k = l.length := by omega
      subst he
      have HF : Hid (decide (l = r) = true) := hide (by
        simp only [decide_eq_true_eq]
        exact List.ext_getElem HL.out (fun j h1 h2 => hn j h1 h2 h1))
      clear hn
      go_wp2
      go_ret
      exact ⟨by rw [HF.out]; rfl, drewB _ _⟩
end Go.Proofs.YtnmkggoampkekaaGreatDoor

/- The reference's open and large. -/
namespace Go.Proofs.YtnmkggoampkekaaGreatDoor
open Go.RowKit Go.Maps

/-- What the limits ask of operations in memory. -/
def ClAt (w : World) (B : Nat) (sl : Value) (l : List Cl) : Prop := ∃ a c, sl = .slice a l.length c ∧ l.length ≤ 1000000000 ∧ ∀ j (h : j < l.length), ∃ b off, a = some ⟨b, off, none⟩ ∧ b < B ∧ w.cell? ⟨b, off + j * 15, none⟩ = some (.int .i64 l[j].proc) ∧ w.cell? ⟨b, off + j * 15 + 8, none⟩ = some (.int .i64 l[j].inv) ∧ w.cell? ⟨b, off + j * 15 + 9, none⟩ = some (.int .i64 l[j].res)
theorem ClAt.below {w w' : World} {B : Nat} {sl : Value} {l : List Cl} (h : ClAt w B sl l) (hb : Below B w w') : ClAt w' B sl l := by
  obtain ⟨a, c, e, hl, hc⟩ := h
  refine ⟨a, c, e, hl, fun j hj => ?_⟩
  obtain ⟨b, off, e, hB, h0, h1, h2⟩ := hc j hj
  exact ⟨b, off, e, hB, (hb.cell (p := ⟨b, _, none⟩) hB).trans h0, (hb.cell (p := ⟨b, _, none⟩) hB).trans h1, (hb.cell (p := ⟨b, _, none⟩) hB).trans h2⟩
theorem ClAt.up {w : World} {B B' : Nat} {sl : Value} {l : List Cl} (h : ClAt w B sl l) (hB : B ≤ B') : ClAt w B' sl l := by
  obtain ⟨a, c, e, hl, hc⟩ := h
  refine ⟨a, c, e, hl, fun j hj => ?_⟩
  obtain ⟨b, off, e, hb, h0⟩ := hc j hj
  exact ⟨b, off, e, by omega, h0⟩
theorem ClAt.len {w : World} {B : Nat} {sl : Value} {l : List Cl} (h : ClAt w B sl l) : ∃ a c, sl = .slice a l.length c ∧ l.length ≤ 1000000000 := by
  obtain ⟨a, c, e, hl, _⟩ := h
  exact ⟨a, c, e, hl⟩
theorem ClAt.item {w : World} {B : Nat} {a : Option Addr} {m c : Nat} {l : List Cl} (h : ClAt w B (.slice a m c) l) (j : Nat) (hj : j < l.length) : ∃ b off, a = some ⟨b, off, none⟩ ∧ b < B ∧ w.cell? ⟨b, off + j * 15, none⟩ = some (.int .i64 l[j].proc) ∧ w.cell? ⟨b, off + j * 15 + 8, none⟩ = some (.int .i64 l[j].inv) ∧ w.cell? ⟨b, off + j * 15 + 9, none⟩ = some (.int .i64 l[j].res) := by
  obtain ⟨a', c', e, _, hc⟩ := h
  cases e
  exact hc j hj
theorem HvsAt.cl {w : World} {B : Nat} {sl : Value} {rs : List CV} (h : HvsAt w B sl (rs.map hvOf)) : ClAt w B sl (rs.map (·.1)) := by
  obtain ⟨a, c, e, hl, hc⟩ := h
  have e1 : (rs.map hvOf).length = rs.length := List.length_map _
  have e2 : (rs.map (·.1)).length = rs.length := List.length_map _
  refine ⟨a, c, by rw [e, e1, e2], by omega, fun j hj => ?_⟩
  obtain ⟨b, off, ea, hb, h0⟩ := hc j (by omega)
  refine ⟨b, off, ea, hb, ?_, ?_, ?_⟩
  · have := h0 0 _ rfl
    simpa [hvOf, chOf] using this
  · have := h0 8 _ rfl
    simpa [hvOf, chOf] using this
  · have := h0 9 _ rfl
    simpa [hvOf, chOf] using this
set_option maxRecDepth 100000 in
set_option maxHeartbeats 1000000 in
theorem open_k7 (w : World) (v0 v1 v2 : Value) (hv0 : ∃ a m c, v0 = .slice a m c) (hv1 : ∃ a m c, v1 = .slice a m c) (cs : List Cl) (hc : ClAt w w.heap.size v2 cs) (p : Nat) :
    Calls Tryz.prog 65 #[.agg #[v0, v1, v2], .int .i64 (p : Int)] w fun e w' => e = .returned (.int .i64 (opnR cs p cs.length)) ∧ Below w.heap.size w w' := by
  obtain ⟨a0, m0, c0, rfl⟩ := hv0
  obtain ⟨a1, m1, c1, rfl⟩ := hv1
  obtain ⟨a2, c2, rfl, hl⟩ := hc.len
  obtain ⟨W, hW⟩ : ∃ W, w.alloc (.cells #[.slice a0 m0 c0, .slice a1 m1 c1, .slice a2 cs.length c2] 25) = W := ⟨_, rfl⟩
  have bW : Below w.heap.size w W := by rw [← hW]; exact alloc_v (Below.refl _ _) _
  have e1 : W.heap[w.heap.size]? = some (.cells #[.slice a0 m0 c0, .slice a1 m1 c1, .slice a2 cs.length c2] 25 (0, 0)) := by rw [← hW]; exact World.alloc_heap_new w _
  have x2 := cells_at e1 2 _ rfl
  have HC := hide (hc.below bW)
  have hz := bW.size
  clear hc e1
  go_enter Tryz.func65, Tryz.ntmps65
  go_wp2
  go_loop [5] (fun i => ∃ m : Nat, m ≤ cs.length ∧ i = .int .i64 ((m : Int) - 1) ∧ opnR cs p cs.length = opnR cs p m) (fun i => (intOf i + 1).toNat)
  case atStart => exact ⟨cs.length, Nat.le_refl _, rfl, rfl⟩
  case round =>
    obtain ⟨m, hm, rfl, hr⟩ := hrel
    have HR := hide hr
    clear hr
    rcases m with _ | m
    · go_wp2
      go_ret
      exact ⟨by rw [HR.out]; rfl, bW⟩
    · have hlt : m < cs.length := by omega
      obtain ⟨b, off, rfl, hb, p0, p1, p2⟩ := HC.out.item m hlt
      have lb : b < W.heap.size := by omega
      have em : ((m + 1 : Nat) : Int) - 1 = (m : Int) := by omega
      have k0 : (0 : Int) ≤ (m : Int) := by omega
      have k1 : (m : Int) < (cs.length : Int) := by omega
      rw [em]
      by_cases e : cs[m].proc = p
      · by_cases r : cs[m].res < 0
        · have HF := hide (HR.out.trans (opnR_open hlt e r))
          rw [e] at p0
          generalize cs[m].res = rr at *
          clear em e
          go_wp2
          go_ret
          exact ⟨by rw [HF.out]; rfl, bW⟩
        · have HF := hide (HR.out.trans (opnR_shut hlt e r))
          rw [e] at p0
          generalize cs[m].res = rr at *
          clear em e
          go_wp2
          go_ret
          exact ⟨by rw [HF.out]; rfl, bW⟩
      · have HF := hide (HR.out.trans (opnR_other hlt e))
        generalize cs[m].proc = pp at *
        have hpb : ((pp : Int) == (p : Int)) = false := by simp; omega
        have hpn : ¬ ((pp : Int) = (p : Int)) := by omega
        clear em e
        go_wp2
        go_round
        case rel => exact ⟨m, by omega, by go_num, HF.out⟩
        case measure => simp [intOf]
set_option maxRecDepth 100000 in
set_option maxHeartbeats 2000000 in
theorem large_k7 (w : World) (v0 v1 v2 : Value) (hv0 : ∃ a m c, v0 = .slice a m c) (hv1 : ∃ a m c, v1 = .slice a m c) (cs : List Cl) (hc : ClAt w w.heap.size v2 cs) (t : Int) (M : Nat) (hM : M ≤ cs.length) (h1 : ∀ j (h : j < cs.length), j < M → (cs[j].inv : Int) ≤ t) (h2 : ∀ h : M < cs.length, t < (cs[M].inv : Int)) (hP : ∀ j (h : j < cs.length), cs[j].proc ≤ 1000000000) :
    Calls Tryz.prog 56 #[.agg #[v0, v1, v2], .int .i64 t] w fun e w' => e = .returned (.bool (largeR cs t M)) ∧ Below w.heap.size w w' := by
  obtain ⟨a0, m0, c0, rfl⟩ := hv0
  obtain ⟨a1, m1, c1, rfl⟩ := hv1
  obtain ⟨a2, c2, rfl, hl⟩ := hc.len
  obtain ⟨W, hW⟩ : ∃ W, w.alloc (.cells #[.slice a0 m0 c0, .slice a1 m1 c1, .slice a2 cs.length c2] 25) = W := ⟨_, rfl⟩
  have bW : Below w.heap.size w W := by rw [← hW]; exact alloc_v (Below.refl _ _) _
  have e1 : W.heap[w.heap.size]? = some (.cells #[.slice a0 m0 c0, .slice a1 m1 c1, .slice a2 cs.length c2] 25 (0, 0)) := by rw [← hW]; exact World.alloc_heap_new w _
  have x2 := cells_at e1 2 _ rfl
  have HC := hide (hc.below bW)
  have hz := bW.size
  have H1 := hide h1
  have H2 := hide h2
  have HP := hide hP
  clear hc e1 h1 h2 hP
  have hmx : ∀ m, maxP cs m ≤ 1000000001 := fun m => by
    induction m with
    | zero => simp [maxP]
    | succ m ih =>
      rw [maxP]
      split
      · have := HP.out m (by assumption); omega
      · exact ih
  go_enter Tryz.func56, Tryz.ntmps56
  go_wp2
  go_loop [5, 6, 7, 8] (fun c q n i => ∃ m : Nat, m ≤ M ∧ c = .int .i64 (m : Int) ∧ q = .int .i64 (maxP cs m : Nat) ∧ n = .int .i64 (waitN cs t m : Nat) ∧ i = .int .i64 (m : Int)) (fun _ _ _ i => cs.length - (intOf i).toNat)
  case atStart => exact ⟨0, Nat.zero_le _, rfl, rfl, rfl, rfl⟩
  case round =>
    obtain ⟨m, hm, rfl, rfl, rfl, rfl⟩ := hrel
    have hq := hmx m
    have hwl := waitN_le cs t m
    by_cases hlt : m < M
    · have hlc : m < cs.length := by omega
      obtain ⟨b, off, rfl, hb, p0, p1, p2⟩ := HC.out.item m hlc
      have lb : b < W.heap.size := by omega
      have k0 : (0 : Int) ≤ (m : Int) := by omega
      have k1 : (m : Int) < (cs.length : Int) := by omega
      have hin := H1.out m hlc hlt
      have hpp := HP.out m hlc
      have HX := hide (maxP_succ hlc)
      have HY := hide (fun e => waitN_yes (cs := cs) (t := t) hlc e)
      have HN := hide (fun e => waitN_no (cs := cs) (t := t) hlc e)
      generalize maxP cs m = q at *
      generalize waitN cs t m = n at *
      generalize cs[m].inv = iv at *
      generalize cs[m].proc = pp at *
      generalize cs[m].res = rr at *
      by_cases r0 : rr < 0
      · have HF := hide (HY.out (.inl r0))
        have d0 : decide (rr < 0) = true := by simpa using r0
        clear HY HN
        go_wp2
        go_round
        case rel => exact ⟨m + 1, by omega, by go_num, by rw [HX.out]; go_num, by rw [HF.out]; go_num, by go_num⟩
        case measure => simp [intOf]; omega
      · have d0 : decide (rr < 0) = false := by simpa using r0
        by_cases r1 : t < rr
        · have HF := hide (HY.out (.inr r1))
          have d1 : decide (t < rr) = true := by simpa using r1
          clear HY HN
          go_wp2
          go_round
          case rel => exact ⟨m + 1, by omega, by go_num, by rw [HX.out]; go_num, by rw [HF.out]; go_num, by go_num⟩
          case measure => simp [intOf]; omega
        · have HF := hide (HN.out (by omega))
          have d1 : decide (t < rr) = false := by simpa using r1
          clear HY HN
          go_wp2
          go_round
          case rel => exact ⟨m + 1, by omega, by go_num, by rw [HX.out]; go_num, by rw [HF.out], by go_num⟩
          case measure => simp [intOf]; omega
    · have he : m = M := by omega
      subst he
      have HEND := hide (fun (h : m < cs.length) => H2.out h)
      have hlr : largeR cs t m = (decide (4096 < m) || (decide (64 < maxP cs m) || decide (10 < waitN cs t m))) := rfl
      have HLR := hide hlr
      clear hlr hmx
      by_cases hl3 : m < cs.length
      · obtain ⟨b, off, rfl, hb, p0, p1, p2⟩ := HC.out.item m hl3
        have lb : b < W.heap.size := by omega
        have k0 : (0 : Int) ≤ (m : Int) := by omega
        have k1 : (m : Int) < (cs.length : Int) := by omega
        have hin := HEND.out hl3
        have hin2 : ¬ ((cs[m].inv : Int) ≤ t) := by omega
        have hin3 : decide ((cs[m].inv : Int) ≤ t) = false := by simpa using hin2
        generalize maxP cs m = q at *
        generalize waitN cs t m = n at *
        generalize cs[m].inv = iv at *
        by_cases c1 : 4096 < m
        · have d1 : (4096 : Int) < (m : Int) := by omega
          go_wp2
          go_ret
          exact ⟨by rw [HLR.out]; simp [c1], bW⟩
        · have d1 : ¬ ((4096 : Int) < (m : Int)) := by omega
          have d1' : decide ((4096 : Int) < (m : Int)) = false := by simpa using d1
          by_cases c2 : 64 < q
          · have d2 : (64 : Int) < (q : Int) := by omega
            go_wp2
            go_ret
            exact ⟨by rw [HLR.out]; simp [c1, c2], bW⟩
          · have d2 : ¬ ((64 : Int) < (q : Int)) := by omega
            have d2' : decide ((64 : Int) < (q : Int)) = false := by simpa using d2
            by_cases c3 : 10 < n
            · have d3 : (10 : Int) < (n : Int) := by omega
              go_wp2
              go_ret
              exact ⟨by rw [HLR.out]; simp [c1, c2, c3], bW⟩
            · have d3 : ¬ ((10 : Int) < (n : Int)) := by omega
              have d3' : decide ((10 : Int) < (n : Int)) = false := by simpa using d3
              go_wp2
              go_ret
              exact ⟨by rw [HLR.out]; simp [c1, c2, c3], bW⟩
      · have k1 : ¬ ((m : Int) < (cs.length : Int)) := by omega
        have k2 : decide ((m : Int) < (cs.length : Int)) = false := by simpa using hl3
        generalize maxP cs m = q at *
        generalize waitN cs t m = n at *
        by_cases c1 : 4096 < m
        · have d1 : (4096 : Int) < (m : Int) := by omega
          go_wp2
          go_ret
          exact ⟨by rw [HLR.out]; simp [c1], bW⟩
        · have d1 : ¬ ((4096 : Int) < (m : Int)) := by omega
          have d1' : decide ((4096 : Int) < (m : Int)) = false := by simpa using d1
          by_cases c2 : 64 < q
          · have d2 : (64 : Int) < (q : Int) := by omega
            go_wp2
            go_ret
            exact ⟨by rw [HLR.out]; simp [c1, c2], bW⟩
          · have d2 : ¬ ((64 : Int) < (q : Int)) := by omega
            have d2' : decide ((64 : Int) < (q : Int)) = false := by simpa using d2
            by_cases c3 : 10 < n
            · have d3 : (10 : Int) < (n : Int) := by omega
              go_wp2
              go_ret
              exact ⟨by rw [HLR.out]; simp [c1, c2, c3], bW⟩
            · have d3 : ¬ ((10 : Int) < (n : Int)) := by omega
              have d3' : decide ((10 : Int) < (n : Int)) = false := by simpa using d3
              go_wp2
              go_ret
              exact ⟨by rw [HLR.out]; simp [c1, c2, c3], bW⟩
end Go.Proofs.YtnmkggoampkekaaGreatDoor
