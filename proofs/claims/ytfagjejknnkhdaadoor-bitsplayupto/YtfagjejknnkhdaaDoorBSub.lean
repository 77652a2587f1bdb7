/- The small functions behind Subsets. -/
import Derived.Test.YtfagjejknnkhdaaDoorBClone
import Derived.Test.YtfagjejknnkhdaaDoorBSubMath
namespace Go.Proofs.YtfagjejknnkhdaaDoor
open Go.RowKit

def ints (l : List Int) : List Value := l.map fun x => Value.int .i64 x
def nats (l : List Nat) : List Value := l.map fun (x : Nat) => Value.int .i64 (x : Int)
theorem ints_length (l : List Int) : (ints l).length = l.length := by simp [ints]
theorem nats_length (l : List Nat) : (nats l).length = l.length := by simp [nats]
theorem ints_one (l : List Int) : ∀ u ∈ ints l, u.oneCell' = true := by
  intro u hu
  obtain ⟨_, _, rfl⟩ := List.mem_map.1 hu
  rfl
theorem ints_get (l : List Int) (k : Nat) (h : k < l.length) : (ints l)[k]? = some (.int .i64 l[k]) := by simp [ints, h]
theorem nats_get (l : List Nat) (k : Nat) (h : k < l.length) : (nats l)[k]? = some (.int .i64 (l[k] : Int)) := by simp [nats, h]
theorem nats_set (l : List Nat) (k x : Nat) : (nats l).set k (.int .i64 (x : Int)) = nats (l.set k x) := by simp [nats, List.map_set]
theorem ints_set (l : List Int) (k : Nat) (x : Int) : (ints l).set k (.int .i64 x) = ints (l.set k x) := by simp [ints, List.map_set]

theorem made_zeroI (n : Nat) : (madeCells #[Value.int .i64 0] n).toList = ints (List.replicate n 0) := by
  apply List.ext_getElem
  · simp [madeCells, ints]
  · intro j h1 h2
    simp [madeCells, ints, Nat.mod_one]

/-- A row of new memory in block g, as the functions make it. -/
def fp (f : Nat → Int) (n k : Nat) : List Int := (List.range n).map fun i => if i < k then f i else 0
theorem fp_zero (f : Nat → Int) (n : Nat) : fp f n 0 = List.replicate n 0 := by
  apply List.ext_getElem
  · simp [fp]
  · intro i h1 h2
    simp [fp]
theorem fp_len (f : Nat → Int) (n k : Nat) : (fp f n k).length = n := by simp [fp]
theorem fp_step (f : Nat → Int) (n k : Nat) : (fp f n k).set k (f k) = fp f n (k + 1) := by
  apply List.ext_getElem
  · simp [fp]
  · intro i h1 h2
    rw [List.getElem_set]
    by_cases e : k = i
    · subst e
      simp [fp]
    · rw [if_neg e]
      have : (i < k + 1) = (i < k) := by simp; omega
      simp [fp, this]
theorem fp_end (f : Nat → Int) (n : Nat) : fp f n n = (List.range n).map f := by
  apply List.ext_getElem
  · simp [fp]
  · intro i h1 h2
    have h : i < n := by simpa [fp] using h1
    simp [fp, h]

set_option maxRecDepth 100000 in
set_option maxHeartbeats 1000000 in
theorem firstPlaces_k (size : Nat) (hs : size ≤ 10) (w : World) :
    Calls Tryd.prog 42 #[.int .i64 (size : Int)] w fun e w' => e = .returned (.slice (some ⟨w.heap.size, 0, none⟩) size size) ∧ w'.ownsRow w.heap.size 3 1 (.slice (some ⟨w.heap.size, 0, none⟩) size size) size (nats (List.range size)) ∧ Below w.heap.size w w' ∧ w'.heap.size = w.heap.size + 1 := by
  obtain ⟨i0, hi, hz0, hz1, hz2⟩ := info_parts infoInt
  have hmk := fun w => run_make (P := Tryd.prog) w 55 3 i0 (.int .i64 0) Tryd.underlying55 hi hz0 .i64 .i64 (size : Int) (size : Int) (by omega) (by omega) (by rw [hz2]; omega) (by omega)
  rw [hz1] at hmk
  go_enter Tryd.func42, Tryd.ntmps42
  go_wp2
  go_loopw [4, 9] (fun _ i wr => ∃ k : Nat, k ≤ size ∧ i = .int .i64 k ∧ wr.ownsRow w.heap.size 3 1 (.slice (some ⟨w.heap.size, 0, none⟩) size size) size (ints (fp (fun i => (i : Int)) size k)) ∧ Below w.heap.size w wr ∧ wr.heap.size = w.heap.size + 1) (fun _ i _ => size - (intOf i).toNat)
  case atStart =>
    refine ⟨0, Nat.zero_le _, rfl, ?_, (Below.refl _ _).alloc (Nat.le_refl _) _, by simp⟩
    have h1 := World.ownsRow_lit (base := w.heap.size) (e := 3) (size := 1) w (madeCells #[.int .i64 0] size) size (Nat.le_refl _) (by unfold maxLen; omega) (by simp [madeCells])
    rw [made_zeroI] at h1
    rw [fp_zero]
    exact h1
  case round =>
    obtain ⟨k, hk, rfl, hrow, hbel, hsz⟩ := hrel
    clear hmk
    by_cases hlt : k < size
    · have hc := hrow.cellAt k (by omega)
      rw [ints_get _ k (by rw [fp_len]; exact hlt)] at hc
      have hf := hrow.frozenAt k
      have hst := hrow.stored k (.int .i64 (k : Int))
      rw [ints_set, fp_step (fun i => (i : Int)) size k] at hst
      have R := hide (And.intro hst.1 (And.intro (hbel.setCell (p := ⟨w.heap.size, k, none⟩) (Nat.le_refl _) (.int .i64 (k : Int))) hsz))
      clear hst hrow hbel hsz
      go_wp2
      go_roundw
      case rel => exact ⟨k + 1, by omega, by go_num, R.out.1, R.out.2.1, by simp [World.setCell]; exact R.out.2.2⟩
      case measure => simp [intOf]; omega
    · have e : k = size := by omega
      subst e
      rw [fp_end] at hrow
      have hm : ints ((List.range k).map fun (i : Nat) => (i : Int)) = nats (List.range k) := by simp [ints, nats]
      rw [hm] at hrow
      have R := hide (And.intro hrow (And.intro hbel hsz))
      clear hrow hbel hsz
      go_wp2
      go_ret
      exact ⟨rfl, R.out.1, R.out.2.1, R.out.2.2⟩

set_option maxRecDepth 100000 in
set_option maxHeartbeats 1000000 in
theorem pick_k {w : World} {gi ci gp cp : Nat} {its : List Int} {ps : List Nat} (hi1 : w.ownsRow 0 3 1 (.slice (some ⟨gi, 0, none⟩) its.length ci) its.length (ints its)) (hp1 : w.ownsRow 0 3 1 (.slice (some ⟨gp, 0, none⟩) ps.length cp) ps.length (nats ps))
    (hl : ps.length ≤ 10) (hin : ∀ k (h : k < ps.length), ps[k] < its.length) (_hil : its.length ≤ 10) :
    Calls Tryd.prog 44 #[.slice (some ⟨gi, 0, none⟩) its.length ci, .slice (some ⟨gp, 0, none⟩) ps.length cp] w fun e w' => e = .returned (.slice (some ⟨w.heap.size, 0, none⟩) ps.length ps.length) ∧
      w'.ownsRow w.heap.size 3 1 (.slice (some ⟨w.heap.size, 0, none⟩) ps.length ps.length) ps.length (ints (ps.map fun p => its.getD p 0)) ∧ Below w.heap.size w w' ∧ w'.heap.size = w.heap.size + 1 := by
  obtain ⟨i0, hi, hz0, hz1, hz2⟩ := info_parts infoInt
  have hmk := fun w => run_make (P := Tryd.prog) w 55 3 i0 (.int .i64 0) Tryd.underlying55 hi hz0 .i64 .i64 (ps.length : Int) (ps.length : Int) (by omega) (by omega) (by rw [hz2]; omega) (by omega)
  rw [hz1] at hmk
  have hgi : gi < w.heap.size := (hi1.lt gi rfl).2
  have hgp : gp < w.heap.size := (hp1.lt gp rfl).2
  have HI := hide fun k (h : k < its.length) => (hi1.cellAt k (by omega)).trans (ints_get its k h)
  have HP := hide fun k (h : k < ps.length) => (hp1.cellAt k (by omega)).trans (nats_get ps k h)
  have HN := hide hin
  clear hi1 hp1 hin
  go_enter Tryd.func44, Tryd.ntmps44
  go_wp2
  go_loopw [6, 7, 13] (fun _ _ i wr => ∃ k : Nat, k ≤ ps.length ∧ i = .int .i64 k ∧ wr.ownsRow w.heap.size 3 1 (.slice (some ⟨w.heap.size, 0, none⟩) ps.length ps.length) ps.length (ints (fp (fun i => its.getD (ps.getD i 0) 0) ps.length k)) ∧ Below w.heap.size w wr ∧ wr.heap.size = w.heap.size + 1) (fun _ _ i _ => ps.length - (intOf i).toNat)
  case atStart =>
    refine ⟨0, Nat.zero_le _, rfl, ?_, (Below.refl _ _).alloc (Nat.le_refl _) _, by simp⟩
    have h1 := World.ownsRow_lit (base := w.heap.size) (e := 3) (size := 1) w (madeCells #[.int .i64 0] ps.length) ps.length (Nat.le_refl _) (by unfold maxLen; omega) (by simp [madeCells])
    rw [made_zeroI] at h1
    rw [fp_zero]
    exact h1
  case round =>
    obtain ⟨k, hk, rfl, hrow, hbel, hsz⟩ := hrel
    clear hmk
    by_cases hlt : k < ps.length
    · have hc := hrow.cellAt k (by omega)
      rw [ints_get _ k (by rw [fp_len]; exact hlt)] at hc
      have hf := hrow.frozenAt k
      have hst := hrow.stored k (.int .i64 (its.getD (ps.getD k 0) 0))
      rw [ints_set, fp_step (fun i => its.getD (ps.getD i 0) 0) ps.length k] at hst
      have hn := HN.out k hlt
      have d1 := (hbel.cell (p := ⟨gp, k, none⟩) hgp).trans (HP.out k hlt)
      have d2 := (hbel.cell (p := ⟨gi, ps[k], none⟩) hgi).trans (HI.out ps[k] hn)
      have e1 : its.getD (ps.getD k 0) 0 = its[ps[k]] := by simp [hlt, hn]
      rw [e1] at hst
      have R := hide (And.intro hst.1 (And.intro (hbel.setCell (p := ⟨w.heap.size, k, none⟩) (Nat.le_refl _) (.int .i64 its[ps[k]])) hsz))
      clear hst hrow hbel hsz e1 HI HP HN
      generalize its[ps[k]] = y at *
      generalize ps[k] = x at *
      go_wp2
      go_roundw
      case rel => exact ⟨k + 1, by omega, by go_num, R.out.1, R.out.2.1, by simp [World.setCell]; exact R.out.2.2⟩
      case measure => simp [intOf]; omega
    · have e : k = ps.length := by omega
      subst e
      rw [fp_end] at hrow
      have hm : (List.range ps.length).map (fun i => its.getD (ps.getD i 0) 0) = ps.map fun p => its.getD p 0 := by
        apply List.ext_getElem
        · simp
        · intro j h1 h2
          simp at h1 h2
          simp [h1]
      rw [hm] at hrow
      have R := hide (And.intro hrow (And.intro hbel hsz))
      clear hrow hbel hsz
      go_wp2
      go_ret
      exact ⟨rfl, R.out.1, R.out.2.1, R.out.2.2⟩

/-- What stands when the places from k on are laid anew, up to place j. -/
def mv (ps : List Nat) (k j : Nat) : List Nat := (List.range ps.length).map fun i => if k ≤ i ∧ i < j then ps.getD k 0 + 1 + (i - k) else ps.getD i 0
theorem mv_len (ps : List Nat) (k j : Nat) : (mv ps k j).length = ps.length := by simp [mv]
theorem mv_first (ps : List Nat) (k : Nat) : ps.set k (ps.getD k 0 + 1) = mv ps k (k + 1) := by
  apply List.ext_getElem
  · simp [mv]
  · intro i h1 h2
    rw [List.length_set] at h1
    rw [List.getElem_set]
    by_cases e : k = i
    · subst e
      simp [mv]
    · have : ¬ (k ≤ i ∧ i < k + 1) := by omega
      rw [if_neg e]
      simp [mv, h1]
      omega
theorem mv_get (ps : List Nat) (k j : Nat) (h1 : k < j) (h2 : j ≤ ps.length) : (mv ps k j)[j - 1]'(by rw [mv_len]; omega) = ps.getD k 0 + (j - k) := by
  have : k ≤ j - 1 ∧ j - 1 < j := by omega
  simp [mv, this]
  omega
theorem mv_step (ps : List Nat) (k j : Nat) (h1 : k < j) : (mv ps k j).set j (ps.getD k 0 + (j - k) + 1) = mv ps k (j + 1) := by
  apply List.ext_getElem
  · simp [mv]
  · intro i h3 h4
    rw [List.length_set, mv_len] at h3
    rw [List.getElem_set]
    by_cases e : j = i
    · subst e
      have : k ≤ j ∧ j < j + 1 := by omega
      rw [if_pos rfl]
      simp [mv, this]
      omega
    · have : (k ≤ i ∧ i < j + 1) = (k ≤ i ∧ i < j) := by simp; omega
      rw [if_neg e]
      simp [mv, this]
theorem mv_end (ps : List Nat) (k : Nat) : mv ps k ps.length = (List.range ps.length).map fun j => if j < k then ps.getD j 0 else ps.getD k 0 + 1 + (j - k) := by
  apply List.ext_getElem
  · simp [mv]
  · intro i h1 h2
    rw [mv_len] at h1
    by_cases h : i < k
    · have : ¬ (k ≤ i ∧ i < ps.length) := by omega
      simp [mv, h]
      omega
    · have : k ≤ i ∧ i < ps.length := by omega
      simp [mv, h, this]

set_option maxRecDepth 100000 in
set_option maxHeartbeats 2000000 in
theorem nextPlaces_k {w : World} {gp cp n : Nat} {ps : List Nat} (hp : w.ownsRow 0 3 1 (.slice (some ⟨gp, 0, none⟩) ps.length cp) ps.length (nats ps)) (hl : ps.length ≤ n) (hn : n ≤ 10) (hin : ∀ k (h : k < ps.length), ps[k] < n) :
    Calls Tryd.prog 43 #[.slice (some ⟨gp, 0, none⟩) ps.length cp, .int .i64 (n : Int)] w fun e w' => e = .returned (.bool (nextP n ps).isSome) ∧
      w'.ownsRow 0 3 1 (.slice (some ⟨gp, 0, none⟩) ps.length cp) ps.length (nats ((nextP n ps).getD ps)) ∧ w.grownBy w' (some gp) := by
  have HP := hide hp
  have HN := hide hin
  clear hp hin
  go_enter Tryd.func43, Tryd.ntmps43
  go_wp2
  go_loopw [6, 7] (fun v _ wr => ∃ k : Nat, k ≤ ps.length ∧ v = .int .i64 ((k : Int) - 1) ∧ nextP n ps = nxt n ps.length ps k ∧ wr = w) (fun v _ _ => (intOf v + 1).toNat)
  case atStart => exact ⟨ps.length, Nat.le_refl _, by go_num, rfl, rfl⟩
  case round =>
    obtain ⟨k, hk, rfl, hx, rfl⟩ := hrel
    rcases k with _ | k
    · rw [nxt] at hx
      have HX := hide hx
      clear hx
      go_wp2
      go_ret
      rw [HX.out]
      exact ⟨rfl, HP.out, grown_refl _ _⟩
    · have hlt : k < ps.length := by omega
      have e1 : (((k + 1 : Nat) : Int) - 1) = (k : Int) := by omega
      rw [e1]
      clear e1
      have hb := HN.out k hlt
      have hc := (HP.out.cellAt k (by omega)).trans (nats_get ps k hlt)
      have hf := HP.out.frozenAt k
      have hgd : ps.getD k 0 = ps[k] := by simp [hlt]
      rw [nxt, hgd] at hx
      by_cases he : ps[k] = n - ps.length + k
      · rw [if_pos he] at hx
        have hc2 : (((ps[k] : Nat) : Int) == (n : Int) - (ps.length : Int) + (k : Int)) = true := by rw [beq_iff_eq]; omega
        clear hf hgd HN
        generalize ps[k] = x at *
        go_wp2
        go_roundw
        case rel => exact ⟨k, by omega, by go_num, hx, by first | rfl | trivial⟩
        case measure => simp [intOf] <;> omega
      · rw [if_neg he] at hx
        have hc2 : (((ps[k] : Nat) : Int) == (n : Int) - (ps.length : Int) + (k : Int)) = false := by rw [beq_eq_false_iff_ne]; omega
        have hst := HP.out.stored k (.int .i64 ((ps[k] + 1 : Nat) : Int))
        rw [nats_set] at hst
        have hmf := mv_first ps k
        rw [hgd] at hmf
        rw [hmf] at hst
        have e1 : ((ps[k] + 1 : Nat) : Int) = (ps[k] : Int) + 1 := by omega
        rw [e1] at hst
        have hm := mv_end ps k
        rw [hgd] at hm
        rw [← hm] at hx
        have hget := mv_get ps k
        have hstep := mv_step ps k
        rw [hgd] at hget hstep
        have HS := hide hst
        have HX := hide hx
        have HG := hide hget
        have HT := hide hstep
        clear hst hx hm hgd HP e1 hmf hget hstep HN
        generalize hpk : ps[k] = x at *
        clear hpk
        have hx9 : x < 10 := by omega
        go_wp2
        go_loopw [7] (fun v wx => ∃ j : Nat, k + 1 ≤ j ∧ j ≤ ps.length ∧ v = .int .i64 j ∧ wx.ownsRow 0 3 1 (.slice (some ⟨gp, 0, none⟩) ps.length cp) ps.length (nats (mv ps k j)) ∧ wr.grownBy wx (some gp)) (fun v _ => ps.length - (intOf v).toNat)
        case atStart => exact ⟨k + 1, Nat.le_refl _, by omega, by go_num, HS.out.1, HS.out.2⟩
        case round =>
          obtain ⟨j, hj1, hj2, rfl, hrow, hgr⟩ := hrel
          by_cases hlt2 : j < ps.length
          · obtain ⟨j1, rfl⟩ : ∃ j1, j = j1 + 1 := ⟨j - 1, by omega⟩
            have hc1 := (hrow.cellAt j1 (by omega)).trans (nats_get (mv ps k (j1 + 1)) j1 (by rw [mv_len]; omega))
            have hg1 := HG.out (j1 + 1) (by omega) (by omega)
            simp only [Nat.add_sub_cancel] at hg1
            rw [hg1] at hc1
            have hc0 := (hrow.cellAt (j1 + 1) (by omega)).trans (nats_get (mv ps k (j1 + 1)) (j1 + 1) (by rw [mv_len]; omega))
            obtain ⟨z, hz⟩ : ∃ z : Int, wr.cell? ⟨gp, j1 + 1, none⟩ = some (.int .i64 z) := ⟨_, hc0⟩
            have hf1 := hrow.frozenAt (j1 + 1)
            have hs1 := hrow.stored (j1 + 1) (.int .i64 ((x + (j1 + 1 - k) + 1 : Nat) : Int))
            rw [nats_set, HT.out (j1 + 1) (by omega)] at hs1
            have e2 : ((x + (j1 + 1 - k) + 1 : Nat) : Int) = ((x + (j1 + 1 - k) : Nat) : Int) + 1 := by omega
            rw [e2] at hs1
            have hy9 : x + (j1 + 1 - k) < 30 := by omega
            have R := hide (And.intro hs1.1 (grown_trans hgr hs1.2))
            clear hs1 e2 hrow hgr hg1 hc0
            generalize x + (j1 + 1 - k) = y at *
            go_wp2
            go_roundw
            case rel => exact ⟨j1 + 1 + 1, by omega, by omega, by go_num, R.out.1, R.out.2⟩
            case measure => simp [intOf]; omega
          · have e : j = ps.length := by omega
            subst e
            have R := hide (And.intro hrow hgr)
            clear hrow hgr
            go_wp2
            go_ret
            rw [HX.out]
            exact ⟨rfl, R.out.1, R.out.2⟩
end Go.Proofs.YtfagjejknnkhdaaDoor
