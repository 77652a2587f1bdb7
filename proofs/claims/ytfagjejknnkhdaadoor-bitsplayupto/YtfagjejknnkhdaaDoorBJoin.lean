/- Or, And and Without of two sets, which may be one. -/
import Derived.Test.YtfagjejknnkhdaaDoorBPut
namespace Go.Proofs.YtfagjejknnkhdaaDoor
open Go.RowKit

theorem SetAt.apart {w : World} {sb g cap n tb g2 cap2 m : Nat} {ws vs : List Nat} (h1 : SetAt w sb g cap n ws) (h2 : SetAt w tb g2 cap2 m vs) : tb ≠ g := by
  rintro rfl
  obtain ⟨cur, hc⟩ := row_block_is h1.row
  have := h2.st.symm.trans hc
  simp at this

set_option maxRecDepth 100000 in
set_option maxHeartbeats 1000000 in
theorem goesWith_k {w : World} {sb g cap n tb g2 cap2 m : Nat} {ws vs : List Nat} (h1 : SetAt w sb g cap n ws) (h2 : SetAt w tb g2 cap2 m vs) :
    Calls Tryd.prog 32 #[.pointer (some ⟨sb, 0, none⟩), .pointer (some ⟨tb, 0, none⟩)] w fun e w' => e = .returned (.int .i64 (if n = m then 0 else 30)) ∧ ∃ k, w' = w.drewN k := by
  obtain ⟨c0, c1, c2⟩ := h1.cells
  obtain ⟨d0, d1, d2⟩ := h2.cells
  have HU := hide (usable_k h1)
  have HV := hide fun k => usable_k (h2.drewN k)
  clear h1 h2
  by_cases hnm : n = m
  · subst hnm
    rw [if_pos rfl]
    have hd : ((n : Int) != (n : Int)) = false := by simp
    go_enter Tryd.func32, Tryd.ntmps32
    go_wp2_with (go_at_call 36; refine HU.out.mono ?_; clear HU; rintro e w1 ⟨rfl, rfl⟩)
    go_quiet ((go_at_call 36; exact Calls.quiet_of_same ((HV.out _).mono fun _ _ h => ⟨h.1, h.2.symm⟩)))
    go_wp2
    go_ret
    exact ⟨rfl, _, rfl⟩
  · rw [if_neg hnm]
    have hd : ((n : Int) != (m : Int)) = true := by simp; omega
    go_enter Tryd.func32, Tryd.ntmps32
    go_wp2_with (go_at_call 36; refine HU.out.mono ?_; clear HU; rintro e w1 ⟨rfl, rfl⟩)
    go_quiet ((go_at_call 36; exact Calls.quiet_of_same ((HV.out _).mono fun _ _ h => ⟨h.1, h.2.symm⟩)))
    go_wp2
    go_ret
    exact ⟨rfl, _, rfl⟩
set_option maxRecDepth 100000 in
theorem goesWith_t {w : World} {sb g cap n : Nat} {ws : List Nat} {v : Value} (h1 : SetAt w sb g cap n ws) (h2 : NoSet w v) :
    Calls Tryd.prog 32 #[.pointer (some ⟨sb, 0, none⟩), v] w fun e w' => e = .returned (.int .i64 30) ∧ ∃ k, w' = w.drewN k := by
  have HU := hide (usable_k h1)
  have HV := hide fun k => usable_no (h2.drewN k)
  clear h1 h2
  go_enter Tryd.func32, Tryd.ntmps32
  go_wp2_with (go_at_call 36; refine HU.out.mono ?_; clear HU; rintro e w1 ⟨rfl, rfl⟩)
  go_quiet ((go_at_call 36; exact Calls.quiet_of_same ((HV.out _).mono fun _ _ h => ⟨h.1, h.2.symm⟩)))
  go_wp2
  go_ret
  exact ⟨rfl, _, rfl⟩
set_option maxRecDepth 100000 in
theorem goesWith_no {w : World} {v u : Value} (h : NoSet w v) :
    Calls Tryd.prog 32 #[v, u] w fun e w' => e = .returned (.int .i64 1) ∧ w = w' := by
  have HU := hide (usable_no h)
  clear h
  go_enter Tryd.func32, Tryd.ntmps32
  go_wp2_with (go_at_call 36; refine HU.out.mono ?_; clear HU; rintro e w1 ⟨rfl, rfl⟩)
  go_ret
  exact ⟨rfl, rfl⟩

/-- What stands when k words are joined. -/
def joined (f : Nat → Nat → Nat) (ws vs : List Nat) (k : Nat) : List Nat := (List.range ws.length).map fun i => if i < k then f (ws.getD i 0) (vs.getD i 0) else ws.getD i 0
theorem joined_zero (f : Nat → Nat → Nat) (ws vs : List Nat) : joined f ws vs 0 = ws := by
  apply List.ext_getElem
  · simp [joined]
  · intro i h1 h2
    simp [joined, h2]
theorem joined_len (f : Nat → Nat → Nat) (ws vs : List Nat) (k : Nat) : (joined f ws vs k).length = ws.length := by simp [joined]
theorem joined_get (f : Nat → Nat → Nat) (ws vs : List Nat) (k : Nat) (h : k < ws.length) : (joined f ws vs k)[k]'(by rw [joined_len]; exact h) = ws[k] := by simp [joined, h]
theorem joined_step (f : Nat → Nat → Nat) (ws vs : List Nat) (k : Nat) (h : k < ws.length) (h2 : k < vs.length) : (joined f ws vs k).set k (f ws[k] vs[k]) = joined f ws vs (k + 1) := by
  apply List.ext_getElem
  · simp [joined]
  · intro i h3 h4
    rw [List.getElem_set]
    simp only [joined, List.length_map, List.length_range] at h4
    by_cases e : k = i
    · subst e
      simp [joined, h, h2]
    · rw [if_neg e]
      have : (i < k + 1) = (i < k) := by simp; omega
      simp [joined, this]
theorem joined_end (f : Nat → Nat → Nat) (ws vs : List Nat) (h : vs.length = ws.length) : joined f ws vs ws.length = List.zipWith f ws vs := by
  apply List.ext_getElem
  · simp [joined, h]
  · intro i h1 h2
    simp only [joined, List.length_map, List.length_range] at h1
    simp [joined, h1, h]
theorem zip_fit {f : Nat → Nat → Nat} {ws vs : List Nat} (hf : ∀ x y, x < 18446744073709551616 → y < 18446744073709551616 → f x y < 18446744073709551616) (h1 : ∀ x ∈ ws, x < 18446744073709551616) (h2 : ∀ x ∈ vs, x < 18446744073709551616) :
    ∀ x ∈ List.zipWith f ws vs, x < 18446744073709551616 := by
  intro x hx
  obtain ⟨i, hi, rfl⟩ := List.getElem_of_mem hx
  rw [List.getElem_zipWith]
  rw [List.length_zipWith] at hi
  exact hf _ _ (h1 _ (List.getElem_mem (by omega))) (h2 _ (List.getElem_mem (by omega)))
def orF (x y : Nat) : Nat := x ||| y
def andF (x y : Nat) : Nat := x &&& y
def woF (x y : Nat) : Nat := x &&& (18446744073709551615 - y)

set_option maxRecDepth 100000 in
set_option maxHeartbeats 1000000 in
theorem or_k {w : World} {sb g cap n tb g2 cap2 : Nat} {ws vs : List Nat} (h1 : SetAt w sb g cap n ws) (h2 : SetAt w tb g2 cap2 n vs) :
    Calls Tryd.prog 19 #[.pointer (some ⟨sb, 0, none⟩), .pointer (some ⟨tb, 0, none⟩)] w fun e w' => e = .returned (.int .i64 0) ∧ SetAt w' sb g cap n (List.zipWith orF ws vs) ∧ w.grownBy w' (some g) := by
  have hgw := goesWith_k h1 h2
  rw [if_pos rfl] at hgw
  have HW := hide hgw
  have hl : vs.length = ws.length := by rw [h1.len, h2.len]
  have hlen : ws.length ≤ 64 := by have := h1.len; have := h1.room; omega
  have htb := h1.apart h2
  have hsb := h1.ne
  have HE := hide (joined_end orF ws vs hl)
  have HX := hide h1.wlt
  have HY := hide h2.wlt
  have J0 : SetAt w sb g cap n (joined orF ws vs 0) ∧ w.cell? ⟨tb, 2, none⟩ = some (.slice (some ⟨g2, 0, none⟩) vs.length cap2) ∧ (∀ j (h : j < vs.length), 0 ≤ j → w.cell? ⟨g2, j, none⟩ = some (.int .u64 (vs[j] : Int))) ∧ w.grownBy w (some g) := by
    rw [joined_zero]
    exact ⟨h1, h2.cells.2.2, fun j h _ => h2.get j h, grown_refl _ _⟩
  have HJ := hide J0
  clear J0 h1 h2 hgw
  go_enter Tryd.func19, Tryd.ntmps19
  have ht2 := HJ.out.2.1
  go_wp2_with (go_at_call 32; refine HW.out.mono ?_; rintro e w1 ⟨rfl, nd, rfl⟩)
  go_loopw [6, 7, 19] (fun _ _ i wr => ∃ k : Nat, k ≤ vs.length ∧ i = .int .i64 k ∧ SetAt wr sb g cap n (joined orF ws vs k) ∧ wr.cell? ⟨tb, 2, none⟩ = some (.slice (some ⟨g2, 0, none⟩) vs.length cap2) ∧ (∀ j (h : j < vs.length), k ≤ j → wr.cell? ⟨g2, j, none⟩ = some (.int .u64 (vs[j] : Int))) ∧ w.grownBy wr (some g)) (fun _ _ i _ => vs.length - (intOf i).toNat)
  case atStart => exact ⟨0, Nat.zero_le _, rfl, HJ.out.1.drewN nd, HJ.out.2.1, HJ.out.2.2.1, ⟨rfl, rfl, rfl, Nat.le_refl _, fun _ _ _ => rfl⟩⟩
  case round =>
    obtain ⟨k, hk, rfl, q1, q2, q3, q4⟩ := hrel
    clear ht2
    by_cases hlt : k < vs.length
    · have hlt' : k < ws.length := by omega
      have hx := HX.out k hlt'
      have hy := HY.out k hlt
      have d1 := q3 k hlt (Nat.le_refl _)
      obtain ⟨c0, c1, c2⟩ := q1.cells
      rw [joined_len] at c2
      have d2 := q1.get k (by rw [joined_len]; exact hlt')
      rw [joined_get _ _ _ _ hlt'] at d2
      have hf := q1.frozen k
      have hq := q1.put k (orF ws[k] vs[k]) (or_lt64 hx hy)
      rw [joined_step _ _ _ _ hlt' hlt] at hq
      have hop := u64_or_nat ws[k] vs[k] hx hy
      have hfo : orF ws[k] vs[k] = ws[k] ||| vs[k] := rfl
      rw [← hfo] at hop
      have q3' : ∀ j (h : j < vs.length), k + 1 ≤ j → (wr.setCell ⟨g, k, none⟩ (.int .u64 (orF ws[k] vs[k] : Nat))).cell? ⟨g2, j, none⟩ = some (.int .u64 (vs[j] : Int)) := fun j h hj => (World.cell?_setCell_other _ _ _ _ (by simp <;> omega)).trans (q3 j h (by omega))
      have q2' : (wr.setCell ⟨g, k, none⟩ (.int .u64 (orF ws[k] vs[k] : Nat))).cell? ⟨tb, 2, none⟩ = some (.slice (some ⟨g2, 0, none⟩) vs.length cap2) := (World.cell?_setCell_other _ _ _ _ (by simp)).trans q2
      have Q := hide (And.intro hq (And.intro q2' (And.intro q3' q4)))
      clear hq q2' q3' q4 q3 q1 hfo HX HY HE HJ
      generalize orF ws[k] vs[k] = z at *
      generalize ws[k] = x at *
      generalize hyy : vs[k] = y at *
      clear hyy
      go_wp2
      go_roundw
      case rel => exact ⟨k + 1, by omega, by go_num, Q.out.1.1, Q.out.2.1, Q.out.2.2.1, grown_trans Q.out.2.2.2 Q.out.1.2⟩
      case measure => simp [intOf]; omega
    · have e : k = ws.length := by omega
      subst e
      rw [HE.out] at q1
      have Q := hide (And.intro q1 q4)
      clear q1 q2 q3 q4
      go_wp2
      go_ret
      exact ⟨rfl, Q.out.1, Q.out.2⟩
set_option maxRecDepth 100000 in
theorem or_t {w : World} {sb g cap n : Nat} {ws : List Nat} {v : Value} (h1 : SetAt w sb g cap n ws) (h2 : NoSet w v) :
    Calls Tryd.prog 19 #[.pointer (some ⟨sb, 0, none⟩), v] w fun e w' => e = .returned (.int .i64 30) ∧ ∃ k, w' = w.drewN k := by
  have HW := hide (goesWith_t h1 h2)
  clear h1 h2
  go_enter Tryd.func19, Tryd.ntmps19
  go_wp2_with (go_at_call 32; refine HW.out.mono ?_; rintro e w1 ⟨rfl, nd, rfl⟩)
  go_ret
  exact ⟨rfl, _, rfl⟩
set_option maxRecDepth 100000 in
theorem or_r {w : World} {sb g cap n tb g2 cap2 m : Nat} {ws vs : List Nat} (h1 : SetAt w sb g cap n ws) (h2 : SetAt w tb g2 cap2 m vs) (hne : n ≠ m) :
    Calls Tryd.prog 19 #[.pointer (some ⟨sb, 0, none⟩), .pointer (some ⟨tb, 0, none⟩)] w fun e w' => e = .returned (.int .i64 30) ∧ ∃ k, w' = w.drewN k := by
  have hgw := goesWith_k h1 h2
  rw [if_neg hne] at hgw
  have HW := hide hgw
  clear h1 h2 hgw
  go_enter Tryd.func19, Tryd.ntmps19
  go_wp2_with (go_at_call 32; refine HW.out.mono ?_; rintro e w1 ⟨rfl, nd, rfl⟩)
  go_ret
  exact ⟨rfl, _, rfl⟩
set_option maxRecDepth 100000 in
theorem or_no {w : World} {v : Value} (h : NoSet w v) (u : Value) :
    Calls Tryd.prog 19 #[v, u] w fun e w' => e = .returned (.int .i64 1) ∧ w = w' := by
  have HW := hide (goesWith_no (u := u) h)
  clear h
  go_enter Tryd.func19, Tryd.ntmps19
  go_wp2_with (go_at_call 32; refine HW.out.mono ?_; rintro e w1 ⟨rfl, rfl⟩)
  go_ret
  exact ⟨rfl, rfl⟩

set_option maxRecDepth 100000 in
set_option maxHeartbeats 1000000 in
theorem and_k {w : World} {sb g cap n tb g2 cap2 : Nat} {ws vs : List Nat} (h1 : SetAt w sb g cap n ws) (h2 : SetAt w tb g2 cap2 n vs) :
    Calls Tryd.prog 21 #[.pointer (some ⟨sb, 0, none⟩), .pointer (some ⟨tb, 0, none⟩)] w fun e w' => e = .returned (.int .i64 0) ∧ SetAt w' sb g cap n (List.zipWith andF ws vs) ∧ w.grownBy w' (some g) := by
  have hgw := goesWith_k h1 h2
  rw [if_pos rfl] at hgw
  have HW := hide hgw
  have hl : vs.length = ws.length := by rw [h1.len, h2.len]
  have hlen : ws.length ≤ 64 := by have := h1.len; have := h1.room; omega
  have htb := h1.apart h2
  have hsb := h1.ne
  have HE := hide (joined_end andF ws vs hl)
  have HX := hide h1.wlt
  have HY := hide h2.wlt
  have J0 : SetAt w sb g cap n (joined andF ws vs 0) ∧ w.cell? ⟨tb, 2, none⟩ = some (.slice (some ⟨g2, 0, none⟩) vs.length cap2) ∧ (∀ j (h : j < vs.length), 0 ≤ j → w.cell? ⟨g2, j, none⟩ = some (.int .u64 (vs[j] : Int))) ∧ w.grownBy w (some g) := by
    rw [joined_zero]
    exact ⟨h1, h2.cells.2.2, fun j h _ => h2.get j h, grown_refl _ _⟩
  have HJ := hide J0
  clear J0 h1 h2 hgw
  go_enter Tryd.func21, Tryd.ntmps21
  have ht2 := HJ.out.2.1
  go_wp2_with (go_at_call 32; refine HW.out.mono ?_; rintro e w1 ⟨rfl, nd, rfl⟩)
  go_loopw [6, 7, 19] (fun _ _ i wr => ∃ k : Nat, k ≤ vs.length ∧ i = .int .i64 k ∧ SetAt wr sb g cap n (joined andF ws vs k) ∧ wr.cell? ⟨tb, 2, none⟩ = some (.slice (some ⟨g2, 0, none⟩) vs.length cap2) ∧ (∀ j (h : j < vs.length), k ≤ j → wr.cell? ⟨g2, j, none⟩ = some (.int .u64 (vs[j] : Int))) ∧ w.grownBy wr (some g)) (fun _ _ i _ => vs.length - (intOf i).toNat)
  case atStart => exact ⟨0, Nat.zero_le _, rfl, HJ.out.1.drewN nd, HJ.out.2.1, HJ.out.2.2.1, ⟨rfl, rfl, rfl, Nat.le_refl _, fun _ _ _ => rfl⟩⟩
  case round =>
    obtain ⟨k, hk, rfl, q1, q2, q3, q4⟩ := hrel
    clear ht2
    by_cases hlt : k < vs.length
    · have hlt' : k < ws.length := by omega
      have hx := HX.out k hlt'
      have hy := HY.out k hlt
      have d1 := q3 k hlt (Nat.le_refl _)
      obtain ⟨c0, c1, c2⟩ := q1.cells
      rw [joined_len] at c2
      have d2 := q1.get k (by rw [joined_len]; exact hlt')
      rw [joined_get _ _ _ _ hlt'] at d2
      have hf := q1.frozen k
      have hq := q1.put k (andF ws[k] vs[k]) (and_lt64 _ hx)
      rw [joined_step _ _ _ _ hlt' hlt] at hq
      have hop := u64_and_nat ws[k] vs[k] hx hy
      have hfo : andF ws[k] vs[k] = ws[k] &&& vs[k] := rfl
      rw [← hfo] at hop
      have q3' : ∀ j (h : j < vs.length), k + 1 ≤ j → (wr.setCell ⟨g, k, none⟩ (.int .u64 (andF ws[k] vs[k] : Nat))).cell? ⟨g2, j, none⟩ = some (.int .u64 (vs[j] : Int)) := fun j h hj => (World.cell?_setCell_other _ _ _ _ (by simp <;> omega)).trans (q3 j h (by omega))
      have q2' : (wr.setCell ⟨g, k, none⟩ (.int .u64 (andF ws[k] vs[k] : Nat))).cell? ⟨tb, 2, none⟩ = some (.slice (some ⟨g2, 0, none⟩) vs.length cap2) := (World.cell?_setCell_other _ _ _ _ (by simp)).trans q2
      have Q := hide (And.intro hq (And.intro q2' (And.intro q3' q4)))
      clear hq q2' q3' q4 q3 q1 hfo HX HY HE HJ
      generalize andF ws[k] vs[k] = z at *
      generalize ws[k] = x at *
      generalize hyy : vs[k] = y at *
      clear hyy
      go_wp2
      go_roundw
      case rel => exact ⟨k + 1, by omega, by go_num, Q.out.1.1, Q.out.2.1, Q.out.2.2.1, grown_trans Q.out.2.2.2 Q.out.1.2⟩
      case measure => simp [intOf]; omega
    · have e : k = ws.length := by omega
      subst e
      rw [HE.out] at q1
      have Q := hide (And.intro q1 q4)
      clear q1 q2 q3 q4
      go_wp2
      go_ret
      exact ⟨rfl, Q.out.1, Q.out.2⟩
set_option maxRecDepth 100000 in
theorem and_t {w : World} {sb g cap n : Nat} {ws : List Nat} {v : Value} (h1 : SetAt w sb g cap n ws) (h2 : NoSet w v) :
    Calls Tryd.prog 21 #[.pointer (some ⟨sb, 0, none⟩), v] w fun e w' => e = .returned (.int .i64 30) ∧ ∃ k, w' = w.drewN k := by
  have HW := hide (goesWith_t h1 h2)
  clear h1 h2
  go_enter Tryd.func21, Tryd.ntmps21
  go_wp2_with (go_at_call 32; refine HW.out.mono ?_; rintro e w1 ⟨rfl, nd, rfl⟩)
  go_ret
  exact ⟨rfl, _, rfl⟩
set_option maxRecDepth 100000 in
theorem and_r {w : World} {sb g cap n tb g2 cap2 m : Nat} {ws vs : List Nat} (h1 : SetAt w sb g cap n ws) (h2 : SetAt w tb g2 cap2 m vs) (hne : n ≠ m) :
    Calls Tryd.prog 21 #[.pointer (some ⟨sb, 0, none⟩), .pointer (some ⟨tb, 0, none⟩)] w fun e w' => e = .returned (.int .i64 30) ∧ ∃ k, w' = w.drewN k := by
  have hgw := goesWith_k h1 h2
  rw [if_neg hne] at hgw
  have HW := hide hgw
  clear h1 h2 hgw
  go_enter Tryd.func21, Tryd.ntmps21
  go_wp2_with (go_at_call 32; refine HW.out.mono ?_; rintro e w1 ⟨rfl, nd, rfl⟩)
  go_ret
  exact ⟨rfl, _, rfl⟩
set_option maxRecDepth 100000 in
theorem and_no {w : World} {v : Value} (h : NoSet w v) (u : Value) :
    Calls Tryd.prog 21 #[v, u] w fun e w' => e = .returned (.int .i64 1) ∧ w = w' := by
  have HW := hide (goesWith_no (u := u) h)
  clear h
  go_enter Tryd.func21, Tryd.ntmps21
  go_wp2_with (go_at_call 32; refine HW.out.mono ?_; rintro e w1 ⟨rfl, rfl⟩)
  go_ret
  exact ⟨rfl, rfl⟩

set_option maxRecDepth 100000 in
set_option maxHeartbeats 1000000 in
theorem without_k {w : World} {sb g cap n tb g2 cap2 : Nat} {ws vs : List Nat} (h1 : SetAt w sb g cap n ws) (h2 : SetAt w tb g2 cap2 n vs) :
    Calls Tryd.prog 22 #[.pointer (some ⟨sb, 0, none⟩), .pointer (some ⟨tb, 0, none⟩)] w fun e w' => e = .returned (.int .i64 0) ∧ SetAt w' sb g cap n (List.zipWith woF ws vs) ∧ w.grownBy w' (some g) := by
  have hgw := goesWith_k h1 h2
  rw [if_pos rfl] at hgw
  have HW := hide hgw
  have hl : vs.length = ws.length := by rw [h1.len, h2.len]
  have hlen : ws.length ≤ 64 := by have := h1.len; have := h1.room; omega
  have htb := h1.apart h2
  have hsb := h1.ne
  have HE := hide (joined_end woF ws vs hl)
  have HX := hide h1.wlt
  have HY := hide h2.wlt
  have J0 : SetAt w sb g cap n (joined woF ws vs 0) ∧ w.cell? ⟨tb, 2, none⟩ = some (.slice (some ⟨g2, 0, none⟩) vs.length cap2) ∧ (∀ j (h : j < vs.length), 0 ≤ j → w.cell? ⟨g2, j, none⟩ = some (.int .u64 (vs[j] : Int))) ∧ w.grownBy w (some g) := by
    rw [joined_zero]
    exact ⟨h1, h2.cells.2.2, fun j h _ => h2.get j h, grown_refl _ _⟩
  have HJ := hide J0
  clear J0 h1 h2 hgw
  go_enter Tryd.func22, Tryd.ntmps22
  have ht2 := HJ.out.2.1
  go_wp2_with (go_at_call 32; refine HW.out.mono ?_; rintro e w1 ⟨rfl, nd, rfl⟩)
  go_loopw [6, 7, 19] (fun _ _ i wr => ∃ k : Nat, k ≤ vs.length ∧ i = .int .i64 k ∧ SetAt wr sb g cap n (joined woF ws vs k) ∧ wr.cell? ⟨tb, 2, none⟩ = some (.slice (some ⟨g2, 0, none⟩) vs.length cap2) ∧ (∀ j (h : j < vs.length), k ≤ j → wr.cell? ⟨g2, j, none⟩ = some (.int .u64 (vs[j] : Int))) ∧ w.grownBy wr (some g)) (fun _ _ i _ => vs.length - (intOf i).toNat)
  case atStart => exact ⟨0, Nat.zero_le _, rfl, HJ.out.1.drewN nd, HJ.out.2.1, HJ.out.2.2.1, ⟨rfl, rfl, rfl, Nat.le_refl _, fun _ _ _ => rfl⟩⟩
  case round =>
    obtain ⟨k, hk, rfl, q1, q2, q3, q4⟩ := hrel
    clear ht2
    by_cases hlt : k < vs.length
    · have hlt' : k < ws.length := by omega
      have hx := HX.out k hlt'
      have hy := HY.out k hlt
      have d1 := q3 k hlt (Nat.le_refl _)
      obtain ⟨c0, c1, c2⟩ := q1.cells
      rw [joined_len] at c2
      have d2 := q1.get k (by rw [joined_len]; exact hlt')
      rw [joined_get _ _ _ _ hlt'] at d2
      have hf := q1.frozen k
      have hq := q1.put k (woF ws[k] vs[k]) (and_lt64 _ hx)
      rw [joined_step _ _ _ _ hlt' hlt] at hq
      have hop := u64_andNot_nat ws[k] vs[k] hx hy
      have hfo : woF ws[k] vs[k] = ws[k] &&& (18446744073709551615 - vs[k]) := rfl
      rw [← hfo] at hop
      have q3' : ∀ j (h : j < vs.length), k + 1 ≤ j → (wr.setCell ⟨g, k, none⟩ (.int .u64 (woF ws[k] vs[k] : Nat))).cell? ⟨g2, j, none⟩ = some (.int .u64 (vs[j] : Int)) := fun j h hj => (World.cell?_setCell_other _ _ _ _ (by simp <;> omega)).trans (q3 j h (by omega))
      have q2' : (wr.setCell ⟨g, k, none⟩ (.int .u64 (woF ws[k] vs[k] : Nat))).cell? ⟨tb, 2, none⟩ = some (.slice (some ⟨g2, 0, none⟩) vs.length cap2) := (World.cell?_setCell_other _ _ _ _ (by simp)).trans q2
      have Q := hide (And.intro hq (And.intro q2' (And.intro q3' q4)))
      clear hq q2' q3' q4 q3 q1 hfo HX HY HE HJ
      generalize woF ws[k] vs[k] = z at *
      generalize ws[k] = x at *
      generalize hyy : vs[k] = y at *
      clear hyy
      go_wp2
      go_roundw
      case rel => exact ⟨k + 1, by omega, by go_num, Q.out.1.1, Q.out.2.1, Q.out.2.2.1, grown_trans Q.out.2.2.2 Q.out.1.2⟩
      case measure => simp [intOf]; omega
    · have e : k = ws.length := by omega
      subst e
      rw [HE.out] at q1
      have Q := hide (And.intro q1 q4)
      clear q1 q2 q3 q4
      go_wp2
      go_ret
      exact ⟨rfl, Q.out.1, Q.out.2⟩
set_option maxRecDepth 100000 in
theorem without_t {w : World} {sb g cap n : Nat} {ws : List Nat} {v : Value} (h1 : SetAt w sb g cap n ws) (h2 : NoSet w v) :
    Calls Tryd.prog 22 #[.pointer (some ⟨sb, 0, none⟩), v] w fun e w' => e = .returned (.int .i64 30) ∧ ∃ k, w' = w.drewN k := by
  have HW := hide (goesWith_t h1 h2)
  clear h1 h2
  go_enter Tryd.func22, Tryd.ntmps22
  go_wp2_with (go_at_call 32; refine HW.out.mono ?_; rintro e w1 ⟨rfl, nd, rfl⟩)
  go_ret
  exact ⟨rfl, _, rfl⟩
set_option maxRecDepth 100000 in
theorem without_r {w : World} {sb g cap n tb g2 cap2 m : Nat} {ws vs : List Nat} (h1 : SetAt w sb g cap n ws) (h2 : SetAt w tb g2 cap2 m vs) (hne : n ≠ m) :
    Calls Tryd.prog 22 #[.pointer (some ⟨sb, 0, none⟩), .pointer (some ⟨tb, 0, none⟩)] w fun e w' => e = .returned (.int .i64 30) ∧ ∃ k, w' = w.drewN k := by
  have hgw := goesWith_k h1 h2
  rw [if_neg hne] at hgw
  have HW := hide hgw
  clear h1 h2 hgw
  go_enter Tryd.func22, Tryd.ntmps22
  go_wp2_with (go_at_call 32; refine HW.out.mono ?_; rintro e w1 ⟨rfl, nd, rfl⟩)
  go_ret
  exact ⟨rfl, _, rfl⟩
set_option maxRecDepth 100000 in
theorem without_no {w : World} {v : Value} (h : NoSet w v) (u : Value) :
    Calls Tryd.prog 22 #[v, u] w fun e w' => e = .returned (.int .i64 1) ∧ w = w' := by
  have HW := hide (goesWith_no (u := u) h)
  clear h
  go_enter Tryd.func22, Tryd.ntmps22
  go_wp2_with (go_at_call 32; refine HW.out.mono ?_; rintro e w1 ⟨rfl, rfl⟩)
  go_ret
  exact ⟨rfl, rfl⟩
end Go.Proofs.YtfagjejknnkhdaaDoor
