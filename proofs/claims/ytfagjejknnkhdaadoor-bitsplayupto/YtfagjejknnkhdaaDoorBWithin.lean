/- Within, Same and Copy. -/
import Derived.Test.YtfagjejknnkhdaaDoorBJoin
import Derived.Test.YtfagjejknnkhdaaDoorBClone
namespace Go.Proofs.YtfagjejknnkhdaaDoor
open Go.RowKit

/-- Whether all of the first are in the second. -/
def inB (ws vs : List Nat) : Bool := (List.zipWith woF ws vs).all (· == 0)
theorem inB_no {ws vs : List Nat} (k : Nat) (h : k < ws.length) (h2 : k < vs.length) (hx : woF ws[k] vs[k] ≠ 0) : inB ws vs = false := by
  unfold inB
  rw [List.all_eq_false]
  exact ⟨woF ws[k] vs[k], List.mem_iff_getElem.2 ⟨k, by simp; omega, by simp⟩, by simpa using hx⟩
theorem inB_yes {ws vs : List Nat} (hl : vs.length = ws.length) (h : ∀ k (h1 : k < ws.length) (h2 : k < vs.length), woF ws[k] vs[k] = 0) : inB ws vs = true := by
  unfold inB
  rw [List.all_eq_true]
  intro x hx
  obtain ⟨k, hk, rfl⟩ := List.mem_iff_getElem.1 hx
  simp only [List.length_zipWith] at hk
  simp only [List.getElem_zipWith, beq_iff_eq]
  exact h k (by omega) (by omega)

set_option maxRecDepth 100000 in
set_option maxHeartbeats 1000000 in
theorem within_k {w : World} {sb g cap n tb g2 cap2 : Nat} {ws vs : List Nat} (h1 : SetAt w sb g cap n ws) (h2 : SetAt w tb g2 cap2 n vs) :
    Calls Tryd.prog 9 #[.pointer (some ⟨sb, 0, none⟩), .pointer (some ⟨tb, 0, none⟩)] w fun e w' => e = .returned (.bool (inB ws vs)) ∧ ∃ m, w' = w.drewN m := by
  have hgw := goesWith_k h1 h2
  rw [if_pos rfl] at hgw
  have HW := hide hgw
  have hl : vs.length = ws.length := by rw [h1.len, h2.len]
  have hlen : ws.length ≤ 64 := by have := h1.len; have := h1.room; omega
  have HX := hide h1.wlt
  have HY := hide h2.wlt
  have HG1 := hide h1.get
  have HG2 := hide h2.get
  obtain ⟨c0, c1, c2⟩ := h1.cells
  obtain ⟨d0, d1, d2⟩ := h2.cells
  clear h1 h2 hgw c0 c1 d0 d1
  go_enter Tryd.func9, Tryd.ntmps9
  go_wp2_with (go_at_call 32; refine HW.out.mono ?_; rintro e w1 ⟨rfl, nd, rfl⟩)
  go_loopw [5, 6, 16] (fun _ _ i wr => ∃ k : Nat, k ≤ ws.length ∧ i = .int .i64 k ∧ (∀ j (h1 : j < ws.length) (h2 : j < vs.length), j < k → woF ws[j] vs[j] = 0) ∧ wr = w.drewN nd) (fun _ _ i _ => ws.length - (intOf i).toNat)
  case atStart => exact ⟨0, Nat.zero_le _, rfl, fun j _ _ h => by omega, rfl⟩
  case round =>
    obtain ⟨k, hk, rfl, hall, rfl⟩ := hrel
    by_cases hlt : k < ws.length
    · have hlt' : k < vs.length := by omega
      have hx := HX.out k hlt
      have hy := HY.out k hlt'
      have e1 := HG1.out k hlt
      have e2 := HG2.out k hlt'
      have hop := u64_andNot_nat ws[k] vs[k] hx hy
      have hfo : woF ws[k] vs[k] = ws[k] &&& (18446744073709551615 - vs[k]) := rfl
      rw [← hfo] at hop
      by_cases hz : woF ws[k] vs[k] = 0
      · rw [hz] at hop
        have HA : Hid (∀ j (h1 : j < ws.length) (h2 : j < vs.length), j < k + 1 → woF ws[j] vs[j] = 0) := fun j a b c => by
          by_cases e : j = k
          · subst e; exact hz
          · exact hall j a b (by omega)
        clear hfo hz hall HX HY HG1 HG2
        generalize ws[k] = x at *
        generalize vs[k] = y at *
        go_wp2
        go_roundw
        case rel => exact ⟨k + 1, by omega, by go_num, HA.out, by first | rfl | trivial⟩
        case measure => simp [intOf]; omega
      · have hno := inB_no k hlt hlt' hz
        have HN := hide hno
        have hz' : ((woF ws[k] vs[k] : Nat) : Int) ≠ 0 := by omega
        clear hfo hno hz hall HX HY HG1 HG2
        generalize woF ws[k] vs[k] = z at *
        generalize ws[k] = x at *
        generalize vs[k] = y at *
        have hb : ((z : Int) != 0) = true := by simpa using hz'
        go_wp2
        go_ret
        rw [HN.out]
        exact ⟨rfl, _, rfl⟩
    · have e : k = ws.length := by omega
      subst e
      have HN := hide (inB_yes hl (fun j a b => hall j a b a))
      clear hall
      go_wp2
      go_ret
      rw [HN.out]
      exact ⟨rfl, _, rfl⟩
set_option maxRecDepth 100000 in
theorem within_r {w : World} {sb g cap n tb g2 cap2 m : Nat} {ws vs : List Nat} (h1 : SetAt w sb g cap n ws) (h2 : SetAt w tb g2 cap2 m vs) (hne : n ≠ m) :
    Calls Tryd.prog 9 #[.pointer (some ⟨sb, 0, none⟩), .pointer (some ⟨tb, 0, none⟩)] w fun e w' => e = .returned (.bool false) ∧ ∃ k, w' = w.drewN k := by
  have hgw := goesWith_k h1 h2
  rw [if_neg hne] at hgw
  have HW := hide hgw
  clear h1 h2 hgw
  go_enter Tryd.func9, Tryd.ntmps9
  go_wp2_with (go_at_call 32; refine HW.out.mono ?_; rintro e w1 ⟨rfl, nd, rfl⟩)
  go_ret
  exact ⟨rfl, _, rfl⟩
set_option maxRecDepth 100000 in
theorem within_t {w : World} {sb g cap n : Nat} {ws : List Nat} {v : Value} (h1 : SetAt w sb g cap n ws) (h2 : NoSet w v) :
    Calls Tryd.prog 9 #[.pointer (some ⟨sb, 0, none⟩), v] w fun e w' => e = .returned (.bool false) ∧ ∃ k, w' = w.drewN k := by
  have HW := hide (goesWith_t h1 h2)
  clear h1 h2
  go_enter Tryd.func9, Tryd.ntmps9
  go_wp2_with (go_at_call 32; refine HW.out.mono ?_; rintro e w1 ⟨rfl, nd, rfl⟩)
  go_ret
  exact ⟨rfl, _, rfl⟩
set_option maxRecDepth 100000 in
theorem within_no {w : World} {v : Value} (h : NoSet w v) (u : Value) :
    Calls Tryd.prog 9 #[v, u] w fun e w' => e = .returned (.bool false) ∧ w = w' := by
  have HW := hide (goesWith_no (u := u) h)
  clear h
  go_enter Tryd.func9, Tryd.ntmps9
  go_wp2_with (go_at_call 32; refine HW.out.mono ?_; rintro e w1 ⟨rfl, rfl⟩)
  go_ret
  exact ⟨rfl, rfl⟩

set_option maxRecDepth 100000 in
set_option maxHeartbeats 1000000 in
theorem equal_k {w : World} {g cap g2 cap2 : Nat} {ws vs : List Nat} (HG1 : ∀ k (h : k < ws.length), w.cell? ⟨g, k, none⟩ = some (.int .u64 (ws[k] : Int))) (HG2 : ∀ k (h : k < vs.length), w.cell? ⟨g2, k, none⟩ = some (.int .u64 (vs[k] : Int))) (hl : vs.length = ws.length) (hlen : ws.length ≤ 64) :
    Calls Tryd.prog 33 #[.slice (some ⟨g, 0, none⟩) ws.length cap, .slice (some ⟨g2, 0, none⟩) vs.length cap2] w fun e w' => e = .returned (.bool (decide (ws = vs))) ∧ ∃ m, w' = w.drewN m := by
  have H1 := hide HG1
  have H2 := hide HG2
  clear HG1 HG2
  go_enter Tryd.func33, Tryd.ntmps33
  have hnl : ((ws.length : Int) != (vs.length : Int)) = false := by rw [hl]; simp
  go_wp2
  go_loopw [5, 13] (fun _ i wr => ∃ k nd : Nat, k ≤ ws.length ∧ i = .int .i64 k ∧ (∀ j (h1 : j < ws.length) (h2 : j < vs.length), j < k → ws[j] = vs[j]) ∧ wr = w.drewN nd) (fun _ i _ => ws.length - (intOf i).toNat)
  case atStart => exact ⟨0, 0, Nat.zero_le _, rfl, fun j _ _ h => by omega, rfl⟩
  case round =>
    obtain ⟨k, nd, hk, rfl, hall, rfl⟩ := hrel
    clear hnl
    by_cases hlt : k < ws.length
    · have hlt' : k < vs.length := by omega
      have e1 := H1.out k hlt
      have e2 := H2.out k hlt'
      have b0 : (0 : Int) ≤ (k : Int) := by omega
      have b1 : (k : Int) < (ws.length : Int) := by omega
      have b2 : (k : Int) < (vs.length : Int) := by omega
      by_cases hz : ws[k] = vs[k]
      · have hb : (((ws[k] : Nat) : Int) != ((vs[k] : Nat) : Int)) = false := by rw [hz]; simp
        have HA : Hid (∀ j (h1 : j < ws.length) (h2 : j < vs.length), j < k + 1 → ws[j] = vs[j]) := fun j a b c => by
          by_cases e : j = k
          · subst e; exact hz
          · exact hall j a b (by omega)
        rw [← hz] at hb e2
        clear hz hall H1 H2
        generalize ws[k] = x at *
        go_wp2
        go_quiet (fail)
        go_wp2
        go_roundw
        case rel => exact ⟨k + 1, _, by omega, by go_num, HA.out, by first | rfl | trivial⟩
        case measure => simp [intOf]; omega
      · have hb : (((ws[k] : Nat) : Int) != ((vs[k] : Nat) : Int)) = true := by simp; omega
        have HN : Hid (decide (ws = vs) = false) := by
          refine decide_eq_false fun e => hz ?_
          subst e
          rfl
        clear hz hall H1 H2
        generalize ws[k] = x at *
        generalize vs[k] = y at *
        go_wp2
        go_quiet (fail)
        go_wp2
        go_ret
        rw [HN.out]
        exact ⟨rfl, _, World.drewN_drewN _ _ _⟩
    · have e : k = ws.length := by omega
      subst e
      have HN : Hid (decide (ws = vs) = true) := decide_eq_true (List.ext_getElem hl.symm fun j a b => hall j a b a)
      clear hall
      go_wp2
      go_ret
      rw [HN.out]
      exact ⟨rfl, _, rfl⟩

set_option maxRecDepth 100000 in
theorem same_r {w : World} {sb g cap n tb g2 cap2 m : Nat} {ws vs : List Nat} (h1 : SetAt w sb g cap n ws) (h2 : SetAt w tb g2 cap2 m vs) (hne : n ≠ m) :
    Calls Tryd.prog 11 #[.pointer (some ⟨sb, 0, none⟩), .pointer (some ⟨tb, 0, none⟩)] w fun e w' => e = .returned (.bool false) ∧ ∃ k, w' = w.drewN k := by
  have hgw : ∀ m, Calls Tryd.prog 32 #[.pointer (some ⟨sb, 0, none⟩), .pointer (some ⟨tb, 0, none⟩)] (w.drewN m) fun e w' => e = .returned (.int .i64 30) ∧ ∃ k, w' = w.drewN k := fun m => by
    have := goesWith_k (h1.drewN m) (h2.drewN m)
    rw [if_neg hne] at this
    exact this.mono fun _ _ ⟨p, k, q⟩ => ⟨p, _, q.trans (World.drewN_drewN _ _ _)⟩
  have HW := hide hgw
  clear h1 h2 hgw
  go_enter Tryd.func11, Tryd.ntmps11
  go_wp2
  go_quiet ((go_at_call 32; exact HW.out _))
  go_wp2
  go_ret
  exact ⟨rfl, _, rfl⟩
set_option maxRecDepth 100000 in
theorem same_t {w : World} {sb g cap n : Nat} {ws : List Nat} {v : Value} (h1 : SetAt w sb g cap n ws) (h2 : NoSet w v) :
    Calls Tryd.prog 11 #[.pointer (some ⟨sb, 0, none⟩), v] w fun e w' => e = .returned (.bool false) ∧ ∃ k, w' = w.drewN k := by
  have HW : Hid (∀ m, Calls Tryd.prog 32 #[.pointer (some ⟨sb, 0, none⟩), v] (w.drewN m) fun e w' => e = .returned (.int .i64 30) ∧ ∃ k, w' = w.drewN k) := fun m => (goesWith_t (h1.drewN m) (h2.drewN m)).mono fun _ _ ⟨p, k, q⟩ => ⟨p, _, q.trans (World.drewN_drewN _ _ _)⟩
  clear h1 h2
  go_enter Tryd.func11, Tryd.ntmps11
  go_wp2
  go_quiet ((go_at_call 32; exact HW.out _))
  go_wp2
  go_ret
  exact ⟨rfl, _, rfl⟩
set_option maxRecDepth 100000 in
theorem same_no {w : World} {v : Value} (h : NoSet w v) (u : Value) :
    Calls Tryd.prog 11 #[v, u] w fun e w' => e = .returned (.bool false) ∧ ∃ k, w' = w.drewN k := by
  have HW := hide fun m => goesWith_no (u := u) (h.drewN m)
  clear h
  go_enter Tryd.func11, Tryd.ntmps11
  go_wp2
  go_quiet ((go_at_call 32; exact Calls.quiet_of_same ((HW.out _).mono fun _ _ h => ⟨h.1, h.2.symm⟩)))
  go_wp2
  go_ret
  exact ⟨rfl, _, rfl⟩

set_option maxRecDepth 100000 in
set_option maxHeartbeats 1000000 in
theorem copy_k {w : World} {sb g cap n : Nat} {ws : List Nat} (h : SetAt w sb g cap n ws) :
    Calls Tryd.prog 23 #[.pointer (some ⟨sb, 0, none⟩)] w fun e w' => ∃ sb' g' cap', e = .returned (.pointer (some ⟨sb', 0, none⟩)) ∧ SetAt w' sb' g' cap' n ws ∧ w.heap.size ≤ sb' ∧ w.heap.size ≤ g' ∧ Below w.heap.size w w' := by
  obtain ⟨c0, c1, c2⟩ := h.cells
  have hlen : ws.length ≤ 1048576 := by have := h.len; have := h.room; omega
  have HU := hide (usable_k h)
  have HC1 := hide (cloneW_k (w := w.drew) h.row (u64s_one ws) hlen)
  have H1 := hide h.len
  have H2 := hide h.room
  have H3 := hide h.fit
  have hsb := h.lt
  clear h
  go_enter Tryd.func23, Tryd.ntmps23
  go_wp2_with (go_at_call 36; refine HU.out.mono ?_; rintro e w1 ⟨rfl, rfl⟩)
  go_region_with (go_at_call 37; refine HC1.out.mono ?_; rintro e w1 ⟨g', cap', rfl, A1, A2⟩; have B1 := hide A1; have B2 := hide A2; have k1 : w1.cell? ⟨sb, 1, none⟩ = some (.int .i64 (n : Int)) := (A2.cell hsb).trans c1; clear A1 A2)
  all_goals
    go_wp2
    go_ret
    have b1 := B1.out
    have b2 := B2.out
    have hg' := b1.lt g' rfl
    refine ⟨_, g', cap', rfl, ⟨World.alloc_heap_new w1 _, (row_from b1 (Nat.zero_le _)).alloc _, H1.out, H2.out, H3.out⟩, b2.size, hg'.1, (Below.drew (Below.refl _ w)).trans (b2.alloc b2.size _)⟩
end Go.Proofs.YtfagjejknnkhdaaDoor
