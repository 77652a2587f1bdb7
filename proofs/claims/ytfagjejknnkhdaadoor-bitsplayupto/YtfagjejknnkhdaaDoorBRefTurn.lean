/- The document's Turn and Within. -/
import Derived.Test.YtfagjejknnkhdaaDoorBRef
import Derived.Test.YtfagjejknnkhdaaDoorBTells
namespace Go.Proofs.YtfagjejknnkhdaaDoor
open Go.RowKit

theorem RefAt.ne {w : World} {pb gb cap : Nat} {bs : List Bool} (h : RefAt w pb gb cap bs) : pb ≠ gb := by
  intro e
  obtain ⟨cur, hc⟩ := row_block_is h.row
  have := h.st
  rw [e, hc] at this
  simp at this
theorem RefAt.put {w : World} {pb gb cap : Nat} {bs : List Bool} (h : RefAt w pb gb cap bs) (k : Nat) (b : Bool) : RefAt (w.setCell ⟨gb, k, none⟩ (.bool b)) pb gb cap (bs.set k b) ∧ w.grownBy (w.setCell ⟨gb, k, none⟩ (.bool b)) (some gb) := by
  have hst := h.row.stored k (.bool b)
  rw [bools_set] at hst
  have hne := h.ne
  refine ⟨⟨?_, ?_, ?_⟩, hst.2⟩
  · rw [List.length_set]
    exact (Below.heap_setCell _ _ _ _ (by simpa using hne)).trans h.st
  · rw [List.length_set]
    exact hst.1
  · rw [List.length_set]
    exact h.room
/-- What Turn makes of the truths. -/
def turnB (bs : List Bool) (i : Int) (b : Bool) : List Bool := if 0 ≤ i ∧ i < (bs.length : Int) then bs.set i.toNat b else bs
theorem turnB_len (bs : List Bool) (i : Int) (b : Bool) : (turnB bs i b).length = bs.length := by
  unfold turnB
  split
  · simp
  · rfl
set_option maxRecDepth 100000 in
theorem refTurn_k {w : World} {pb gb cap : Nat} {bs : List Bool} (h : RefAt w pb gb cap bs) (i : Int) (b : Bool) :
    Calls Tryd.prog 17 #[.pointer (some ⟨pb, 0, none⟩), .int .i64 i, .bool b] w fun e w' => e = .returned (.int .i64 (tk bs.length i)) ∧ RefAt w' pb gb cap (turnB bs i b) ∧ w.grownBy w' (some gb) := by
  obtain ⟨c0, c1⟩ := h.cells
  have hr := h.room
  by_cases h0 : i < 0
  · have e1 : tk bs.length i = 30 := if_neg (by omega)
    have e2 : turnB bs i b = bs := if_neg (by omega)
    rw [e1, e2]
    have H := hide h
    clear h
    go_enter Tryd.func17, Tryd.ntmps17
    go_wp2
    go_ret
    exact ⟨rfl, H.out, grown_refl _ _⟩
  · by_cases h1 : i < (bs.length : Int)
    · obtain ⟨k, rfl⟩ : ∃ k : Nat, i = (k : Int) := ⟨i.toNat, by omega⟩
      have hk : k < bs.length := by omega
      have e1 : tk bs.length (k : Int) = 0 := if_pos (by omega)
      have e2 : turnB bs (k : Int) b = bs.set k b := by unfold turnB; rw [if_pos (by omega), Int.toNat_natCast]
      rw [e1, e2]
      have hc := h.get k hk
      have hf := h.row.frozenAt k
      have R := hide (h.put k b)
      clear h
      generalize bs[k] = x at *
      go_enter Tryd.func17, Tryd.ntmps17
      go_wp2
      go_ret
      exact ⟨rfl, R.out.1, R.out.2⟩
    · have e1 : tk bs.length i = 30 := if_neg (by omega)
      have e2 : turnB bs i b = bs := if_neg (by omega)
      rw [e1, e2]
      have H := hide h
      clear h
      go_enter Tryd.func17, Tryd.ntmps17
      go_wp2
      go_ret
      exact ⟨rfl, H.out, grown_refl _ _⟩

/-- What Within answers. -/
def withinB (bs cs : List Bool) : Bool := decide (bs.length = cs.length) && (List.range bs.length).all fun i => !bs.getD i false || cs.getD i false
set_option maxRecDepth 100000 in
set_option maxHeartbeats 1000000 in
theorem refWithin_k {w : World} {pb gb cap qb hb cap2 : Nat} {bs cs : List Bool} (h1 : RefAt w pb gb cap bs) (h2 : RefAt w qb hb cap2 cs) :
    Calls Tryd.prog 10 #[.pointer (some ⟨pb, 0, none⟩), .pointer (some ⟨qb, 0, none⟩)] w fun e w' => e = .returned (.bool (withinB bs cs)) ∧ ∃ m, w' = w.drewN m := by
  obtain ⟨c0, c1⟩ := h1.cells
  obtain ⟨d0, d1⟩ := h2.cells
  have hr := h1.room
  have hr2 := h2.room
  have HG := hide h1.get
  have HG2 := hide h2.get
  clear h1 h2
  by_cases hl : bs.length = cs.length
  · have hne : ((bs.length : Int) != (cs.length : Int)) = false := by simp [hl]
    have hle : cs.length = bs.length := hl.symm
    have e : withinB bs cs = (List.range bs.length).all fun i => !bs.getD i false || cs.getD i false := by unfold withinB; rw [decide_eq_true hl, Bool.true_and]
    rw [e]
    have HLE := hide hl
    rw [hle] at d1 hne
    clear e hl hle
    go_enter Tryd.func10, Tryd.ntmps10
    go_wp2
    go_quiet (fail)
    go_wp2
    clear hne
    go_loopw [5] (fun i wr => ∃ k nd : Nat, k ≤ bs.length ∧ i = .int .i64 k ∧ wr = w.drewN nd ∧ ∀ j, j < k → (!bs.getD j false || cs.getD j false) = true) (fun i _ => bs.length - (intOf i).toNat)
    case atStart => exact ⟨0, _, Nat.zero_le _, rfl, by first | rfl | trivial, fun j hj => by omega⟩
    case round =>
      obtain ⟨k, nd, hk, rfl, rfl, hall⟩ := hrel
      by_cases hlt : k < bs.length
      · have hlt2 : k < cs.length := by rw [← HLE.out]; exact hlt
        have e1 := HG.out k hlt
        have e2 := HG2.out k hlt2
        have g1 : bs.getD k false = bs[k] := by simp [hlt]
        have g2 : cs.getD k false = cs[k] := by simp [hlt2]
        have HA := hide hall
        have p0 : (0 : Int) ≤ (k : Int) := by omega
        have p1 : (k : Int) < (bs.length : Int) := by omega
        have hstep : (!bs[k] || cs[k]) = true → ∀ j, j < k + 1 → (!bs.getD j false || cs.getD j false) = true := fun h j hj => by
          by_cases e : j = k
          · rw [e, g1, g2]; exact h
          · exact HA.out j (by omega)
        have hno : (!bs[k] || cs[k]) = false → ((List.range bs.length).all fun i => !bs.getD i false || cs.getD i false) = false := fun h => by
          rw [List.all_eq_false]
          exact ⟨k, List.mem_range.2 hlt, by rw [g1, g2, h]; simp⟩
        have HS := hide hstep
        have HN := hide hno
        clear hstep hno hall g1 g2 HG HG2
        generalize bs[k] = x at *
        generalize cs[k] = y at *
        cases x <;> cases y
        · go_wp2
          go_roundw
          case rel => exact ⟨k + 1, _, by omega, by go_num, by first | rfl | trivial, HS.out rfl⟩
          case measure => simp [intOf]; omega
        · go_wp2
          go_roundw
          case rel => exact ⟨k + 1, _, by omega, by go_num, by first | rfl | trivial, HS.out rfl⟩
          case measure => simp [intOf]; omega
        · go_wp2
          go_ret
          exact ⟨by rw [HN.out rfl]; rfl, _, rfl⟩
        · go_wp2
          go_roundw
          case rel => exact ⟨k + 1, _, by omega, by go_num, by first | rfl | trivial, HS.out rfl⟩
          case measure => simp [intOf]; omega
      · have e : ((List.range bs.length).all fun i => !bs.getD i false || cs.getD i false) = true := List.all_eq_true.2 fun j hj => hall j (by have := List.mem_range.1 hj; omega)
        have HE := hide e
        clear HG HG2 hall e
        go_wp2
        go_ret
        exact ⟨by rw [HE.out]; rfl, _, rfl⟩
  · have hne : ((bs.length : Int) != (cs.length : Int)) = true := by simp; omega
    have e : withinB bs cs = false := by unfold withinB; rw [decide_eq_false hl, Bool.false_and]
    rw [e]
    clear e hl HG HG2
    go_enter Tryd.func10, Tryd.ntmps10
    go_wp2
    go_quiet (fail)
    go_wp2
    go_ret
    exact ⟨rfl, _, rfl⟩
end Go.Proofs.YtfagjejknnkhdaaDoor
