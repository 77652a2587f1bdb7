/- The document's Join, kind 1. -/
import Derived.Test.YtfagjejknnkhdaaDoorBRefJoin
namespace Go.Proofs.YtfagjejknnkhdaaDoor
open Go.RowKit

set_option maxRecDepth 100000 in
set_option maxHeartbeats 4000000 in
theorem refJoin1_k {w : World} {pb gb cap qb hb cap2 : Nat} {bs cs : List Bool} (h1 : RefAt w pb gb cap bs) (h2 : RefAt w qb hb cap2 cs) (hl : bs.length = cs.length) (hsame : gb = hb → bs = cs) :
    Calls Tryd.prog 20 #[.pointer (some ⟨pb, 0, none⟩), .int .i64 1, .pointer (some ⟨qb, 0, none⟩)] w fun e w' => e = .returned (.int .i64 0) ∧ RefAt w' pb gb cap (joinB 1 bs cs) ∧ w.grownBy w' (some gb) := by
  obtain ⟨c0, c1⟩ := h1.cells
  obtain ⟨d0, d1⟩ := h2.cells
  have hr := h1.room
  have hne : ((bs.length : Int) != (bs.length : Int)) = false := by simp
  rw [← hl] at d1
  have H1 := hide h1
  have H2 := hide h2
  have HL := hide hl
  have HSM := hide hsame
  clear h1 h2 hl hsame
  go_enter Tryd.func20, Tryd.ntmps20
  go_wp2
  go_quiet (fail)
  go_wp2
  clear hne c0 c1 d0 d1
  go_loopw [7] (fun i wr => ∃ k : Nat, k ≤ bs.length ∧ i = .int .i64 k ∧ RefAt wr pb gb cap (joinTo 1 bs cs k) ∧ w.grownBy wr (some gb)) (fun i _ => bs.length - (intOf i).toNat)
  case atStart => exact ⟨0, Nat.zero_le _, rfl, by rw [joinTo_zero]; exact H1.out.drewN _, ⟨rfl, rfl, rfl, Nat.le_refl _, fun _ _ _ => rfl⟩⟩
  case round =>
    obtain ⟨k, hk, rfl, hO, hgr⟩ := hrel
    obtain ⟨c0, c1⟩ := hO.cells
    rw [joinTo_len] at c1
    by_cases hlt : k < bs.length
    · have hlt2 : k < cs.length := by rw [← HL.out]; exact hlt
      have e1 := hO.get k (by rw [joinTo_len]; exact hlt)
      rw [joinTo_get 1 bs cs k hlt] at e1
      have hf := hO.row.frozenAt k
      have hgq : gb ≠ qb := fun e => by
        obtain ⟨cur, hc⟩ := row_block_is H1.out.row
        have := H2.out.st
        rw [← e, hc] at this
        simp at this
      have e2 : wr.cell? ⟨hb, k, none⟩ = some (.bool cs[k]) := by
        by_cases e : gb = hb
        · have hh := HSM.out e
          subst hh
          rw [← e]
          exact e1
        · exact (World.cell?_of_block (hgr.block hb H2.out.glt (by simpa using Ne.symm e))).trans (H2.out.get k hlt2)
      have d1 : wr.cell? ⟨qb, 1, none⟩ = some (.slice (some ⟨hb, 0, none⟩) bs.length cap2) := by
        have := (World.cell?_of_block (a := ⟨qb, 1, none⟩) (hgr.block qb H2.out.lt (by simpa using Ne.symm hgq))).trans H2.out.cells.2
        rw [← HL.out] at this
        exact this
      have hput := hO.put k (joinO 1 bs[k] cs[k])
      rw [joinTo_step 1 bs cs k hlt hlt2] at hput
      have HPUT := hide hput
      have HGR := hide hgr
      have p0 : (0 : Int) ≤ (k : Int) := by omega
      have p1 : (k : Int) < (bs.length : Int) := by omega
      clear hput hO hgr H1 H2 HSM hgq
      generalize bs[k] = x at *
      generalize cs[k] = y at *
      cases x
      case true =>
        have ej : joinO 1 true y = true := by cases y <;> rfl
        rw [ej] at HPUT
        go_wp2
        have hset : ∀ nd, (wr.drewN nd).setCell ⟨gb, k, none⟩ (.bool true) = wr.drewN nd := fun nd => setCell_self e1
        have hset1 : wr.setCell ⟨gb, k, none⟩ (.bool true) = wr := setCell_self e1
        rw [hset1] at HPUT
        go_quiet (fail)
        go_wp2
        go_roundw
        case rel => exact ⟨k + 1, by omega, by go_num, HPUT.out.1.drewN _, grown_trans HGR.out ⟨HPUT.out.2.os, HPUT.out.2.tape, HPUT.out.2.output, HPUT.out.2.size, HPUT.out.2.block⟩⟩
        case measure => simp [intOf]; omega
      case false =>
        have ej : joinO 1 false y = y := by cases y <;> rfl
        rw [ej] at HPUT
        go_wp2
        go_region_with (fail)
        all_goals
          go_wp2
          go_roundw
          case rel => exact ⟨k + 1, by omega, by go_num, HPUT.out.1.drewN 1, grown_trans HGR.out ⟨HPUT.out.2.os, HPUT.out.2.tape, HPUT.out.2.output, HPUT.out.2.size, HPUT.out.2.block⟩⟩
          case measure => simp [intOf]; omega
    · have hke : k = bs.length := by omega
      rw [hke, joinTo_end] at hO
      have O5 := hide hO
      have G5 := hide hgr
      clear hO hgr hke H1 H2 HL HSM
      go_wp2
      go_ret
      exact ⟨rfl, O5.out, G5.out⟩
end Go.Proofs.YtfagjejknnkhdaaDoor
