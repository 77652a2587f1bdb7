/- Letters and names. -/
import Derived.Test.YtpbebcefnkbnlabDoorTUnescape
import Derived.Laws.Rows
namespace Go.Proofs.YtpbebcefnkbnlabDoor
open Go.RowKit

def letTab : Array Value := #[.int .i32 65, .int .i32 90, .int .i32 95, .int .i32 95, .int .i32 97, .int .i32 122, .int .i32 192, .int .i32 214, .int .i32 216, .int .i32 246, .int .i32 248, .int .i32 591, .int .i32 913, .int .i32 929, .int .i32 931, .int .i32 969]
def spans : List (Int × Int) := [(65, 90), (95, 95), (97, 122), (192, 214), (216, 246), (248, 591), (913, 929), (931, 969)]
def inSpan (r : Int) (p : Int × Int) : Bool := decide (p.1 ≤ r) && decide (r ≤ p.2)
def isLetter (r : Int) : Bool := spans.any (inSpan r)

theorem idxS0 (w : World) : (Instr.index 56 (.agg #[.int .i32 65, .int .i32 90, .int .i32 95, .int .i32 95, .int .i32 97, .int .i32 122, .int .i32 192, .int .i32 214, .int .i32 216, .int .i32 246, .int .i32 248, .int .i32 591, .int .i32 913, .int .i32 929, .int .i32 931, .int .i32 969]) (.int .i64 0)).run Tryd.prog w = .ok (.agg #[.int .i32 65, .int .i32 90]) w := by kernel_rfl
theorem idxS1 (w : World) : (Instr.index 56 (.agg #[.int .i32 65, .int .i32 90, .int .i32 95, .int .i32 95, .int .i32 97, .int .i32 122, .int .i32 192, .int .i32 214, .int .i32 216, .int .i32 246, .int .i32 248, .int .i32 591, .int .i32 913, .int .i32 929, .int .i32 931, .int .i32 969]) (.int .i64 1)).run Tryd.prog w = .ok (.agg #[.int .i32 95, .int .i32 95]) w := by kernel_rfl
theorem idxS2 (w : World) : (Instr.index 56 (.agg #[.int .i32 65, .int .i32 90, .int .i32 95, .int .i32 95, .int .i32 97, .int .i32 122, .int .i32 192, .int .i32 214, .int .i32 216, .int .i32 246, .int .i32 248, .int .i32 591, .int .i32 913, .int .i32 929, .int .i32 931, .int .i32 969]) (.int .i64 2)).run Tryd.prog w = .ok (.agg #[.int .i32 97, .int .i32 122]) w := by kernel_rfl
theorem idxS3 (w : World) : (Instr.index 56 (.agg #[.int .i32 65, .int .i32 90, .int .i32 95, .int .i32 95, .int .i32 97, .int .i32 122, .int .i32 192, .int .i32 214, .int .i32 216, .int .i32 246, .int .i32 248, .int .i32 591, .int .i32 913, .int .i32 929, .int .i32 931, .int .i32 969]) (.int .i64 3)).run Tryd.prog w = .ok (.agg #[.int .i32 192, .int .i32 214]) w := by kernel_rfl
theorem idxS4 (w : World) : (Instr.index 56 (.agg #[.int .i32 65, .int .i32 90, .int .i32 95, .int .i32 95, .int .i32 97, .int .i32 122, .int .i32 192, .int .i32 214, .int .i32 216, .int .i32 246, .int .i32 248, .int .i32 591, .int .i32 913, .int .i32 929, .int .i32 931, .int .i32 969]) (.int .i64 4)).run Tryd.prog w = .ok (.agg #[.int .i32 216, .int .i32 246]) w := by kernel_rfl
theorem idxS5 (w : World) : (Instr.index 56 (.agg #[.int .i32 65, .int .i32 90, .int .i32 95, .int .i32 95, .int .i32 97, .int .i32 122, .int .i32 192, .int .i32 214, .int .i32 216, .int .i32 246, .int .i32 248, .int .i32 591, .int .i32 913, .int .i32 929, .int .i32 931, .int .i32 969]) (.int .i64 5)).run Tryd.prog w = .ok (.agg #[.int .i32 248, .int .i32 591]) w := by kernel_rfl
theorem idxS6 (w : World) : (Instr.index 56 (.agg #[.int .i32 65, .int .i32 90, .int .i32 95, .int .i32 95, .int .i32 97, .int .i32 122, .int .i32 192, .int .i32 214, .int .i32 216, .int .i32 246, .int .i32 248, .int .i32 591, .int .i32 913, .int .i32 929, .int .i32 931, .int .i32 969]) (.int .i64 6)).run Tryd.prog w = .ok (.agg #[.int .i32 913, .int .i32 929]) w := by kernel_rfl
theorem idxS7 (w : World) : (Instr.index 56 (.agg #[.int .i32 65, .int .i32 90, .int .i32 95, .int .i32 95, .int .i32 97, .int .i32 122, .int .i32 192, .int .i32 214, .int .i32 216, .int .i32 246, .int .i32 248, .int .i32 591, .int .i32 913, .int .i32 929, .int .i32 931, .int .i32 969]) (.int .i64 7)).run Tryd.prog w = .ok (.agg #[.int .i32 931, .int .i32 969]) w := by kernel_rfl

set_option maxRecDepth 100000 in
set_option maxHeartbeats 2000000 in
theorem letter_k (r : Int) (w : World) (ht : Tabs w) :
    Calls Tryd.prog 8 #[.int .i32 r] w fun e w' => e = .returned (.bool (isLetter r)) ∧ Below w.heap.size w w' := by
  obtain ⟨tt, zz, hg⟩ := ht.lets
  have c0 : w.cell? ⟨0, 0, none⟩ = some (.int .i32 65) := by simp [World.cell?, hg]
  have c1 : w.cell? ⟨0, 1, none⟩ = some (.int .i32 90) := by simp [World.cell?, hg]
  have c2 : w.cell? ⟨0, 2, none⟩ = some (.int .i32 95) := by simp [World.cell?, hg]
  have c3 : w.cell? ⟨0, 3, none⟩ = some (.int .i32 95) := by simp [World.cell?, hg]
  have c4 : w.cell? ⟨0, 4, none⟩ = some (.int .i32 97) := by simp [World.cell?, hg]
  have c5 : w.cell? ⟨0, 5, none⟩ = some (.int .i32 122) := by simp [World.cell?, hg]
  have c6 : w.cell? ⟨0, 6, none⟩ = some (.int .i32 192) := by simp [World.cell?, hg]
  have c7 : w.cell? ⟨0, 7, none⟩ = some (.int .i32 214) := by simp [World.cell?, hg]
  have c8 : w.cell? ⟨0, 8, none⟩ = some (.int .i32 216) := by simp [World.cell?, hg]
  have c9 : w.cell? ⟨0, 9, none⟩ = some (.int .i32 246) := by simp [World.cell?, hg]
  have c10 : w.cell? ⟨0, 10, none⟩ = some (.int .i32 248) := by simp [World.cell?, hg]
  have c11 : w.cell? ⟨0, 11, none⟩ = some (.int .i32 591) := by simp [World.cell?, hg]
  have c12 : w.cell? ⟨0, 12, none⟩ = some (.int .i32 913) := by simp [World.cell?, hg]
  have c13 : w.cell? ⟨0, 13, none⟩ = some (.int .i32 929) := by simp [World.cell?, hg]
  have c14 : w.cell? ⟨0, 14, none⟩ = some (.int .i32 931) := by simp [World.cell?, hg]
  have c15 : w.cell? ⟨0, 15, none⟩ = some (.int .i32 969) := by simp [World.cell?, hg]
  go_enter Tryd.func8, Tryd.ntmps8
  go_wp2
  clear c0 c1 c2 c3 c4 c5 c6 c7 c8 c9 c10 c11 c12 c13 c14 c15 hg
  go_loopw [4, 6] (fun _ v wr => ∃ j : Nat, v = .int .i64 (j : Int) ∧ j ≤ 8 ∧ (spans.take j).any (inSpan r) = false ∧ Below w.heap.size w wr)
    (fun _ v _ => 8 - (Lib.intOf v).toNat)
  case atStart => exact ⟨0, rfl, by omega, rfl, Below.refl _ _⟩
  case round =>
    obtain ⟨j, rfl, hj, hno, hbel⟩ := hrel
    by_cases hj8 : j < 8
    · have hcs : j = 0 ∨ j = 1 ∨ j = 2 ∨ j = 3 ∨ j = 4 ∨ j = 5 ∨ j = 6 ∨ j = 7 := by omega
      rcases hcs with rfl | rfl | rfl | rfl | rfl | rfl | rfl | rfl
      · have hix := idxS0
        by_cases a1 : 65 ≤ r
        · by_cases a2 : r ≤ 90
          · go_wp2
            go_ret
            refine ⟨?_, hbel.alloc hbel.size _⟩
            have : isLetter r = true := by
              unfold isLetter
              exact List.any_eq_true.2 ⟨(65, 90), by decide, by simp [inSpan, a1, a2]⟩
            rw [this]
            rfl
          · go_wp2
            go_roundw
            case rel => exact ⟨1, rfl, by omega, by simp only [spans, List.take, List.any] at hno ⊢; simp [inSpan, a1, a2] at hno ⊢; try exact hno, hbel.alloc hbel.size _⟩
            case measure => simp [Lib.intOf]
        · go_wp2
          go_roundw
          case rel => exact ⟨1, rfl, by omega, by simp only [spans, List.take, List.any] at hno ⊢; simp [inSpan, a1] at hno ⊢; try exact hno, hbel.alloc hbel.size _⟩
          case measure => simp [Lib.intOf]
      · have hix := idxS1
        by_cases a1 : 95 ≤ r
        · by_cases a2 : r ≤ 95
          · go_wp2
            go_ret
            refine ⟨?_, hbel.alloc hbel.size _⟩
            have : isLetter r = true := by
              unfold isLetter
              exact List.any_eq_true.2 ⟨(95, 95), by decide, by simp [inSpan, a1, a2]⟩
            rw [this]
            rfl
          · go_wp2
            go_roundw
            case rel => exact ⟨2, rfl, by omega, by simp only [spans, List.take, List.any] at hno ⊢; simp [inSpan, a1, a2] at hno ⊢; try exact hno, hbel.alloc hbel.size _⟩
            case measure => simp [Lib.intOf]
        · go_wp2
          go_roundw
          case rel => exact ⟨2, rfl, by omega, by simp only [spans, List.take, List.any] at hno ⊢; simp [inSpan, a1] at hno ⊢; try exact hno, hbel.alloc hbel.size _⟩
          case measure => simp [Lib.intOf]
      · have hix := idxS2
        by_cases a1 : 97 ≤ r
        · by_cases a2 : r ≤ 122
          · go_wp2
            go_ret
            refine ⟨?_, hbel.alloc hbel.size _⟩
            have : isLetter r = true := by
              unfold isLetter
              exact List.any_eq_true.2 ⟨(97, 122), by decide, by simp [inSpan, a1, a2]⟩
            rw [this]
            rfl
          · go_wp2
            go_roundw
            case rel => exact ⟨3, rfl, by omega, by simp only [spans, List.take, List.any] at hno ⊢; simp [inSpan, a1, a2] at hno ⊢; try exact hno, hbel.alloc hbel.size _⟩
            case measure => simp [Lib.intOf]
        · go_wp2
          go_roundw
          case rel => exact ⟨3, rfl, by omega, by simp only [spans, List.take, List.any] at hno ⊢; simp [inSpan, a1] at hno ⊢; try exact hno, hbel.alloc hbel.size _⟩
          case measure => simp [Lib.intOf]
      · have hix := idxS3
        by_cases a1 : 192 ≤ r
        · by_cases a2 : r ≤ 214
          · go_wp2
            go_ret
            refine ⟨?_, hbel.alloc hbel.size _⟩
            have : isLetter r = true := by
              unfold isLetter
              exact List.any_eq_true.2 ⟨(192, 214), by decide, by simp [inSpan, a1, a2]⟩
            rw [this]
            rfl
          · go_wp2
            go_roundw
            case rel => exact ⟨4, rfl, by omega, by simp only [spans, List.take, List.any] at hno ⊢; simp [inSpan, a1, a2] at hno ⊢; try exact hno, hbel.alloc hbel.size _⟩
            case measure => simp [Lib.intOf]
        · go_wp2
          go_roundw
          case rel => exact ⟨4, rfl, by omega, by simp only [spans, List.take, List.any] at hno ⊢; simp [inSpan, a1] at hno ⊢; try exact hno, hbel.alloc hbel.size _⟩
          case measure => simp [Lib.intOf]
      · have hix := idxS4
        by_cases a1 : 216 ≤ r
        · by_cases a2 : r ≤ 246
          · go_wp2
            go_ret
            refine ⟨?_, hbel.alloc hbel.size _⟩
            have : isLetter r = true := by
              unfold isLetter
              exact List.any_eq_true.2 ⟨(216, 246), by decide, by simp [inSpan, a1, a2]⟩
            rw [this]
            rfl
          · go_wp2
            go_roundw
            case rel => exact ⟨5, rfl, by omega, by simp only [spans, List.take, List.any] at hno ⊢; simp [inSpan, a1, a2] at hno ⊢; try exact hno, hbel.alloc hbel.size _⟩
            case measure => simp [Lib.intOf]
        · go_wp2
          go_roundw
          case rel => exact ⟨5, rfl, by omega, by simp only [spans, List.take, List.any] at hno ⊢; simp [inSpan, a1] at hno ⊢; try exact hno, hbel.alloc hbel.size _⟩
          case measure => simp [Lib.intOf]
      · have hix := idxS5
        by_cases a1 : 248 ≤ r
        · by_cases a2 : r ≤ 591
          · go_wp2
            go_ret
            refine ⟨?_, hbel.alloc hbel.size _⟩
            have : isLetter r = true := by
              unfold isLetter
              exact List.any_eq_true.2 ⟨(248, 591), by decide, by simp [inSpan, a1, a2]⟩
            rw [this]
            rfl
          · go_wp2
            go_roundw
            case rel => exact ⟨6, rfl, by omega, by simp only [spans, List.take, List.any] at hno ⊢; simp [inSpan, a1, a2] at hno ⊢; try exact hno, hbel.alloc hbel.size _⟩
            case measure => simp [Lib.intOf]
        · go_wp2
          go_roundw
          case rel => exact ⟨6, rfl, by omega, by simp only [spans, List.take, List.any] at hno ⊢; simp [inSpan, a1] at hno ⊢; try exact hno, hbel.alloc hbel.size _⟩
          case measure => simp [Lib.intOf]
      · have hix := idxS6
        by_cases a1 : 913 ≤ r
        · by_cases a2 : r ≤ 929
          · go_wp2
            go_ret
            refine ⟨?_, hbel.alloc hbel.size _⟩
            have : isLetter r = true := by
              unfold isLetter
              exact List.any_eq_true.2 ⟨(913, 929), by decide, by simp [inSpan, a1, a2]⟩
            rw [this]
            rfl
          · go_wp2
            go_roundw
            case rel => exact ⟨7, rfl, by omega, by simp only [spans, List.take, List.any] at hno ⊢; simp [inSpan, a1, a2] at hno ⊢; try exact hno, hbel.alloc hbel.size _⟩
            case measure => simp [Lib.intOf]
        · go_wp2
          go_roundw
          case rel => exact ⟨7, rfl, by omega, by simp only [spans, List.take, List.any] at hno ⊢; simp [inSpan, a1] at hno ⊢; try exact hno, hbel.alloc hbel.size _⟩
          case measure => simp [Lib.intOf]
      · have hix := idxS7
        by_cases a1 : 931 ≤ r
        · by_cases a2 : r ≤ 969
          · go_wp2
            go_ret
            refine ⟨?_, hbel.alloc hbel.size _⟩
            have : isLetter r = true := by
              unfold isLetter
              exact List.any_eq_true.2 ⟨(931, 969), by decide, by simp [inSpan, a1, a2]⟩
            rw [this]
            rfl
          · go_wp2
            go_roundw
            case rel => exact ⟨8, rfl, by omega, by simp only [spans, List.take, List.any] at hno ⊢; simp [inSpan, a1, a2] at hno ⊢; try exact hno, hbel.alloc hbel.size _⟩
            case measure => simp [Lib.intOf]
        · go_wp2
          go_roundw
          case rel => exact ⟨8, rfl, by omega, by simp only [spans, List.take, List.any] at hno ⊢; simp [inSpan, a1] at hno ⊢; try exact hno, hbel.alloc hbel.size _⟩
          case measure => simp [Lib.intOf]
    · have h8 : j = 8 := by omega
      subst h8
      go_wp2
      go_ret
      refine ⟨?_, hbel⟩
      have : isLetter r = false := hno
      rw [this]
      rfl
end Go.Proofs.YtpbebcefnkbnlabDoor
