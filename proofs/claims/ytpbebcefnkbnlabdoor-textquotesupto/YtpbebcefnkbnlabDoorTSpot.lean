/- Spots: the first one, and the one behind a rune; the iterators' makers. -/
import Derived.Test.YtpbebcefnkbnlabDoorShelf
import Derived.Test.YtpbebcefnkbnlabDoorTRange
import Derived.Test.YtpbebcefnkbnlabDoorTMath
import Derived.BigCall
namespace Go.Proofs.YtpbebcefnkbnlabDoor
open Go.RowKit

theorem infoSpot : (Tryd.prog.info? 71).map (·.size) = some 3 := by kernel_rfl

set_option maxRecDepth 100000 in
theorem first_k (w : World) :
    Calls Tryd.prog 47 #[] w fun e w' => e = .returned (.agg #[.int .i64 0, .int .i64 1, .int .i64 1]) ∧ w.alloc (.cells #[.int .i64 0, .int .i64 1, .int .i64 1] 71) = w' := by
  go_enter Tryd.func47, Tryd.ntmps47
  go_wp2
  refine bodyPost_ret (results_cell_row rfl _ _ w.heap.size _ _ _ _ rfl (heap_alloc_new _ _) Tryd.underlying71 rfl infoSpot) rfl ?_
  exact ⟨rfl, rfl⟩

def bLine (line : Nat) (r : Int) : Nat := if r = 10 then line + 1 else line
def bCol (col : Nat) (r : Int) : Nat := if r = 10 then 1 else col + 1
theorem elS_step (off line col : Nat) (r : Int) (k : Nat) (t : List (Int × Nat)) : elS off line col ((r, k) :: t) = ⟨off, line, col, r⟩ :: elS (off + k) (bLine line r) (bCol col r) t := by
  unfold bLine bCol
  rw [elS]
  split <;> rfl

set_option maxRecDepth 100000 in
theorem behind_k (off line col : Nat) (r : Int) (w : World) (hl : line + 1 ≤ 9223372036854775807) (hc : col + 1 ≤ 9223372036854775807) :
    Calls Tryd.prog 49 #[.agg #[.int .i64 off, .int .i64 line, .int .i64 col], .int .i32 r] w fun e w' =>
      e = .returned (.agg #[.int .i64 off, .int .i64 (bLine line r), .int .i64 (bCol col r)]) ∧ ∃ o1 o2, (w.alloc o1).alloc o2 = w' := by
  unfold bLine bCol
  by_cases hr : r = 10
  · subst hr
    go_enter Tryd.func49, Tryd.ntmps49
    go_wp2
    refine bodyPost_ret (results_cell_row rfl _ _ (w.heap.size + 1) _ _ _ _ rfl (heap_alloc2_new _ _ _) Tryd.underlying71 rfl infoSpot) rfl ?_
    exact ⟨by simp, _, _, rfl⟩
  · go_enter Tryd.func49, Tryd.ntmps49
    go_wp2
    refine bodyPost_ret (results_cell_row rfl _ _ (w.heap.size + 1) _ _ _ _ rfl (heap_alloc2_new _ _ _) Tryd.underlying71 rfl infoSpot) rfl ?_
    exact ⟨by simp, _, _, rfl⟩

theorem runesMake_k (s : ByteArray) (w : World) :
    Calls Tryd.prog 25 #[.string s] w fun e w' => e = .returned (.func (.func 46) #[] #[.pointer (some ⟨w.heap.size, 0, none⟩)]) ∧ w.alloc (.cells #[.string s] 9) = w' := by
  go_enter Tryd.func25, Tryd.ntmps25
  go_wp2
  go_ret
  exact ⟨rfl, rfl⟩

theorem linesMake_k (s : ByteArray) (w : World) :
    Calls Tryd.prog 26 #[.string s] w fun e w' => e = .returned (.func (.func 50) #[] #[.pointer (some ⟨w.heap.size, 0, none⟩)]) ∧ w.alloc (.cells #[.string s] 9) = w' := by
  go_enter Tryd.func26, Tryd.ntmps26
  go_wp2
  go_ret
  exact ⟨rfl, rfl⟩

theorem runesNil (x : Array Value) (w : World) : (binOp BinOp.eql 47 (.func (.func 46) #[] x) .nilFunc).run Tryd.prog w = .ok (.bool false) w := by
  simp only [binOp, Sem.run_bind, Op.equal, Op.maxDepth]
  rw [Op.equalIn, Sem.run_bind, run_underlying Tryd.underlying47]
  rfl
theorem linesNil (x : Array Value) (w : World) : (binOp BinOp.eql 50 (.func (.func 50) #[] x) .nilFunc).run Tryd.prog w = .ok (.bool false) w := by
  simp only [binOp, Sem.run_bind, Op.equal, Op.maxDepth]
  rw [Op.equalIn, Sem.run_bind, run_underlying Tryd.underlying50]
  rfl
end Go.Proofs.YtpbebcefnkbnlabDoor
