/- What Subsets goes through: every row of the items that it was handed. -/
import Derived.Test.YtfagjejknnkhdaaDoorBSub
import Derived.Test.YtfagjejknnkhdaaDoorBRange
namespace Go.Proofs.YtfagjejknnkhdaaDoor
open Go.RowKit
attribute [local go_sem] Oper.semAt_some

/-- A row that is handed out: new memory, of nobody else's. -/
def rowV (lo : Nat) (x : List Int) (S : Blocks) (vs : Array Value) (W : World) : Prop :=
  ∃ g, vs = #[.slice (some ⟨g, 0, none⟩) x.length x.length] ∧ W.ownsRow 0 3 1 (.slice (some ⟨g, 0, none⟩) x.length x.length) x.length (ints x) ∧ lo ≤ g ∧ ¬ S g
def two (a b : Nat) : Blocks := fun k => k = a ∨ k = b

theorem subsNil (x : Array Value) (w : World) : (binOp BinOp.eql 53 (.func (.func 41) #[] x) .nilFunc).run Tryd.prog w = .ok (.bool false) w := by
  simp only [binOp, Sem.run_bind, Op.equal, Op.maxDepth]
  rw [Op.equalIn, Sem.run_bind, run_underlying Tryd.underlying53]
  rfl

set_option maxRecDepth 100000 in
theorem subsMake_k {w : World} {g cap : Nat} {its : List Int} (hi : w.ownsRow 0 3 1 (.slice (some ⟨g, 0, none⟩) its.length cap) its.length (ints its)) (hl : its.length ≤ 10) :
    Calls Tryd.prog 16 #[.slice (some ⟨g, 0, none⟩) its.length cap] w fun e w' => e = .returned (.func (.func 41) #[] #[.pointer (some ⟨w.heap.size, 0, none⟩)]) ∧
      ∃ gi ci, Boxed w' w.heap.size 55 (.slice (some ⟨gi, 0, none⟩) its.length ci) ∧ w'.ownsRow w.heap.size 3 1 (.slice (some ⟨gi, 0, none⟩) its.length ci) its.length (ints its) ∧ Below w.heap.size w w' := by
  have HI := hide (cloneI_k (hi.alloc (.cells #[.slice none 0 0] 55)) (ints_one its) (by omega))
  clear hi
  go_enter Tryd.func16, Tryd.ntmps16
  go_wp2_with (go_at_call 40; refine HI.out.mono ?_; rintro e w1 ⟨g', cap', rfl, A1, A2⟩; have B1 := hide A1; have B2 := hide A2; clear A1 A2; have hbx : Boxed w1 w.heap.size 55 (.slice none 0 0) := (B2.out.block w.heap.size (by simp)).trans (World.alloc_heap_new w _); have hc := hbx.cell; have hf := hbx.frozen)
  go_ret
  have hg' := B1.out.lt g' rfl
  rw [World.size_alloc] at hg'
  refine ⟨rfl, g', cap', hbx.set _, ?_, ?_⟩
  · exact row_from (ownsRow_setCell_other B1.out (by simp [Value.ownBlock]; omega) _) (by simp)
  · exact (((Below.refl _ _).alloc (Nat.le_refl _) _).trans (B2.out.mono (by simp))).setCell (Nat.le_refl _) _
set_option maxRecDepth 100000 in
theorem subsMake_big {w : World} {g cap n : Nat} (hl : 10 < n) :
    Calls Tryd.prog 16 #[.slice (some ⟨g, 0, none⟩) n cap] w fun e w' => e = .returned (.func (.func 41) #[] #[.pointer (some ⟨w.heap.size, 0, none⟩)]) ∧
      w.alloc (.cells #[.slice none 0 0] 55) = w' := by
  go_enter Tryd.func16, Tryd.ntmps16
  go_wp2
  go_ret
  exact ⟨rfl, rfl⟩
end Go.Proofs.YtfagjejknnkhdaaDoor
