/- right, of events: names and values. -/
import Derived.Test.YtooddjfkibbkeaaDoorZHLet
import Derived.Test.YtooddjfkibbkeaaDoorZHMath
namespace Go.Proofs.YtooddjfkibbkeaaDoor
open Go.RowKit

/-- The twelve cells of an event. -/
abbrev evCells (e : Evn) (s : Value) : Array Value := #[.int .i64 e.kind, .string (bsN e.proc), .string (bsN e.obj), .string (bsN e.op), .int .i64 e.val.kind, .int .i64 e.val.int, .int .i64 e.val.im, .string e.val.text, s, .int .i64 e.off, .int .i64 e.line, .int .i64 e.col]
/-- Its names are not too long. -/
structure EvOk (e : Evn) : Prop where
  proc : e.proc.length ≤ 1048576
  obj : e.obj.length ≤ 1048576
  op : e.op.length ≤ 1048576
  val : e.val.ok
theorem bsN_size (l : List UInt8) : (bsN l).size = l.length := by show (⟨l⟩ : Array UInt8).size = _; simp
theorem bsN_list (l : List UInt8) : (bsN l).data.toList = l := rfl
set_option maxRecDepth 100000 in
theorem anyName_k (t : List UInt8) (ht : t.length ≤ 1048576) (w : World) (hT : TabL w) :
    Calls Tryd.prog 67 #[.string (bsN t)] w fun e w' => e = .returned (.bool (anyB t)) ∧ Below w.heap.size w w' := by
  have HN := hide (nameL_k (bsN t) (by rw [bsN_size]; omega) w hT)
  unfold anyB
  rw [bsN_list] at HN
  generalize nameE t = x at *
  go_enter Tryd.func67, Tryd.ntmps67
  go_wp2_with (go_at_call 73; refine HN.out.mono ?_; clear HN; rintro e w1 ⟨rfl, b1⟩)
  go_ret
  exact ⟨rfl, b1⟩
theorem bsN_toList (l : List UInt8) : (bsN l).toList = l := by
  rw [ByteArray.toList_eq]
set_option maxRecDepth 100000 in
theorem plainName_k (t : List UInt8) (ht : t.length ≤ 1048576) (w : World) (hT : TabL w) :
    Calls Tryd.prog 66 #[.string (bsN t)] w fun e w' => e = .returned (.bool (symB (bsN t))) ∧ Below w.heap.size w w' := by
  have HN := hide (anyName_k t ht w hT)
  have hs : symB (bsN t) = (!(t == [116, 114, 117, 101]) && !(t == [102, 97, 108, 115, 101]) && anyB t) := by
    unfold symB anyB
    rw [bsN_toList]
  rw [hs]
  generalize anyB t = x at *
  cases x
  · go_enter Tryd.func66, Tryd.ntmps66
    go_wp2_with (go_at_call 67; refine HN.out.mono ?_; clear HN; rintro e w1 ⟨rfl, b1⟩)
    go_ret
    exact ⟨by simp, b1⟩
  · by_cases h1 : t = [116, 114, 117, 101]
    · subst h1
      go_enter Tryd.func66, Tryd.ntmps66
      go_wp2_with (go_at_call 67; refine HN.out.mono ?_; clear HN; rintro e w1 ⟨rfl, b1⟩)
      go_ret
      exact ⟨rfl, b1⟩
    · go_enter Tryd.func66, Tryd.ntmps66
      go_wp2_with (go_at_call 67; refine HN.out.mono ?_; clear HN; rintro e w1 ⟨rfl, b1⟩)
      go_ret
      exact ⟨by simp, b1⟩
set_option maxRecDepth 100000 in
set_option maxHeartbeats 2000000 in
theorem rightEv_k (e : Evn) (w : World) (n : Nat) (s : Value) (he : EvOk e) (hT : TabL w) (hi : ItemsAt w w.heap.size n s e.val.items) :
    Calls Tryd.prog 52 #[.agg (evCells e s)] w fun r w' => r = .returned (.bool (rightE e)) ∧ Below w.heap.size w w' := by
  obtain ⟨W, hW⟩ : ∃ W, w.alloc (.cells (evCells e s) 46) = W := ⟨_, rfl⟩
  have bW : Below w.heap.size w W := by rw [← hW]; exact alloc_v (Below.refl _ _) _
  have e1 : W.heap[w.heap.size]? = some (.cells (evCells e s) 46 (0, 0)) := by rw [← hW]; exact World.alloc_heap_new w _
  have zW : w.heap.size < W.heap.size := (Array.getElem?_eq_some_iff.1 e1).1
  have c0 := cells_at e1 0 _ rfl
  have c1 := cells_at e1 1 _ rfl
  have HE := hide (fun (U : World) (b : Below W.heap.size W U) => (b.block _ zW).trans e1)
  have HP := hide (fun (t : List UInt8) (ht : t.length ≤ 1048576) (U : World) (b : Below W.heap.size W U) => plainName_k t ht U (hT.below (trans_v bW b)))
  have HA := hide (fun (t : List UInt8) (ht : t.length ≤ 1048576) (U : World) (b : Below W.heap.size W U) => anyName_k t ht U (hT.below (trans_v bW b)))
  have HV := hide (fun (U : World) (b : Below W.heap.size W U) => checkL_k e.val U n s (hT.below (trans_v bW b)) he.val.1 ((hi.below (trans_v bW b)).up (trans_v bW b).size))
  have BB := hide (Below.refl W.heap.size W)
  obtain ⟨a, c, rfl, _⟩ := hi.len
  have h1 := he.proc
  have h2 := he.obj
  have h3 := he.op
  clear hi hT e1 he
  have HP1 := hide (HP.out e.proc h1)
  have HP3 := hide (HP.out e.op h3)
  have HA2 := hide (HA.out e.obj h2)
  by_cases k1 : e.kind = 1
  · have hr : rightE e = (symB (bsN e.proc) && anyB e.obj && symB (bsN e.op) && rightV e.val) := by unfold rightE; rw [if_pos k1]
    have hk : (e.kind == 1) = true := by simp [k1]
    rw [hr]
    clear k1 hr HP HA
    generalize symB (bsN e.proc) = x1 at *
    generalize anyB e.obj = x2 at *
    generalize symB (bsN e.op) = x3 at *
    generalize rightV e.val = x4 at *
    cases x1
    · go_enter Tryd.func52, Tryd.ntmps52
      go_wp2_with (go_at_call 66; refine (HP1.out _ BB.out).mono ?_; clear HP1; rintro e w1 ⟨rfl, b1⟩)
      go_ret
      exact ⟨by simp, trans_v bW b1⟩
    cases x2
    · go_enter Tryd.func52, Tryd.ntmps52
      go_wp2_with (first
        | (go_at_call 66; refine (HP1.out _ BB.out).mono ?_; clear HP1; rintro e w1 ⟨rfl, b1⟩; have f1 := HE.out w1 b1; have d2 := cells_at f1 2 _ rfl)
        | (go_at_call 67; refine (HA2.out _ b1).mono ?_; clear HA2; rintro e w2 ⟨rfl, b2⟩))
      go_ret
      exact ⟨by simp, trans_v bW (trans_v b1 b2)⟩
    cases x3
    · go_enter Tryd.func52, Tryd.ntmps52
      go_wp2_with (first
        | (go_at_call 67; refine (HA2.out _ b1).mono ?_; clear HA2; rintro e w2 ⟨rfl, b2⟩; have b3 := trans_v b1 b2; have f2 := HE.out w2 b3; have d3 := cells_at f2 3 _ rfl)
        | (go_at_call 66; with_reducible refine (HP1.out _ BB.out).mono ?_; clear HP1; rintro e w1 ⟨rfl, b1⟩; have f1 := HE.out w1 b1; have d2 := cells_at f1 2 _ rfl)
        | (go_at_call 66; with_reducible refine (HP3.out _ b3).mono ?_; clear HP3; rintro e w4 ⟨rfl, b4⟩))
      go_ret
      exact ⟨by simp, trans_v bW (trans_v b3 b4)⟩
    · go_enter Tryd.func52, Tryd.ntmps52
      go_wp2_with (first
        | (go_at_call 67; refine (HA2.out _ b1).mono ?_; clear HA2; rintro e w2 ⟨rfl, b2⟩; have b3 := trans_v b1 b2; have f2 := HE.out w2 b3; have d3 := cells_at f2 3 _ rfl)
        | (go_at_call 66; with_reducible refine (HP1.out _ BB.out).mono ?_; clear HP1; rintro e w1 ⟨rfl, b1⟩; have f1 := HE.out w1 b1; have d2 := cells_at f1 2 _ rfl)
        | (go_at_call 66; with_reducible refine (HP3.out _ b3).mono ?_; clear HP3; rintro e w4 ⟨rfl, b4⟩; have b5 := trans_v b3 b4; have f4 := HE.out w4 b5; have g4 := cells_at f4 4 _ rfl; have g5 := cells_at f4 5 _ rfl; have g6 := cells_at f4 6 _ rfl; have g7 := cells_at f4 7 _ rfl; have g8 := cells_at f4 8 _ rfl)
        | (go_at_call 68; refine (HV.out _ b5).mono ?_; clear HV; rintro e w6 ⟨rfl, b6⟩))
      go_ret
      exact ⟨by cases x4 <;> simp, trans_v bW (trans_v b5 b6)⟩
  by_cases k2 : e.kind = 2
  · have hr : rightE e = (symB (bsN e.proc) && e.obj.isEmpty && e.op.isEmpty && rightV e.val) := by unfold rightE; rw [if_neg k1, if_pos k2]
    have hk : (e.kind == 1) = false := by simp [k1]
    have hk2 : (e.kind == 2) = true := by simp [k2]
    rw [hr]
    clear k1 k2 hr HP HA HA2 HP3
    generalize symB (bsN e.proc) = x1 at *
    generalize rightV e.val = x4 at *
    cases x1
    · go_enter Tryd.func52, Tryd.ntmps52
      go_wp2_with (go_at_call 66; refine (HP1.out _ BB.out).mono ?_; clear HP1; rintro e w1 ⟨rfl, b1⟩)
      go_ret
      exact ⟨by simp, trans_v bW b1⟩
    by_cases y2 : e.obj = []
    rotate_left
    · have y3 : (e.obj == []) = false := by simp [y2]
      go_enter Tryd.func52, Tryd.ntmps52
      go_wp2_with (go_at_call 66; refine (HP1.out _ BB.out).mono ?_; clear HP1; rintro e w1 ⟨rfl, b1⟩; have f1 := HE.out w1 b1; have d2 := cells_at f1 2 _ rfl)
      go_ret
      exact ⟨by cases h : e.obj <;> simp_all, trans_v bW b1⟩
    have y3 : (e.obj == []) = true := by simp [y2]
    have y4 : e.obj.isEmpty = true := by simp [y2]
    by_cases z2 : e.op = []
    rotate_left
    · have z3 : (e.op == []) = false := by simp [z2]
      have Y2 := hide y2
      clear y2
      go_enter Tryd.func52, Tryd.ntmps52
      go_wp2_with (go_at_call 66; refine (HP1.out _ BB.out).mono ?_; clear HP1; rintro e w1 ⟨rfl, b1⟩; have f1 := HE.out w1 b1; have d2 := cells_at f1 2 _ rfl; have d3 := cells_at f1 3 _ rfl)
      go_ret
      exact ⟨by cases h : e.op <;> simp_all, trans_v bW b1⟩
    have z3 : (e.op == []) = true := by simp [z2]
    have z4 : e.op.isEmpty = true := by simp [z2]
    have Y2 := hide (And.intro y2 z2)
    clear y2 z2
    rw [y4, z4]
    clear y4 z4
    go_enter Tryd.func52, Tryd.ntmps52
    go_wp2_with (first
      | (go_at_call 66; refine (HP1.out _ BB.out).mono ?_; clear HP1; rintro e w1 ⟨rfl, b1⟩; have f1 := HE.out w1 b1; have d2 := cells_at f1 2 _ rfl; have d3 := cells_at f1 3 _ rfl; have g4 := cells_at f1 4 _ rfl; have g5 := cells_at f1 5 _ rfl; have g6 := cells_at f1 6 _ rfl; have g7 := cells_at f1 7 _ rfl; have g8 := cells_at f1 8 _ rfl)
      | (go_at_call 68; refine (HV.out _ b1).mono ?_; clear HV; rintro e w6 ⟨rfl, b6⟩))
    go_ret
    exact ⟨by cases x4 <;> simp, trans_v bW (trans_v b1 b6)⟩
  · have hr : rightE e = false := by unfold rightE; rw [if_neg k1, if_neg k2]
    have hk : (e.kind == 1) = false := by simp [k1]
    have hk2 : (e.kind == 2) = false := by simp [k2]
    rw [hr]
    clear k1 k2 hr
    go_enter Tryd.func52, Tryd.ntmps52
    go_wp2
    go_ret
    exact ⟨rfl, bW⟩
end Go.Proofs.YtooddjfkibbkeaaDoor
