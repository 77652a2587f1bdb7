/- Compare of the program and of the document. -/
import Derived.Test.YtnmkggoampkekaaGreatDoorGRefR
import Derived.Test.YtnmkggoampkekaaGreatDoorGHRfA
import Derived.Test.YtnmkggoampkekaaGreatDoorGHBase
namespace Go.Proofs.YtnmkggoampkekaaGreatDoor
open Go.RowKit

def cmpV (a b : Vl) : Int := if rightV a then (if rightV b then ordV a b else -1) else (if rightV b then 1 else 0)
set_option maxRecDepth 100000 in
theorem refRight_k (v : Vl) (w : World) (n : Nat) (sl : Value) (htx : v.text.size ≤ 1048576) (hs : ItemsAt w w.heap.size n sl v.items) :
    Calls Tryz.prog 63 #[.agg (vcells v sl)] w fun e w' => e = .returned (.bool (rightV v)) ∧ Below w.heap.size w w' := by
  obtain ⟨W, hW⟩ : ∃ W, w.alloc (.cells (vcells v sl) 57) = W := ⟨_, rfl⟩
  have bW : Below w.heap.size w W := by rw [← hW]; exact alloc_v (Below.refl _ _) _
  have e1 : W.heap[w.heap.size]? = some (.cells (vcells v sl) 57 (0, 0)) := by rw [← hW]; exact World.alloc_heap_new w _
  have zW : w.heap.size < W.heap.size := (Array.getElem?_eq_some_iff.1 e1).1
  have x0 := cells_at e1 0 _ rfl
  have x1 := cells_at e1 1 _ rfl
  have x2 := cells_at e1 2 _ rfl
  have x3 := cells_at e1 3 _ rfl
  have x4 := cells_at e1 4 _ rfl
  have HE := hide (right_doc v)
  have HC := hide (count_k 16 v W w.heap.size n 0 sl (Nat.le_refl _) (by omega) bW.size (hs.below bW))
  have HF := hide (fun (U : World) (b : Below W.heap.size W U) => form_k n v U w.heap.size sl htx (trans_v bW b).size (hs.below (trans_v bW b)))
  obtain ⟨a, c, rfl, _⟩ := hs.len
  clear hs e1
  generalize cnt 16 v 0 = u at *
  generalize formV v = f at *
  by_cases hu : u ≤ 4096
  · have hu' : (u : Int) ≤ 4096 := by omega
    rw [← HE.out, decide_eq_true hu, Bool.true_and]
    go_enter Tryz.func63, Tryz.ntmps63
    go_wp2_with (first
      | (go_at_call 52; refine HC.out.mono ?_; clear HC; rintro e w2 ⟨rfl, b2⟩; have hc := (bcellV b2).1)
      | (go_at_call 73; refine (HF.out _ b2).mono ?_; clear HF; rintro e w3 ⟨rfl, b3⟩))
    go_ret
    exact ⟨rfl, trans_v (trans_v bW b2) b3⟩
  · have hu' : ¬ (u : Int) ≤ 4096 := by omega
    rw [← HE.out, decide_eq_false hu, Bool.false_and]
    go_enter Tryz.func63, Tryz.ntmps63
    go_wp2_with (go_at_call 52; refine HC.out.mono ?_; clear HC; rintro e w2 ⟨rfl, b2⟩; have hc := (bcellV b2).1)
    go_ret
    exact ⟨rfl, trans_v bW b2⟩
end Go.Proofs.YtnmkggoampkekaaGreatDoor

/- The reference's right of an event. -/
namespace Go.Proofs.YtnmkggoampkekaaGreatDoor
open Go.RowKit Go.Maps

theorem refNameB_k (t : List UInt8) (ht : t.length ≤ 1048576) (w : World) : Calls Tryz.prog 62 #[.string (bsN t)] w fun e w' => e = .returned (.bool (anyB t)) ∧ Below w.heap.size w w' := by
  have h := refName_k (bsN t) (by show t.length ≤ 1048576; exact ht) w
  rw [← (name_doc (bsN t).data.toList).1] at h
  exact h
theorem symB_eq (t : List UInt8) : symB (bsN t) = (!(t == [116, 114, 117, 101]) && !(t == [102, 97, 108, 115, 101]) && anyB t) := by
  unfold symB anyB
  rw [bsN_toList]
set_option maxRecDepth 100000 in
set_option maxHeartbeats 4000000 in
theorem refRightE_k (e : Evn) (w : World) (n : Nat) (s : Value) (he : EvOk e) (hi : ItemsAt w w.heap.size n s e.val.items) :
    Calls Tryz.prog 54 #[.agg (evCells e s)] w fun r w' => r = .returned (.bool (rightE e)) ∧ Below w.heap.size w w' := by
  obtain ⟨W, hW⟩ : ∃ W, w.alloc (.cells (evCells e s) 61) = W := ⟨_, rfl⟩
  have bW : Below w.heap.size w W := by rw [← hW]; exact alloc_v (Below.refl _ _) _
  have e1 : W.heap[w.heap.size]? = some (.cells (evCells e s) 61 (0, 0)) := by rw [← hW]; exact World.alloc_heap_new w _
  have zW : w.heap.size < W.heap.size := (Array.getElem?_eq_some_iff.1 e1).1
  have c1 := cells_at e1 1 _ rfl
  have HE := hide (fun (U : World) (b : Below W.heap.size W U) => (b.block _ zW).trans e1)
  have HN1 := hide (fun (U : World) (_ : Below W.heap.size W U) => refNameB_k e.proc he.proc U)
  have HN2 := hide (fun (U : World) (_ : Below W.heap.size W U) => refNameB_k e.obj he.obj U)
  have HN3 := hide (fun (U : World) (_ : Below W.heap.size W U) => refNameB_k e.op he.op U)
  have HV := hide (fun (U : World) (b : Below W.heap.size W U) => refRight_k e.val U n s he.val.1 ((hi.below (trans_v bW b)).up (trans_v bW b).size))
  obtain ⟨a, c, rfl, _⟩ := hi.len
  have HRE : Hid (rightE e = if e.kind = 1 then ((!(e.proc == [116, 114, 117, 101]) && !(e.proc == [102, 97, 108, 115, 101]) && anyB e.proc) && anyB e.obj && (!(e.op == [116, 114, 117, 101]) && !(e.op == [102, 97, 108, 115, 101]) && anyB e.op) && rightV e.val) else if e.kind = 2 then ((!(e.proc == [116, 114, 117, 101]) && !(e.proc == [102, 97, 108, 115, 101]) && anyB e.proc) && e.obj.isEmpty && e.op.isEmpty && rightV e.val) else false) := hide (by unfold rightE; rw [symB_eq, symB_eq])
  clear hi e1 he
  generalize anyB e.proc = x1 at *
  generalize anyB e.obj = x2 at *
  generalize anyB e.op = x3 at *
  generalize rightV e.val = x4 at *
  cases x1
  · skip
    go_enter Tryz.func54, Tryz.ntmps54
    go_wp2_with (first
      | (go_at_call 62; with_reducible refine (HN1.out _ (Below.refl _ _)).mono ?_; clear HN1; rintro r w1 ⟨rfl, b1⟩; have f1 := HE.out w1 b1; have d1 := cells_at f1 1 _ rfl; have d4 := cells_at f1 4 _ rfl; have d5 := cells_at f1 5 _ rfl; have d6 := cells_at f1 6 _ rfl; have d7 := cells_at f1 7 _ rfl; have d8 := cells_at f1 8 _ rfl))
    go_ret
    exact ⟨by rw [HRE.out]; simp, trans_v bW b1⟩
  by_cases t1 : e.proc = [116, 114, 117, 101]
  · have t1b : (e.proc == [116, 114, 117, 101]) = true := by simpa using t1
    clear t1
    go_enter Tryz.func54, Tryz.ntmps54
    go_wp2_with (first
      | (go_at_call 62; with_reducible refine (HN1.out _ (Below.refl _ _)).mono ?_; clear HN1; rintro r w1 ⟨rfl, b1⟩; have f1 := HE.out w1 b1; have d1 := cells_at f1 1 _ rfl; have d4 := cells_at f1 4 _ rfl; have d5 := cells_at f1 5 _ rfl; have d6 := cells_at f1 6 _ rfl; have d7 := cells_at f1 7 _ rfl; have d8 := cells_at f1 8 _ rfl))
    go_ret
    exact ⟨by rw [HRE.out]; simp [t1b], trans_v bW b1⟩
  have t1b : (e.proc == [116, 114, 117, 101]) = false := by simpa using t1
  by_cases t2 : e.proc = [102, 97, 108, 115, 101]
  · have t2b : (e.proc == [102, 97, 108, 115, 101]) = true := by simpa using t2
    clear t2
    go_enter Tryz.func54, Tryz.ntmps54
    go_wp2_with (first
      | (go_at_call 62; with_reducible refine (HN1.out _ (Below.refl _ _)).mono ?_; clear HN1; rintro r w1 ⟨rfl, b1⟩; have f1 := HE.out w1 b1; have d1 := cells_at f1 1 _ rfl; have d4 := cells_at f1 4 _ rfl; have d5 := cells_at f1 5 _ rfl; have d6 := cells_at f1 6 _ rfl; have d7 := cells_at f1 7 _ rfl; have d8 := cells_at f1 8 _ rfl))
    go_ret
    exact ⟨by rw [HRE.out]; simp [t2b], trans_v bW b1⟩
  have t2b : (e.proc == [102, 97, 108, 115, 101]) = false := by simpa using t2
  cases x4
  · skip
    go_enter Tryz.func54, Tryz.ntmps54
    go_wp2_with (first
      | (go_at_call 62; with_reducible refine (HN1.out _ (Below.refl _ _)).mono ?_; clear HN1; rintro r w1 ⟨rfl, b1⟩; have f1 := HE.out w1 b1; have d1 := cells_at f1 1 _ rfl; have d4 := cells_at f1 4 _ rfl; have d5 := cells_at f1 5 _ rfl; have d6 := cells_at f1 6 _ rfl; have d7 := cells_at f1 7 _ rfl; have d8 := cells_at f1 8 _ rfl)
      | (go_at_call 63; refine (HV.out _ b1).mono ?_; clear HV; rintro r w2 ⟨rfl, b2⟩; have b3 := trans_v b1 b2; have f2 := HE.out w2 b3; have g0 := cells_at f2 0 _ rfl; have g2 := cells_at f2 2 _ rfl; have g3 := cells_at f2 3 _ rfl))
    go_ret
    exact ⟨by rw [HRE.out]; simp, trans_v bW b3⟩
  by_cases k2 : e.kind = 2
  · have k1n : ¬ (e.kind = 1) := by omega
    have hk2 : (e.kind == 2) = true := by simp [k2]
    have HR2 : Hid (rightE e = (e.obj.isEmpty && e.op.isEmpty)) := hide (by rw [HRE.out, if_neg k1n, if_pos k2, t1b, t2b]; simp)
    clear HRE k2 k1n
    have HRE := HR2
    clear HR2
    by_cases y2 : e.obj = []
    rotate_left
    · have y3 : (e.obj == []) = false := by simp [y2]
      have y4 : e.obj.isEmpty = false := by simpa using y2
      go_enter Tryz.func54, Tryz.ntmps54
      go_wp2_with (first
        | (go_at_call 62; with_reducible refine (HN1.out _ (Below.refl _ _)).mono ?_; clear HN1; rintro r w1 ⟨rfl, b1⟩; have f1 := HE.out w1 b1; have d1 := cells_at f1 1 _ rfl; have d4 := cells_at f1 4 _ rfl; have d5 := cells_at f1 5 _ rfl; have d6 := cells_at f1 6 _ rfl; have d7 := cells_at f1 7 _ rfl; have d8 := cells_at f1 8 _ rfl)
        | (go_at_call 63; refine (HV.out _ b1).mono ?_; clear HV; rintro r w2 ⟨rfl, b2⟩; have b3 := trans_v b1 b2; have f2 := HE.out w2 b3; have g0 := cells_at f2 0 _ rfl; have g2 := cells_at f2 2 _ rfl; have g3 := cells_at f2 3 _ rfl))
      go_ret
      exact ⟨by rw [HRE.out]; rw [y4]; rfl, trans_v bW b3⟩
    have y3 : (e.obj == []) = true := by simp [y2]
    have y4 : e.obj.isEmpty = true := by simp [y2]
    have Y2 := hide y2
    clear y2
    by_cases z2 : e.op = []
    · have z3 : (e.op == []) = true := by simp [z2]
      have z4 : e.op.isEmpty = true := by simp [z2]
      have Z2 := hide z2
      clear z2
      go_enter Tryz.func54, Tryz.ntmps54
      go_wp2_with (first
        | (go_at_call 62; with_reducible refine (HN1.out _ (Below.refl _ _)).mono ?_; clear HN1; rintro r w1 ⟨rfl, b1⟩; have f1 := HE.out w1 b1; have d1 := cells_at f1 1 _ rfl; have d4 := cells_at f1 4 _ rfl; have d5 := cells_at f1 5 _ rfl; have d6 := cells_at f1 6 _ rfl; have d7 := cells_at f1 7 _ rfl; have d8 := cells_at f1 8 _ rfl)
        | (go_at_call 63; refine (HV.out _ b1).mono ?_; clear HV; rintro r w2 ⟨rfl, b2⟩; have b3 := trans_v b1 b2; have f2 := HE.out w2 b3; have g0 := cells_at f2 0 _ rfl; have g2 := cells_at f2 2 _ rfl; have g3 := cells_at f2 3 _ rfl))
      go_ret
      exact ⟨by rw [HRE.out]; rw [y4, z4]; rfl, trans_v bW b3⟩
    · have z3 : (e.op == []) = false := by simp [z2]
      have z4 : e.op.isEmpty = false := by simpa using z2
      go_enter Tryz.func54, Tryz.ntmps54
      go_wp2_with (first
        | (go_at_call 62; with_reducible refine (HN1.out _ (Below.refl _ _)).mono ?_; clear HN1; rintro r w1 ⟨rfl, b1⟩; have f1 := HE.out w1 b1; have d1 := cells_at f1 1 _ rfl; have d4 := cells_at f1 4 _ rfl; have d5 := cells_at f1 5 _ rfl; have d6 := cells_at f1 6 _ rfl; have d7 := cells_at f1 7 _ rfl; have d8 := cells_at f1 8 _ rfl)
        | (go_at_call 63; refine (HV.out _ b1).mono ?_; clear HV; rintro r w2 ⟨rfl, b2⟩; have b3 := trans_v b1 b2; have f2 := HE.out w2 b3; have g0 := cells_at f2 0 _ rfl; have g2 := cells_at f2 2 _ rfl; have g3 := cells_at f2 3 _ rfl))
      go_ret
      exact ⟨by rw [HRE.out]; rw [y4, z4]; rfl, trans_v bW b3⟩
  have hk2 : (e.kind == 2) = false := by simpa using k2
  by_cases k1 : e.kind = 1
  rotate_left
  · have hk1 : (e.kind == 1) = false := by simpa using k1
    have HR2 : Hid (rightE e = false) := hide (by rw [HRE.out, if_neg k1, if_neg k2])
    clear HRE
    have HRE := HR2
    clear HR2
    go_enter Tryz.func54, Tryz.ntmps54
    go_wp2_with (first
      | (go_at_call 62; with_reducible refine (HN1.out _ (Below.refl _ _)).mono ?_; clear HN1; rintro r w1 ⟨rfl, b1⟩; have f1 := HE.out w1 b1; have d1 := cells_at f1 1 _ rfl; have d4 := cells_at f1 4 _ rfl; have d5 := cells_at f1 5 _ rfl; have d6 := cells_at f1 6 _ rfl; have d7 := cells_at f1 7 _ rfl; have d8 := cells_at f1 8 _ rfl)
      | (go_at_call 63; refine (HV.out _ b1).mono ?_; clear HV; rintro r w2 ⟨rfl, b2⟩; have b3 := trans_v b1 b2; have f2 := HE.out w2 b3; have g0 := cells_at f2 0 _ rfl; have g2 := cells_at f2 2 _ rfl; have g3 := cells_at f2 3 _ rfl))
    go_ret
    exact ⟨by rw [HRE.out]; rfl, trans_v bW b3⟩
  have hk1 : (e.kind == 1) = true := by simp [k1]
  have HR2 : Hid (rightE e = (x2 && (!(e.op == [116, 114, 117, 101]) && !(e.op == [102, 97, 108, 115, 101]) && x3))) := hide (by rw [HRE.out, if_pos k1, t1b, t2b]; simp)
  clear HRE k1 k2
  have HRE := HR2
  clear HR2
  cases x2
  · skip
    go_enter Tryz.func54, Tryz.ntmps54
    go_wp2_with (first
      | (go_at_call 62; with_reducible refine (HN1.out _ (Below.refl _ _)).mono ?_; clear HN1; rintro r w1 ⟨rfl, b1⟩; have f1 := HE.out w1 b1; have d1 := cells_at f1 1 _ rfl; have d4 := cells_at f1 4 _ rfl; have d5 := cells_at f1 5 _ rfl; have d6 := cells_at f1 6 _ rfl; have d7 := cells_at f1 7 _ rfl; have d8 := cells_at f1 8 _ rfl)
      | (go_at_call 63; refine (HV.out _ b1).mono ?_; clear HV; rintro r w2 ⟨rfl, b2⟩; have b3 := trans_v b1 b2; have f2 := HE.out w2 b3; have g0 := cells_at f2 0 _ rfl; have g2 := cells_at f2 2 _ rfl; have g3 := cells_at f2 3 _ rfl)
      | (go_at_call 62; with_reducible refine (HN2.out _ b3).mono ?_; clear HN2; rintro r w4 ⟨rfl, b4⟩; have b5 := trans_v b3 b4; have f4 := HE.out w4 b5; have h3 := cells_at f4 3 _ rfl))
    go_ret
    exact ⟨by rw [HRE.out]; rfl, trans_v bW b5⟩
  cases x3
  · skip
    go_enter Tryz.func54, Tryz.ntmps54
    go_wp2_with (first
      | (go_at_call 62; with_reducible refine (HN1.out _ (Below.refl _ _)).mono ?_; clear HN1; rintro r w1 ⟨rfl, b1⟩; have f1 := HE.out w1 b1; have d1 := cells_at f1 1 _ rfl; have d4 := cells_at f1 4 _ rfl; have d5 := cells_at f1 5 _ rfl; have d6 := cells_at f1 6 _ rfl; have d7 := cells_at f1 7 _ rfl; have d8 := cells_at f1 8 _ rfl)
      | (go_at_call 63; refine (HV.out _ b1).mono ?_; clear HV; rintro r w2 ⟨rfl, b2⟩; have b3 := trans_v b1 b2; have f2 := HE.out w2 b3; have g0 := cells_at f2 0 _ rfl; have g2 := cells_at f2 2 _ rfl; have g3 := cells_at f2 3 _ rfl)
      | (go_at_call 62; with_reducible refine (HN2.out _ b3).mono ?_; clear HN2; rintro r w4 ⟨rfl, b4⟩; have b5 := trans_v b3 b4; have f4 := HE.out w4 b5; have h3 := cells_at f4 3 _ rfl)
      | (go_at_call 62; with_reducible refine (HN3.out _ b5).mono ?_; clear HN3; rintro r w6 ⟨rfl, b6⟩; have b7 := trans_v b5 b6; have f6 := HE.out w6 b7; have q3 := cells_at f6 3 _ rfl))
    go_ret
    exact ⟨by rw [HRE.out]; simp, trans_v bW b7⟩
  by_cases s1 : e.op = [116, 114, 117, 101]
  · have s1b : (e.op == [116, 114, 117, 101]) = true := by simpa using s1
    clear s1
    go_enter Tryz.func54, Tryz.ntmps54
    go_wp2_with (first
      | (go_at_call 62; with_reducible refine (HN1.out _ (Below.refl _ _)).mono ?_; clear HN1; rintro r w1 ⟨rfl, b1⟩; have f1 := HE.out w1 b1; have d1 := cells_at f1 1 _ rfl; have d4 := cells_at f1 4 _ rfl; have d5 := cells_at f1 5 _ rfl; have d6 := cells_at f1 6 _ rfl; have d7 := cells_at f1 7 _ rfl; have d8 := cells_at f1 8 _ rfl)
      | (go_at_call 63; refine (HV.out _ b1).mono ?_; clear HV; rintro r w2 ⟨rfl, b2⟩; have b3 := trans_v b1 b2; have f2 := HE.out w2 b3; have g0 := cells_at f2 0 _ rfl; have g2 := cells_at f2 2 _ rfl; have g3 := cells_at f2 3 _ rfl)
      | (go_at_call 62; with_reducible refine (HN2.out _ b3).mono ?_; clear HN2; rintro r w4 ⟨rfl, b4⟩; have b5 := trans_v b3 b4; have f4 := HE.out w4 b5; have h3 := cells_at f4 3 _ rfl)
      | (go_at_call 62; with_reducible refine (HN3.out _ b5).mono ?_; clear HN3; rintro r w6 ⟨rfl, b6⟩; have b7 := trans_v b5 b6; have f6 := HE.out w6 b7; have q3 := cells_at f6 3 _ rfl))
    go_ret
    exact ⟨by rw [HRE.out]; simp [s1b], trans_v bW b7⟩
  have s1b : (e.op == [116, 114, 117, 101]) = false := by simpa using s1
  by_cases s2 : e.op = [102, 97, 108, 115, 101]
  · have s2b : (e.op == [102, 97, 108, 115, 101]) = true := by simpa using s2
    clear s2
    go_enter Tryz.func54, Tryz.ntmps54
    go_wp2_with (first
      | (go_at_call 62; with_reducible refine (HN1.out _ (Below.refl _ _)).mono ?_; clear HN1; rintro r w1 ⟨rfl, b1⟩; have f1 := HE.out w1 b1; have d1 := cells_at f1 1 _ rfl; have d4 := cells_at f1 4 _ rfl; have d5 := cells_at f1 5 _ rfl; have d6 := cells_at f1 6 _ rfl; have d7 := cells_at f1 7 _ rfl; have d8 := cells_at f1 8 _ rfl)
      | (go_at_call 63; refine (HV.out _ b1).mono ?_; clear HV; rintro r w2 ⟨rfl, b2⟩; have b3 := trans_v b1 b2; have f2 := HE.out w2 b3; have g0 := cells_at f2 0 _ rfl; have g2 := cells_at f2 2 _ rfl; have g3 := cells_at f2 3 _ rfl)
      | (go_at_call 62; with_reducible refine (HN2.out _ b3).mono ?_; clear HN2; rintro r w4 ⟨rfl, b4⟩; have b5 := trans_v b3 b4; have f4 := HE.out w4 b5; have h3 := cells_at f4 3 _ rfl)
      | (go_at_call 62; with_reducible refine (HN3.out _ b5).mono ?_; clear HN3; rintro r w6 ⟨rfl, b6⟩; have b7 := trans_v b5 b6; have f6 := HE.out w6 b7; have q3 := cells_at f6 3 _ rfl))
    go_ret
    exact ⟨by rw [HRE.out]; simp [s2b], trans_v bW b7⟩
  · have s2b : (e.op == [102, 97, 108, 115, 101]) = false := by simpa using s2
    go_enter Tryz.func54, Tryz.ntmps54
    go_wp2_with (first
      | (go_at_call 62; with_reducible refine (HN1.out _ (Below.refl _ _)).mono ?_; clear HN1; rintro r w1 ⟨rfl, b1⟩; have f1 := HE.out w1 b1; have d1 := cells_at f1 1 _ rfl; have d4 := cells_at f1 4 _ rfl; have d5 := cells_at f1 5 _ rfl; have d6 := cells_at f1 6 _ rfl; have d7 := cells_at f1 7 _ rfl; have d8 := cells_at f1 8 _ rfl)
      | (go_at_call 63; refine (HV.out _ b1).mono ?_; clear HV; rintro r w2 ⟨rfl, b2⟩; have b3 := trans_v b1 b2; have f2 := HE.out w2 b3; have g0 := cells_at f2 0 _ rfl; have g2 := cells_at f2 2 _ rfl; have g3 := cells_at f2 3 _ rfl)
      | (go_at_call 62; with_reducible refine (HN2.out _ b3).mono ?_; clear HN2; rintro r w4 ⟨rfl, b4⟩; have b5 := trans_v b3 b4; have f4 := HE.out w4 b5; have h3 := cells_at f4 3 _ rfl)
      | (go_at_call 62; with_reducible refine (HN3.out _ b5).mono ?_; clear HN3; rintro r w6 ⟨rfl, b6⟩; have b7 := trans_v b5 b6; have f6 := HE.out w6 b7; have q3 := cells_at f6 3 _ rfl))
    go_ret
    exact ⟨by rw [HRE.out]; simp [s1b, s2b], trans_v bW b7⟩
end Go.Proofs.YtnmkggoampkekaaGreatDoor
