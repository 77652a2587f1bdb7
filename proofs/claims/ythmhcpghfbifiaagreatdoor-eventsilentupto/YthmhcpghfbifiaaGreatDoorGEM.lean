/- Right, in the document's words. -/
import Derived.Test.YthmhcpghfbifiaaGreatDoorGVFO
import Derived.Test.YthmhcpghfbifiaaGreatDoorGRefText
namespace Go.Proofs.YthmhcpghfbifiaaGreatDoor
open Go.RowKit

theorem cntL_take {f : Vl → Nat → Nat} {l : List Vl} {k s0 s : Nat} (hk : k < l.length) (h : cntL f (l.take k) s0 = s) (hs : s ≤ 4096) :
    (f l[k] s ≤ 4096 → cntL f (l.take (k + 1)) s0 = f l[k] s) ∧ (4096 < f l[k] s → cntL f l s0 = f l[k] s) := by
  induction k generalizing l s0 with
  | zero =>
    cases l with
    | nil => simp at hk
    | cons v l =>
      simp only [List.take_zero, cntL] at h
      subst h
      refine ⟨fun e => ?_, fun e => ?_⟩
      · simp only [List.take_succ_cons, List.take_zero, cntL, List.getElem_cons_zero] at e ⊢
        rw [if_neg (by omega)]
      · simp only [cntL, List.getElem_cons_zero] at e ⊢
        rw [if_pos e]
  | succ k ih =>
    cases l with
    | nil => simp at hk
    | cons v l =>
      simp only [List.take_succ_cons, cntL] at h ⊢
      split at h
      · omega
      · rename_i e
        have := ih (l := l) (by simpa using hk) h
        rw [if_neg e, if_neg e]
        simpa using this
theorem cnt_top (n : Nat) : ∀ (v : Vl) (s : Nat), cnt n v s ≤ 4097 := by
  induction n with
  | zero => intro v s; exact Nat.le_refl _
  | succ n ih =>
    intro v s
    have hl : ∀ (l : List Vl) (s : Nat), s ≤ 4097 → cntL (cnt n) l s ≤ 4097 := by
      intro l
      induction l with
      | nil => intro s hs; exact hs
      | cons x l il =>
        intro s _
        rw [cntL]
        split
        · exact ih x s
        · exact il _ (ih x s)
    rw [cnt]
    split
    · exact Nat.le_refl _
    · exact hl _ _ (by omega)
end Go.Proofs.YthmhcpghfbifiaaGreatDoor

/- form, in the document's words. -/
namespace Go.Proofs.YthmhcpghfbifiaaGreatDoor
open Go.RowKit

theorem form_num (v : Vl) (h : v.kind = 1) : formV v = (((v.im == 0 && v.text.toList == []) && ((v.items.length : Nat) : Int) == 0) && (v.int == 0 || v.int == 1)) := by
  obtain ⟨k, i, m, t, l⟩ := v
  simp only at h
  subst h
  rw [formV_eq]
  cases l with
  | nil => simp [usedB, goodB, riseB]
  | cons x l =>
    have e : (((l.length : Int) + 1) == 0) = false := by simp; omega
    simp [usedB, e]
theorem form_int (v : Vl) (h : v.kind = 2) : formV v = ((v.im == 0 && v.text.toList == []) && ((v.items.length : Nat) : Int) == 0) := by
  obtain ⟨k, i, m, t, l⟩ := v
  simp only at h
  subst h
  rw [formV_eq]
  cases l with
  | nil => simp [usedB, goodB, riseB]
  | cons x l =>
    have e : (((l.length : Int) + 1) == 0) = false := by simp; omega
    simp [usedB, e]
theorem form_gauss (v : Vl) (h : v.kind = 3) : formV v = ((((v.text.toList == []) && ((v.items.length : Nat) : Int) == 0) && (decide (-1048576 ≤ v.int) && decide (v.int ≤ 1048576))) && (decide (-1048576 ≤ v.im) && decide (v.im ≤ 1048576))) := by
  obtain ⟨k, i, m, t, l⟩ := v
  simp only at h
  subst h
  rw [formV_eq]
  cases l with
  | nil => simp [usedB, goodB, riseB, Bool.and_assoc]
  | cons x l =>
    have e : (((l.length : Int) + 1) == 0) = false := by simp; omega
    simp [usedB, e]
theorem form_sym (v : Vl) (h : v.kind = 4) : formV v = (((v.int == 0 && v.im == 0) && ((v.items.length : Nat) : Int) == 0) && symB v.text) := by
  obtain ⟨k, i, m, t, l⟩ := v
  simp only at h
  subst h
  rw [formV_eq]
  cases l with
  | nil => simp [usedB, goodB, riseB]
  | cons x l =>
    have e : (((l.length : Int) + 1) == 0) = false := by simp; omega
    simp [usedB, e]
theorem form_items (v : Vl) (h : v.kind = 5 ∨ v.kind = 6 ∨ v.kind = 7) : formV v = (((v.int == 0 && v.im == 0) && v.text.toList == []) && (v.items.all formV && (v.kind != 7 || riseB v.items))) := by
  obtain ⟨k, i, m, t, l⟩ := v
  simp only at h
  rw [formV_eq]
  rcases h with rfl | rfl | rfl <;> simp [usedB, goodB]
theorem form_none (v : Vl) (h : v.kind < 1 ∨ 7 < v.kind) : formV v = false := by
  rw [formV_eq]
  have : goodB v = false := by
    unfold goodB
    rw [if_neg (by omega), if_neg (by omega), if_neg (by omega), if_neg (by omega)]
  rw [this, Bool.and_false, Bool.false_and]
/-- The operations of a region of a body. -/
def regOps (id : Nat) : Code → Option (Array Oper)
  | .region i ops _ => if i = id then some ops else none
  | .seq a b => (match regOps id a with | some x => some x | none => regOps id b)
  | .cond _ a b => (match regOps id a with | some x => some x | none => regOps id b)
  | .block _ a => regOps id a
  | .loop a => regOps id a
  | .scope a => regOps id a
  | _ => none
theorem lex_of {c : Option Code} {id : Nat} {ops : Array Oper} (h : (c.bind (regOps id)).map (Region.lexB .any) = some true) (e : c.bind (regOps id) = some ops) : Region.lexB .any ops = true := by
  rw [e] at h
  simpa using h
theorem cast0 : ((0 : Nat) : Int) = 0 := rfl
end Go.Proofs.YthmhcpghfbifiaaGreatDoor

/- Compare of the program and of the document. -/
namespace Go.Proofs.YthmhcpghfbifiaaGreatDoor
open Go.RowKit

def cmpV (a b : Vl) : Int := if rightV a then (if rightV b then ordV a b else -1) else (if rightV b then 1 else 0)
set_option maxRecDepth 100000 in
set_option maxHeartbeats 2000000 in
theorem compare_k (a b : Vl) (w : World) (n m : Nat) (sa sb : Value) (hT : Tabs w) (hta : a.text.size ≤ 1048576) (htb : b.text.size ≤ 1048576) (ha : ItemsAt w w.heap.size n sa a.items) (hb : ItemsAt w w.heap.size m sb b.items) :
    Calls Tryz.prog 49 #[.agg (vcells a sa), .agg (vcells b sb)] w fun e w' => e = .returned (.int .i64 (cmpV a b)) ∧ Below w.heap.size w w' := by
  obtain ⟨W, hW⟩ : ∃ W, (w.alloc (.cells (vcells a sa) 46)).alloc (.cells (vcells b sb) 46) = W := ⟨_, rfl⟩
  have bW : Below w.heap.size w W := by rw [← hW]; exact alloc_v (alloc_v (Below.refl _ _) _) _
  have e1 : W.heap[w.heap.size]? = some (.cells (vcells a sa) 46 (0, 0)) := by rw [← hW]; exact (Below.heap_alloc _ _ _ (by simp)).trans (World.alloc_heap_new w _)
  have e2 : W.heap[w.heap.size + 1]? = some (.cells (vcells b sb) 46 (0, 0)) := by rw [← hW]; have := World.alloc_heap_new (w.alloc (.cells (vcells a sa) 46)) (.cells (vcells b sb) 46); rwa [World.size_alloc] at this
  have zW : w.heap.size + 1 < W.heap.size := (Array.getElem?_eq_some_iff.1 e2).1
  have z1 : w.heap.size < W.heap.size := by omega
  have d0 := fun q : Wv W => q.cell (cells_at e1 0 _ rfl)
  have d1 := fun q : Wv W => q.cell (cells_at e1 1 _ rfl)
  have d2 := fun q : Wv W => q.cell (cells_at e1 2 _ rfl)
  have d3 := fun q : Wv W => q.cell (cells_at e1 3 _ rfl)
  have d4 := fun q : Wv W => q.cell (cells_at e1 4 _ rfl)
  have c0 := fun q : Wv W => q.cell (cells_at e2 0 _ rfl)
  have c1 := fun q : Wv W => q.cell (cells_at e2 1 _ rfl)
  have c2 := fun q : Wv W => q.cell (cells_at e2 2 _ rfl)
  have c3 := fun q : Wv W => q.cell (cells_at e2 3 _ rfl)
  have c4 := fun q : Wv W => q.cell (cells_at e2 4 _ rfl)
  have hany := Wv.any W
  have HRA := hide (fun q : Wv W => right_k a q.val n sa (hT.below (trans_v bW q.below)) hta ((ha.below (trans_v bW q.below)).up (trans_v bW q.below).size))
  have HRB := hide (fun q : Wv W => right_k b q.val m sb (hT.below (trans_v bW q.below)) htb ((hb.below (trans_v bW q.below)).up (trans_v bW q.below).size))
  have HO := hide (fun q : Wv W => order_k n a b q.val w.heap.size m sa sb (trans_v bW q.below).size (ha.below (trans_v bW q.below)) (hb.below (trans_v bW q.below)))
  obtain ⟨aa, ca, rfl, _⟩ := ha.len
  obtain ⟨ab, cb, rfl, _⟩ := hb.len
  unfold cmpV
  clear e1 e2 ha hb hT
  obtain ⟨k1, i1, m1, t1, l1⟩ := a
  obtain ⟨k2, i2, m2, t2, l2⟩ := b
  simp only at *
  generalize rightV ⟨k1, i1, m1, t1, l1⟩ = x at *
  generalize rightV ⟨k2, i2, m2, t2, l2⟩ = y at *
  generalize ordV ⟨k1, i1, m1, t1, l1⟩ ⟨k2, i2, m2, t2, l2⟩ = o at *
  cases x <;> cases y
  all_goals
    go_enter Tryz.func49, Tryz.ntmps49
    go_wp2
    refine wp_region_grown (by kernel_rfl) (by kernel_rfl) ?_
    repeat (go_big_quiet_step ((go_at_call 26; first | with_reducible exact Wv.calls _ (HRA.out _) | with_reducible exact Wv.calls _ (HRB.out _))))
    refine wpQuiet_nil ?_
    intro w1 hw'
    obtain ⟨q, rfl⟩ := hw'
    go_wp2_with (go_at_call 69; refine (HO.out _).mono ?_; clear HO; rintro e w2 ⟨rfl, b2⟩)
    go_ret
    first
      | exact ⟨rfl, trans_v (trans_v bW q.below) b2⟩
      | exact ⟨rfl, trans_v bW q.below⟩
end Go.Proofs.YthmhcpghfbifiaaGreatDoor
