/- Right, in the document's words. -/
import Derived.Test.YtgppmajmkpcciaaDoorZVFormMath
import Derived.Test.YtgppmajmkpcciaaDoorZVRefOrder
import Derived.Test.YtgppmajmkpcciaaDoorGRefText
namespace Go.Proofs.YtgppmajmkpcciaaDoor
open Go.RowKit

set_option maxRecDepth 100000 in
set_option maxHeartbeats 1000000 in
theorem zero_num (v : Vl) (a : Option Addr) (c : Nat) (w : World) : Calls Tryd.prog 67 #[.agg (vcells v (.slice a v.items.length c)), .bool true, .bool false, .bool false, .bool false] w fun e w' => e = .returned (.bool ((v.im == 0 && v.text.toList == []) && ((v.items.length : Nat) : Int) == 0)) ∧ Below w.heap.size w w' := by
  obtain ⟨k, i, m, t, l⟩ := v
  simp only
  generalize (l.length) = n
  go_enter Tryd.func67, Tryd.ntmps67
  go_wp2
  all_goals
    go_ret
    refine ⟨?_, alloc_v (Below.refl _ _) _⟩
    simp_all
set_option maxRecDepth 100000 in
set_option maxHeartbeats 1000000 in
theorem zero_gauss (v : Vl) (a : Option Addr) (c : Nat) (w : World) : Calls Tryd.prog 67 #[.agg (vcells v (.slice a v.items.length c)), .bool true, .bool true, .bool false, .bool false] w fun e w' => e = .returned (.bool ((v.text.toList == []) && ((v.items.length : Nat) : Int) == 0)) ∧ Below w.heap.size w w' := by
  obtain ⟨k, i, m, t, l⟩ := v
  simp only
  generalize (l.length) = n
  go_enter Tryd.func67, Tryd.ntmps67
  go_wp2
  all_goals
    go_ret
    refine ⟨?_, alloc_v (Below.refl _ _) _⟩
    simp_all
set_option maxRecDepth 100000 in
set_option maxHeartbeats 1000000 in
theorem zero_sym (v : Vl) (a : Option Addr) (c : Nat) (w : World) : Calls Tryd.prog 67 #[.agg (vcells v (.slice a v.items.length c)), .bool false, .bool false, .bool true, .bool false] w fun e w' => e = .returned (.bool ((v.int == 0 && v.im == 0) && ((v.items.length : Nat) : Int) == 0)) ∧ Below w.heap.size w w' := by
  obtain ⟨k, i, m, t, l⟩ := v
  simp only
  generalize (l.length) = n
  go_enter Tryd.func67, Tryd.ntmps67
  go_wp2
  all_goals
    go_ret
    refine ⟨?_, alloc_v (Below.refl _ _) _⟩
    simp_all
set_option maxRecDepth 100000 in
set_option maxHeartbeats 1000000 in
theorem zero_items (v : Vl) (a : Option Addr) (c : Nat) (w : World) : Calls Tryd.prog 67 #[.agg (vcells v (.slice a v.items.length c)), .bool false, .bool false, .bool false, .bool true] w fun e w' => e = .returned (.bool ((v.int == 0 && v.im == 0) && v.text.toList == [])) ∧ Below w.heap.size w w' := by
  obtain ⟨k, i, m, t, l⟩ := v
  simp only
  generalize (l.length) = n
  go_enter Tryd.func67, Tryd.ntmps67
  go_wp2
  all_goals
    go_ret
    refine ⟨?_, alloc_v (Below.refl _ _) _⟩
    simp_all
theorem part_k (i : Int) (w : World) : Calls Tryd.prog 68 #[.int .i64 i] w fun e w' => e = .returned (.bool (decide (-1048576 ≤ i) && decide (i ≤ 1048576))) ∧ w = w' := by
  by_cases h1 : -1048576 ≤ i
  · by_cases h2 : i ≤ 1048576
    · rw [decide_eq_true h1, decide_eq_true h2]
      go_enter Tryd.func68, Tryd.ntmps68
      go_wp2
      go_ret
      exact ⟨rfl, rfl⟩
    · rw [decide_eq_true h1, decide_eq_false h2]
      go_enter Tryd.func68, Tryd.ntmps68
      go_wp2
      go_ret
      exact ⟨rfl, rfl⟩
  · rw [decide_eq_false h1, Bool.false_and]
    go_enter Tryd.func68, Tryd.ntmps68
    go_wp2
    go_ret
    exact ⟨rfl, rfl⟩
set_option maxRecDepth 100000 in
theorem refSymbol_k (t : ByteArray) (ht : t.size ≤ 1048576) (w : World) : Calls Tryd.prog 69 #[.string t] w fun e w' => e = .returned (.bool (symB t)) ∧ Below w.heap.size w w' := by
  unfold symB
  have HN := hide (refName_k t ht w)
  rw [(name_doc t.data.toList).1]
  generalize okN (rs t.data.toList) = x at *
  cases x
  · go_enter Tryd.func69, Tryd.ntmps69
    go_wp2_with (go_at_call 41; refine HN.out.mono ?_; clear HN; rintro e w1 ⟨rfl, b1⟩)
    go_ret
    exact ⟨by rw [Bool.and_false]; rfl, b1⟩
  · cases h1 : (t.toList == [116, 114, 117, 101])
    · cases h2 : (t.toList == [102, 97, 108, 115, 101])
      all_goals
        go_enter Tryd.func69, Tryd.ntmps69
        go_wp2_with (go_at_call 41; refine HN.out.mono ?_; clear HN; rintro e w1 ⟨rfl, b1⟩)
        go_ret
        exact ⟨rfl, b1⟩
    · go_enter Tryd.func69, Tryd.ntmps69
      go_wp2_with (go_at_call 41; refine HN.out.mono ?_; clear HN; rintro e w1 ⟨rfl, b1⟩)
      go_ret
      exact ⟨rfl, b1⟩
theorem cntL_take {f : Vl → Nat → Nat} {l : List Vl} {k s0 s : Nat} (hk : k < l.length) (h : cntL f (l.take k) s0 = s) (hs : s ≤ 4096) :
    (f l[k] s ≤ 4096 → cntL f (l.take (k + 1)) s0 = f l[k] s) ∧ (4096 < f l[k] s → cntL f l s0 = f l[k] s) := by
  induction k generalizing l s0 with
  | zero =>
    cases l with
    | nil => simp at hk
    | cons v l =>
      simp only [List.take_zero, cntL] at h
      subst h
      refine ⟨fun e => ?_, fun e => ?_⟩
      · simp only [List.take_succ_cons, List.take_zero, cntL, List.getElem_cons_zero] at e ⊢
        rw [if_neg (by omega)]
      · simp only [cntL, List.getElem_cons_zero] at e ⊢
        rw [if_pos e]
  | succ k ih =>
    cases l with
    | nil => simp at hk
    | cons v l =>
      simp only [List.take_succ_cons, cntL] at h ⊢
      split at h
      · omega
      · rename_i e
        have := ih (l := l) (by simpa using hk) h
        rw [if_neg e, if_neg e]
        simpa using this
theorem cnt_top (n : Nat) : ∀ (v : Vl) (s : Nat), cnt n v s ≤ 4097 := by
  induction n with
  | zero => intro v s; exact Nat.le_refl _
  | succ n ih =>
    intro v s
    have hl : ∀ (l : List Vl) (s : Nat), s ≤ 4097 → cntL (cnt n) l s ≤ 4097 := by
      intro l
      induction l with
      | nil => intro s hs; exact hs
      | cons x l il =>
        intro s _
        rw [cntL]
        split
        · exact ih x s
        · exact il _ (ih x s)
    rw [cnt]
    split
    · exact Nat.le_refl _
    · exact hl _ _ (by omega)
/-- What counted answers, with so many levels left. -/
def CountC (D : Nat) : Prop := ∀ (v : Vl) (w : World) (B n s : Nat) (sl : Value), D ≤ 16 → s ≤ 4096 → B ≤ w.heap.size → ItemsAt w B n sl v.items →
  Calls Tryd.prog 34 #[.agg (vcells v sl), .int .i64 (s : Int), .int .i64 (17 - (D : Int))] w fun e w' => e = .returned (.int .i64 (cnt D v s : Int)) ∧ Below w.heap.size w w'
set_option maxRecDepth 100000 in
theorem count_zero : CountC 0 := by
  intro v w B n s sl _ hs _ hi
  obtain ⟨a, c, rfl, _⟩ := hi.len
  clear hi
  by_cases h : 4096 < s + 1
  · have h' : (4096 : Int) < (s : Int) + 1 := by omega
    go_enter Tryd.func34, Tryd.ntmps34
    go_wp2
    go_ret
    exact ⟨rfl, alloc_v (Below.refl _ _) _⟩
  · have h' : ¬ (4096 : Int) < (s : Int) + 1 := by omega
    go_enter Tryd.func34, Tryd.ntmps34
    go_wp2
    go_ret
    exact ⟨rfl, alloc_v (Below.refl _ _) _⟩
set_option maxRecDepth 100000 in
set_option maxHeartbeats 1000000 in
theorem count_step {D : Nat} (hD : CountC D) : CountC (D + 1) := by
  intro v w B n s sl h16 hs hB hi
  obtain ⟨n, rfl⟩ := hi.pos
  have HI := hide hi
  obtain ⟨a, c, rfl, hla⟩ := hi.len
  unfold maxLen at hla
  have HD := hide hD
  obtain ⟨dp, hdp⟩ : ∃ dp : Int, 17 - ((D + 1 : Nat) : Int) = dp := ⟨_, rfl⟩
  rw [hdp]
  have d1 : dp + 1 = 17 - (D : Int) := by omega
  have d2 : ¬ (16 : Int) < dp := by omega
  have d3 : dp ≤ 16 := by omega
  have d4 : 0 ≤ dp := by omega
  clear hi hD hdp
  by_cases h : 4096 < s + 1
  · have h' : (4096 : Int) < (s : Int) + 1 := by omega
    have HE : Hid (cnt (D + 1) v s = 4097) := by rw [cnt, if_pos h]; rfl
    go_enter Tryd.func34, Tryd.ntmps34
    go_wp2
    go_ret
    exact ⟨by rw [HE.out]; rfl, alloc_v (Below.refl _ _) _⟩
  · have h' : ¬ (4096 : Int) < (s : Int) + 1 := by omega
    have HE : Hid (cnt (D + 1) v s = cntL (cnt D) v.items (s + 1)) := by rw [cnt, if_neg h]; rfl
    obtain ⟨W, hW⟩ : ∃ W, w.alloc (.cells (vcells v (.slice a v.items.length c)) 42) = W := ⟨_, rfl⟩
    have bW : Below w.heap.size w W := by rw [← hW]; exact alloc_v (Below.refl _ _) _
    have e1 : W.heap[w.heap.size]? = some (.cells (vcells v (.slice a v.items.length c)) 42 (0, 0)) := by rw [← hW]; exact World.alloc_heap_new w _
    have zW : w.heap.size < W.heap.size := (Array.getElem?_eq_some_iff.1 e1).1
    have x4 := cells_at e1 4 _ rfl
    clear e1
    go_enter Tryd.func34, Tryd.ntmps34
    go_wp2
    clear hW
    go_loopw [1, 7] (fun sv i wr => ∃ k t : Nat, k ≤ v.items.length ∧ t ≤ 4096 ∧ sv = .int .i64 (t : Int) ∧ i = .int .i64 k ∧ cntL (cnt D) (v.items.take k) (s + 1) = t ∧ Below W.heap.size W wr) (fun _ i _ => v.items.length - (intOf i).toNat)
    case atStart => exact ⟨0, s + 1, Nat.zero_le _, by omega, by go_num, rfl, rfl, Below.refl _ _⟩
    case round =>
      obtain ⟨k, t, hk, ht, rfl, rfl, hz, hbel⟩ := hrel
      have c4 := ((bcellV hbel).1 _ 4 zW).trans x4
      by_cases hlt : k < v.items.length
      · obtain ⟨b1, o1, s1, rfl, g1, p0, p1, p2, p3, p4, p5, _⟩ := ((HI.out.below (bW.mono hB)).below (hbel.mono (by have := bW.size; omega))).item k hlt
        have HZ := hide (cntL_take hlt hz ht)
        have HT := hide (cnt_top D v.items[k] t)
        have HC := hide (HD.out v.items[k] wr B n t s1 (by omega) ht (by have := bW.size; have := hbel.size; omega) p5)
        obtain ⟨xx1, yy1, rfl, _⟩ := p5.len
        have HB2 := hide hbel
        clear hz p5 hbel g1
        generalize v.items[k].items = xi at *
        generalize v.items[k] = x at *
        generalize cnt D x t = u at *
        have hu := HT.out
        by_cases hx : 4096 < u
        · have hx' : (4096 : Int) < (u : Int) := by omega
          have HE2 := hide (HE.out.trans (HZ.out.2 hx))
          go_wp2_with (go_at_call 34; refine HC.out.mono ?_; clear HC; rintro e w2 ⟨rfl, b2⟩)
          go_ret
          exact ⟨by rw [HE2.out]; rfl, trans_v (trans_v bW HB2.out) b2⟩
        · have hx' : ¬ (4096 : Int) < (u : Int) := by omega
          have HE2 := hide (HZ.out.1 (by omega))
          go_wp2_with (go_at_call 34; refine HC.out.mono ?_; clear HC; rintro e w2 ⟨rfl, b2⟩)
          go_roundw
          case rel => exact ⟨k + 1, u, by omega, by omega, rfl, by go_num, HE2.out, trans_v HB2.out b2⟩
          case measure => simp [intOf]; omega
      · rw [List.take_of_length_le (by omega)] at hz
        have HZ := hide hz
        clear hz
        go_wp2
        go_ret
        exact ⟨by rw [HE.out, HZ.out]; rfl, trans_v bW hbel⟩
theorem count_k : ∀ D, CountC D
  | 0 => count_zero
  | D + 1 => count_step (count_k D)
end Go.Proofs.YtgppmajmkpcciaaDoor
