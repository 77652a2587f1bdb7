/- Right, in the document's words. -/
import Derived.Test.YtcedpdneanjbkaaGreatDoorGVFO
import Derived.Test.YtcedpdneanjbkaaGreatDoorGRefText
namespace Go.Proofs.YtcedpdneanjbkaaGreatDoor
open Go.RowKit

set_option maxRecDepth 100000 in
set_option maxHeartbeats 1000000 in
theorem zero_num (v : Vl) (a : Option Addr) (c : Nat) (w : World) : Calls Tryz.prog 97 #[.agg (vcells v (.slice a v.items.length c)), .bool true, .bool false, .bool false, .bool false] w fun e w' => e = .returned (.bool ((v.im == 0 && v.text.toList == []) && ((v.items.length : Nat) : Int) == 0)) ∧ Below w.heap.size w w' := by
  obtain ⟨k, i, m, t, l⟩ := v
  simp only
  generalize (l.length) = n
  go_enter Tryz.func97, Tryz.ntmps97
  go_wp2
  all_goals
    go_ret
    refine ⟨?_, alloc_v (Below.refl _ _) _⟩
    simp_all
set_option maxRecDepth 100000 in
set_option maxHeartbeats 1000000 in
theorem zero_gauss (v : Vl) (a : Option Addr) (c : Nat) (w : World) : Calls Tryz.prog 97 #[.agg (vcells v (.slice a v.items.length c)), .bool true, .bool true, .bool false, .bool false] w fun e w' => e = .returned (.bool ((v.text.toList == []) && ((v.items.length : Nat) : Int) == 0)) ∧ Below w.heap.size w w' := by
  obtain ⟨k, i, m, t, l⟩ := v
  simp only
  generalize (l.length) = n
  go_enter Tryz.func97, Tryz.ntmps97
  go_wp2
  all_goals
    go_ret
    refine ⟨?_, alloc_v (Below.refl _ _) _⟩
    simp_all
set_option maxRecDepth 100000 in
set_option maxHeartbeats 1000000 in
theorem zero_sym (v : Vl) (a : Option Addr) (c : Nat) (w : World) : Calls Tryz.prog 97 #[.agg (vcells v (.slice a v.items.length c)), .bool false, .bool false, .bool true, .bool false] w fun e w' => e = .returned (.bool ((v.int == 0 && v.im == 0) && ((v.items.length : Nat) : Int) == 0)) ∧ Below w.heap.size w w' := by
  obtain ⟨k, i, m, t, l⟩ := v
  simp only
  generalize (l.length) = n
  go_enter Tryz.func97, Tryz.ntmps97
  go_wp2
  all_goals
    go_ret
    refine ⟨?_, alloc_v (Below.refl _ _) _⟩
    simp_all
set_option maxRecDepth 100000 in
set_option maxHeartbeats 1000000 in
theorem zero_items (v : Vl) (a : Option Addr) (c : Nat) (w : World) : Calls Tryz.prog 97 #[.agg (vcells v (.slice a v.items.length c)), .bool false, .bool false, .bool false, .bool true] w fun e w' => e = .returned (.bool ((v.int == 0 && v.im == 0) && v.text.toList == [])) ∧ Below w.heap.size w w' := by
  obtain ⟨k, i, m, t, l⟩ := v
  simp only
  generalize (l.length) = n
  go_enter Tryz.func97, Tryz.ntmps97
  go_wp2
  all_goals
    go_ret
    refine ⟨?_, alloc_v (Below.refl _ _) _⟩
    simp_all
theorem part_k (i : Int) (w : World) : Calls Tryz.prog 98 #[.int .i64 i] w fun e w' => e = .returned (.bool (decide (-1048576 ≤ i) && decide (i ≤ 1048576))) ∧ w = w' := by
  by_cases h1 : -1048576 ≤ i
  · by_cases h2 : i ≤ 1048576
    · rw [decide_eq_true h1, decide_eq_true h2]
      go_enter Tryz.func98, Tryz.ntmps98
      go_wp2
      go_ret
      exact ⟨rfl, rfl⟩
    · rw [decide_eq_true h1, decide_eq_false h2]
      go_enter Tryz.func98, Tryz.ntmps98
      go_wp2
      go_ret
      exact ⟨rfl, rfl⟩
  · rw [decide_eq_false h1, Bool.false_and]
    go_enter Tryz.func98, Tryz.ntmps98
    go_wp2
    go_ret
    exact ⟨rfl, rfl⟩
set_option maxRecDepth 100000 in
theorem refSymbol_k (t : ByteArray) (ht : t.size ≤ 1048576) (w : World) : Calls Tryz.prog 99 #[.string t] w fun e w' => e = .returned (.bool (symB t)) ∧ Below w.heap.size w w' := by
  unfold symB
  have HN := hide (refName_k t ht w)
  rw [(name_doc t.data.toList).1]
  generalize okN (rs t.data.toList) = x at *
  cases x
  · go_enter Tryz.func99, Tryz.ntmps99
    go_wp2_with (go_at_call 62; refine HN.out.mono ?_; clear HN; rintro e w1 ⟨rfl, b1⟩)
    go_ret
    exact ⟨by rw [Bool.and_false]; rfl, b1⟩
  · cases h1 : (t.toList == [116, 114, 117, 101])
    · cases h2 : (t.toList == [102, 97, 108, 115, 101])
      all_goals
        go_enter Tryz.func99, Tryz.ntmps99
        go_wp2_with (go_at_call 62; refine HN.out.mono ?_; clear HN; rintro e w1 ⟨rfl, b1⟩)
        go_ret
        exact ⟨rfl, b1⟩
    · go_enter Tryz.func99, Tryz.ntmps99
      go_wp2_with (go_at_call 62; refine HN.out.mono ?_; clear HN; rintro e w1 ⟨rfl, b1⟩)
      go_ret
      exact ⟨rfl, b1⟩
theorem cntL_take {f : Vl → Nat → Nat} {l : List Vl} {k s0 s : Nat} (hk : k < l.length) (h : cntL f (l.take k) s0 = s) (hs : s ≤ 4096) :
    (f l[k] s ≤ 4096 → cntL f (l.take (k + 1)) s0 = f l[k] s) ∧ (4096 < f l[k] s → cntL f l s0 = f l[k] s) := by
  induction k generalizing l s0 with
  | zero =>
    cases l with
    | nil => simp at hk
    | cons v l =>
      simp only [List.take_zero, cntL] at h
      subst h
      refine ⟨fun e => ?_, fun e => ?_⟩
      · simp only [List.take_succ_cons, List.take_zero, cntL, List.getElem_cons_zero] at e ⊢
        rw [if_neg (by omega)]
      · simp only [cntL, List.getElem_cons_zero] at e ⊢
        rw [if_pos e]
  | succ k ih =>
    cases l with
    | nil => simp at hk
    | cons v l =>
      simp only [List.take_succ_cons, cntL] at h ⊢
      split at h
      · omega
      · rename_i e
        have := ih (l := l) (by simpa using hk) h
        rw [if_neg e, if_neg e]
        simpa using this
theorem cnt_top (n : Nat) : ∀ (v : Vl) (s : Nat), cnt n v s ≤ 4097 := by
  induction n with
  | zero => intro v s; exact Nat.le_refl _
  | succ n ih =>
    intro v s
    have hl : ∀ (l : List Vl) (s : Nat), s ≤ 4097 → cntL (cnt n) l s ≤ 4097 := by
      intro l
      induction l with
      | nil => intro s hs; exact hs
      | cons x l il =>
        intro s _
        rw [cntL]
        split
        · exact ih x s
        · exact il _ (ih x s)
    rw [cnt]
    split
    · exact Nat.le_refl _
    · exact hl _ _ (by omega)
/-- What counted answers, with so many levels left. -/
def CountC (D : Nat) : Prop := ∀ (v : Vl) (w : World) (B n s : Nat) (sl : Value), D ≤ 16 → s ≤ 4096 → B ≤ w.heap.size → ItemsAt w B n sl v.items →
  Calls Tryz.prog 53 #[.agg (vcells v sl), .int .i64 (s : Int), .int .i64 (17 - (D : Int))] w fun e w' => e = .returned (.int .i64 (cnt D v s : Int)) ∧ Below w.heap.size w w'
set_option maxRecDepth 100000 in
theorem count_zero : CountC 0 := by
  intro v w B n s sl _ hs _ hi
  obtain ⟨a, c, rfl, _⟩ := hi.len
  clear hi
  by_cases h : 4096 < s + 1
  · have h' : (4096 : Int) < (s : Int) + 1 := by omega
    go_enter Tryz.func53, Tryz.ntmps53
    go_wp2
    go_ret
    exact ⟨rfl, alloc_v (Below.refl _ _) _⟩
  · have h' : ¬ (4096 : Int) < (s : Int) + 1 := by omega
    go_enter Tryz.func53, Tryz.ntmps53
    go_wp2
    go_ret
    exact ⟨rfl, alloc_v (Below.refl _ _) _⟩
set_option maxRecDepth 100000 in
set_option maxHeartbeats 1000000 in
theorem count_step {D : Nat} (hD : CountC D) : CountC (D + 1) := by
  intro v w B n s sl h16 hs hB hi
  obtain ⟨n, rfl⟩ := hi.pos
  have HI := hide hi
  obtain ⟨a, c, rfl, hla⟩ := hi.len
  unfold maxLen at hla
  have HD := hide hD
  obtain ⟨dp, hdp⟩ : ∃ dp : Int, 17 - ((D + 1 : Nat) : Int) = dp := ⟨_, rfl⟩
  rw [hdp]
  have d1 : dp + 1 = 17 - (D : Int) := by omega
  have d2 : ¬ (16 : Int) < dp := by omega
  have d3 : dp ≤ 16 := by omega
  have d4 : 0 ≤ dp := by omega
  clear hi hD hdp
  by_cases h : 4096 < s + 1
  · have h' : (4096 : Int) < (s : Int) + 1 := by omega
    have HE : Hid (cnt (D + 1) v s = 4097) := by rw [cnt, if_pos h]; rfl
    go_enter Tryz.func53, Tryz.ntmps53
    go_wp2
    go_ret
    exact ⟨by rw [HE.out]; rfl, alloc_v (Below.refl _ _) _⟩
  · have h' : ¬ (4096 : Int) < (s : Int) + 1 := by omega
    have HE : Hid (cnt (D + 1) v s = cntL (cnt D) v.items (s + 1)) := by rw [cnt, if_neg h]; rfl
    obtain ⟨W, hW⟩ : ∃ W, w.alloc (.cells (vcells v (.slice a v.items.length c)) 46) = W := ⟨_, rfl⟩
    have bW : Below w.heap.size w W := by rw [← hW]; exact alloc_v (Below.refl _ _) _
    have e1 : W.heap[w.heap.size]? = some (.cells (vcells v (.slice a v.items.length c)) 46 (0, 0)) := by rw [← hW]; exact World.alloc_heap_new w _
    have zW : w.heap.size < W.heap.size := (Array.getElem?_eq_some_iff.1 e1).1
    have x4 := cells_at e1 4 _ rfl
    clear e1
    go_enter Tryz.func53, Tryz.ntmps53
    go_wp2
    clear hW
    go_loopw [1, 7] (fun sv i wr => ∃ k t : Nat, k ≤ v.items.length ∧ t ≤ 4096 ∧ sv = .int .i64 (t : Int) ∧ i = .int .i64 k ∧ cntL (cnt D) (v.items.take k) (s + 1) = t ∧ Below W.heap.size W wr) (fun _ i _ => v.items.length - (intOf i).toNat)
    case atStart => exact ⟨0, s + 1, Nat.zero_le _, by omega, by go_num, rfl, rfl, Below.refl _ _⟩
    case round =>
      obtain ⟨k, t, hk, ht, rfl, rfl, hz, hbel⟩ := hrel
      have c4 := ((bcellV hbel).1 _ 4 zW).trans x4
      by_cases hlt : k < v.items.length
      · obtain ⟨b1, o1, s1, rfl, g1, p0, p1, p2, p3, p4, p5, _⟩ := ((HI.out.below (bW.mono hB)).below (hbel.mono (by have := bW.size; omega))).item k hlt
        have HZ := hide (cntL_take hlt hz ht)
        have HT := hide (cnt_top D v.items[k] t)
        have HC := hide (HD.out v.items[k] wr B n t s1 (by omega) ht (by have := bW.size; have := hbel.size; omega) p5)
        obtain ⟨xx1, yy1, rfl, _⟩ := p5.len
        have HB2 := hide hbel
        clear hz p5 hbel g1
        generalize v.items[k].items = xi at *
        generalize v.items[k] = x at *
        generalize cnt D x t = u at *
        have hu := HT.out
        by_cases hx : 4096 < u
        · have hx' : (4096 : Int) < (u : Int) := by omega
          have HE2 := hide (HE.out.trans (HZ.out.2 hx))
          go_wp2_with (go_at_call 53; refine HC.out.mono ?_; clear HC; rintro e w2 ⟨rfl, b2⟩)
          go_ret
          exact ⟨by rw [HE2.out]; rfl, trans_v (trans_v bW HB2.out) b2⟩
        · have hx' : ¬ (4096 : Int) < (u : Int) := by omega
          have HE2 := hide (HZ.out.1 (by omega))
          go_wp2_with (go_at_call 53; refine HC.out.mono ?_; clear HC; rintro e w2 ⟨rfl, b2⟩)
          go_roundw
          case rel => exact ⟨k + 1, u, by omega, by omega, rfl, by go_num, HE2.out, trans_v HB2.out b2⟩
          case measure => simp [intOf]; omega
      · rw [List.take_of_length_le (by omega)] at hz
        have HZ := hide hz
        clear hz
        go_wp2
        go_ret
        exact ⟨by rw [HE.out, HZ.out]; rfl, trans_v bW hbel⟩
theorem count_k : ∀ D, CountC D
  | 0 => count_zero
  | D + 1 => count_step (count_k D)
end Go.Proofs.YtcedpdneanjbkaaGreatDoor

/- form, in the document's words. -/
namespace Go.Proofs.YtcedpdneanjbkaaGreatDoor
open Go.RowKit

theorem form_num (v : Vl) (h : v.kind = 1) : formV v = (((v.im == 0 && v.text.toList == []) && ((v.items.length : Nat) : Int) == 0) && (v.int == 0 || v.int == 1)) := by
  obtain ⟨k, i, m, t, l⟩ := v
  simp only at h
  subst h
  rw [formV_eq]
  cases l with
  | nil => simp [usedB, goodB, riseB]
  | cons x l =>
    have e : (((l.length : Int) + 1) == 0) = false := by simp; omega
    simp [usedB, e]
theorem form_int (v : Vl) (h : v.kind = 2) : formV v = ((v.im == 0 && v.text.toList == []) && ((v.items.length : Nat) : Int) == 0) := by
  obtain ⟨k, i, m, t, l⟩ := v
  simp only at h
  subst h
  rw [formV_eq]
  cases l with
  | nil => simp [usedB, goodB, riseB]
  | cons x l =>
    have e : (((l.length : Int) + 1) == 0) = false := by simp; omega
    simp [usedB, e]
theorem form_gauss (v : Vl) (h : v.kind = 3) : formV v = ((((v.text.toList == []) && ((v.items.length : Nat) : Int) == 0) && (decide (-1048576 ≤ v.int) && decide (v.int ≤ 1048576))) && (decide (-1048576 ≤ v.im) && decide (v.im ≤ 1048576))) := by
  obtain ⟨k, i, m, t, l⟩ := v
  simp only at h
  subst h
  rw [formV_eq]
  cases l with
  | nil => simp [usedB, goodB, riseB, Bool.and_assoc]
  | cons x l =>
    have e : (((l.length : Int) + 1) == 0) = false := by simp; omega
    simp [usedB, e]
theorem form_sym (v : Vl) (h : v.kind = 4) : formV v = (((v.int == 0 && v.im == 0) && ((v.items.length : Nat) : Int) == 0) && symB v.text) := by
  obtain ⟨k, i, m, t, l⟩ := v
  simp only at h
  subst h
  rw [formV_eq]
  cases l with
  | nil => simp [usedB, goodB, riseB]
  | cons x l =>
    have e : (((l.length : Int) + 1) == 0) = false := by simp; omega
    simp [usedB, e]
theorem form_items (v : Vl) (h : v.kind = 5 ∨ v.kind = 6 ∨ v.kind = 7) : formV v = (((v.int == 0 && v.im == 0) && v.text.toList == []) && (v.items.all formV && (v.kind != 7 || riseB v.items))) := by
  obtain ⟨k, i, m, t, l⟩ := v
  simp only at h
  rw [formV_eq]
  rcases h with rfl | rfl | rfl <;> simp [usedB, goodB]
theorem form_none (v : Vl) (h : v.kind < 1 ∨ 7 < v.kind) : formV v = false := by
  rw [formV_eq]
  have : goodB v = false := by
    unfold goodB
    rw [if_neg (by omega), if_neg (by omega), if_neg (by omega), if_neg (by omega)]
  rw [this, Bool.and_false, Bool.false_and]
def FormC (n : Nat) : Prop := ∀ (v : Vl) (w : World) (B : Nat) (sl : Value), v.text.size ≤ 1048576 → B ≤ w.heap.size → ItemsAt w B n sl v.items →
  Calls Tryz.prog 64 #[.agg (vcells v sl)] w fun e w' => e = .returned (.bool (formV v)) ∧ Below w.heap.size w w'
set_option maxRecDepth 100000 in
set_option maxHeartbeats 4000000 in
theorem form_head {n : Nat} (v : Vl) (w : World) (B : Nat) (sl : Value) (htx : v.text.size ≤ 1048576) (hi : ItemsAt w B n sl v.items) (hk : ¬ (v.kind = 5 ∨ v.kind = 6 ∨ v.kind = 7)) :
    Calls Tryz.prog 64 #[.agg (vcells v sl)] w fun e w' => e = .returned (.bool (formV v)) ∧ Below w.heap.size w w' := by
  obtain ⟨a, c, rfl, _⟩ := hi.len
  clear hi
  obtain ⟨W, hW⟩ : ∃ W, w.alloc (.cells (vcells v (.slice a v.items.length c)) 46) = W := ⟨_, rfl⟩
  have bW : Below w.heap.size w W := by rw [← hW]; exact alloc_v (Below.refl _ _) _
  have e1 : W.heap[w.heap.size]? = some (.cells (vcells v (.slice a v.items.length c)) 46 (0, 0)) := by rw [← hW]; exact World.alloc_heap_new w _
  have zW : w.heap.size < W.heap.size := (Array.getElem?_eq_some_iff.1 e1).1
  have x0 := cells_at e1 0 _ rfl
  have x1 := cells_at e1 1 _ rfl
  have x2 := cells_at e1 2 _ rfl
  have x3 := cells_at e1 3 _ rfl
  have x4 := cells_at e1 4 _ rfl
  clear e1
  obtain ⟨k, i, m, t, l⟩ := v
  simp only at *
  by_cases h1 : k = 1
  · subst h1
    have HE := hide (form_num ⟨1, i, m, t, l⟩ rfl)
    have HZ := hide (zero_num ⟨1, i, m, t, l⟩ a c W)
    simp only at HE HZ
    generalize ((m == 0 && t.toList == []) && ((l.length : Nat) : Int) == 0) = z at *
    cases z
    · go_enter Tryz.func64, Tryz.ntmps64
      go_wp2_with (go_at_call 97; refine HZ.out.mono ?_; clear HZ; rintro e w2 ⟨rfl, b2⟩; have hc := (bcellV b2).1)
      go_ret
      exact ⟨by rw [HE.out]; rfl, trans_v bW b2⟩
    · cases h0 : (i == 0)
      all_goals
        go_enter Tryz.func64, Tryz.ntmps64
        go_wp2_with (go_at_call 97; refine HZ.out.mono ?_; clear HZ; rintro e w2 ⟨rfl, b2⟩; have hc := (bcellV b2).1)
        go_ret
        exact ⟨by rw [HE.out, h0]; rfl, trans_v bW b2⟩
  · by_cases h2 : k = 2
    · subst h2
      have HE := hide (form_int ⟨2, i, m, t, l⟩ rfl)
      have HZ := hide (zero_num ⟨2, i, m, t, l⟩ a c W)
      simp only at HE HZ
      generalize ((m == 0 && t.toList == []) && ((l.length : Nat) : Int) == 0) = z at *
      go_enter Tryz.func64, Tryz.ntmps64
      go_wp2_with (go_at_call 97; refine HZ.out.mono ?_; clear HZ; rintro e w2 ⟨rfl, b2⟩; have hc := (bcellV b2).1)
      go_ret
      exact ⟨by rw [HE.out]; rfl, trans_v bW b2⟩
    · by_cases h3 : k = 3
      · subst h3
        have HE := hide (form_gauss ⟨3, i, m, t, l⟩ rfl)
        have HZ := hide (zero_gauss ⟨3, i, m, t, l⟩ a c W)
        simp only at HE HZ
        have HI := hide (fun U => part_k i U)
        have HM := hide (fun U => part_k m U)
        generalize ((t.toList == []) && ((l.length : Nat) : Int) == 0) = z at *
        generalize (decide (-1048576 ≤ i) && decide (i ≤ 1048576)) = x at *
        generalize (decide (-1048576 ≤ m) && decide (m ≤ 1048576)) = y at *
        cases z
        · go_enter Tryz.func64, Tryz.ntmps64
          go_wp2_with (go_at_call 97; refine HZ.out.mono ?_; clear HZ; rintro e w2 ⟨rfl, b2⟩; have hc := (bcellV b2).1)
          go_ret
          exact ⟨by rw [HE.out]; rfl, trans_v bW b2⟩
        · cases x
          all_goals
            go_enter Tryz.func64, Tryz.ntmps64
            go_wp2_with (first
              | (go_at_call 97; refine HZ.out.mono ?_; clear HZ; rintro e w2 ⟨rfl, b2⟩; have hc := (bcellV b2).1)
              | (go_at_call 98; refine (HI.out _).mono ?_; clear HI; rintro e w3 ⟨rfl, rfl⟩)
              | (go_at_call 98; refine (HM.out _).mono ?_; clear HM; rintro e w3 ⟨rfl, rfl⟩))
            go_ret
            exact ⟨by rw [HE.out]; rfl, trans_v bW b2⟩
      · by_cases h4 : k = 4
        · subst h4
          have HE := hide (form_sym ⟨4, i, m, t, l⟩ rfl)
          have HZ := hide (zero_sym ⟨4, i, m, t, l⟩ a c W)
          simp only at HE HZ
          have HS := hide (fun U => refSymbol_k t htx U)
          generalize ((i == 0 && m == 0) && ((l.length : Nat) : Int) == 0) = z at *
          generalize symB t = y at *
          cases z
          · go_enter Tryz.func64, Tryz.ntmps64
            go_wp2_with (go_at_call 97; refine HZ.out.mono ?_; clear HZ; rintro e w2 ⟨rfl, b2⟩; have hc := (bcellV b2).1)
            go_ret
            exact ⟨by rw [HE.out]; rfl, trans_v bW b2⟩
          · go_enter Tryz.func64, Tryz.ntmps64
            go_wp2_with (first
              | (go_at_call 97; refine HZ.out.mono ?_; clear HZ; rintro e w2 ⟨rfl, b2⟩; have hc := (bcellV b2).1)
              | (go_at_call 99; refine (HS.out _).mono ?_; clear HS; rintro e w3 ⟨rfl, b3⟩))
            go_ret
            exact ⟨by rw [HE.out]; rfl, trans_v (trans_v bW b2) b3⟩
        · have HE := hide (form_none ⟨k, i, m, t, l⟩ (by simp only; omega))
          have k1 : (k == 1) = false := by simp [h1]
          have k2 : (k == 2) = false := by simp [h2]
          have k3 : (k == 3) = false := by simp [h3]
          have k4 : (k == 4) = false := by simp [h4]
          have k5 : (k == 5) = false := by simp; omega
          have k6 : (k == 6) = false := by simp; omega
          have k7 : (k == 7) = false := by simp; omega
          clear h1 h2 h3 h4 hk
          go_enter Tryz.func64, Tryz.ntmps64
          go_wp2
          go_ret
          exact ⟨by rw [HE.out]; rfl, bW⟩
/-- The operations of a region of a body. -/
def regOps (id : Nat) : Code → Option (Array Oper)
  | .region i ops _ => if i = id then some ops else none
  | .seq a b => (match regOps id a with | some x => some x | none => regOps id b)
  | .cond _ a b => (match regOps id a with | some x => some x | none => regOps id b)
  | .block _ a => regOps id a
  | .loop a => regOps id a
  | .scope a => regOps id a
  | _ => none
theorem lex_of {c : Option Code} {id : Nat} {ops : Array Oper} (h : (c.bind (regOps id)).map (Region.lexB .any) = some true) (e : c.bind (regOps id) = some ops) : Region.lexB .any ops = true := by
  rw [e] at h
  simpa using h
theorem cast0 : ((0 : Nat) : Int) = 0 := rfl
theorem lexForm : (Tryz.f64.body.bind (regOps 19)).map (Region.lexB .any) = some true := by kernel_rfl
set_option maxRecDepth 100000 in
set_option maxHeartbeats 4000000 in
theorem form_loop5 {n : Nat} (hF : FormC n) (i m : Int) (t : ByteArray) (l : List Vl) (w : World) (B : Nat) (sl : Value) (hB : B ≤ w.heap.size) (hi : ItemsAt w B (n + 1) sl l) :
    Calls Tryz.prog 64 #[.agg (vcells ⟨5, i, m, t, l⟩ sl)] w fun e w' => e = .returned (.bool (formV ⟨5, i, m, t, l⟩)) ∧ Below w.heap.size w w' := by
  have HI := hide hi
  obtain ⟨a, c, rfl, hla⟩ := hi.len
  unfold maxLen at hla
  have HF := hide hF
  clear hi hF
  obtain ⟨W, hW⟩ : ∃ W, w.alloc (.cells (vcells ⟨5, i, m, t, l⟩ (.slice a l.length c)) 46) = W := ⟨_, rfl⟩
  have bW : Below w.heap.size w W := by rw [← hW]; exact alloc_v (Below.refl _ _) _
  have e1 : W.heap[w.heap.size]? = some (.cells (vcells ⟨5, i, m, t, l⟩ (.slice a l.length c)) 46 (0, 0)) := by rw [← hW]; exact World.alloc_heap_new w _
  have zW : w.heap.size < W.heap.size := (Array.getElem?_eq_some_iff.1 e1).1
  have x0 := cells_at e1 0 _ rfl
  have x1 := cells_at e1 1 _ rfl
  have x2 := cells_at e1 2 _ rfl
  have x3 := cells_at e1 3 _ rfl
  have x4 := cells_at e1 4 _ rfl
  have HE := hide (form_items ⟨5, i, m, t, l⟩ (by simp))
  have HZ := hide (zero_items ⟨5, i, m, t, l⟩ a c W)
  clear e1
  simp only at *
  generalize ((i == 0 && m == 0) && t.toList == []) = z at *
  cases z
  · go_enter Tryz.func64, Tryz.ntmps64
    go_wp2_with (go_at_call 97; refine HZ.out.mono ?_; clear HZ; rintro e w2 ⟨rfl, b2⟩; have hc := (bcellV b2).1)
    go_ret
    exact ⟨by rw [HE.out]; rfl, trans_v bW b2⟩
  · go_enter Tryz.func64, Tryz.ntmps64
    go_wp2_with (go_at_call 97; refine HZ.out.mono ?_; clear HZ; rintro e w2 ⟨rfl, b2⟩; have hc := (bcellV b2).1)
    have bV := trans_v bW b2
    have z2 : w.heap.size < w2.heap.size := by have := b2.size; omega
    have y0 := (hc _ 0 zW).trans x0
    have y4 := (hc _ 4 zW).trans x4
    have HV := hide (HI.out.below (bV.mono hB))
    clear x0 x1 x2 x3 x4 hc hW b2
    go_loopw [3] (fun i wr => ∃ k : Nat, k ≤ l.length ∧ i = .int .i64 k ∧ (∀ j (h : j < l.length), j < k → formV l[j] = true) ∧ Below w2.heap.size w2 wr) (fun i _ => l.length - (intOf i).toNat)
    case atStart => exact ⟨0, Nat.zero_le _, rfl, fun j _ h => by omega, Below.refl _ _⟩
    case round =>
      obtain ⟨k, hk, rfl, hz, hbel⟩ := hrel
      have c0 := ((bcellV hbel).1 _ 0 z2).trans y0
      have c4 := ((bcellV hbel).1 _ 4 z2).trans y4
      have hB2 : B ≤ w2.heap.size := by omega
      by_cases hlt : k < l.length
      · obtain ⟨b1, o1, s1, ea, g1, p0, p1, p2, p3, p4, p5, p6⟩ := (HV.out.below (hbel.mono hB2)).item k hlt
        have HC := hide (fun (q : Wv wr) => HF.out l[k] q.val B s1 p6.1 (by have := hbel.size; have := q.below.size; omega) (p5.below (q.below.mono (by have := hbel.size; omega))))
        have hany := Wv.any wr
        have hk0 : (0 : Int) ≤ (k : Int) := by omega
        have hk1 : (k : Int) < (l.length : Int) := by omega
        have u0 := fun q : Wv wr => q.cell p0
        have u1 := fun q : Wv wr => q.cell p1
        have u2 := fun q : Wv wr => q.cell p2
        have u3 := fun q : Wv wr => q.cell p3
        have u4 := fun q : Wv wr => q.cell p4
        have f0 := fun q : Wv wr => q.cell c0
        have f4 := fun q : Wv wr => q.cell c4
        have HS := hide (fun (h : formV l[k] = true) => (show ∀ j (h : j < l.length), j < k + 1 → formV l[j] = true from fun j hj hjk => by
          by_cases e : j = k
          · subst e; exact h
          · exact hz j hj (by omega)))
        have HN := hide (fun (h : formV l[k] = false) => (show l.all formV = false from by
          cases hr : l.all formV
          · rfl
          · rw [List.all_eq_true.1 hr _ (List.getElem_mem hlt)] at h; cases h))
        have HB2 := hide hbel
        obtain ⟨xx1, yy1, rfl, _⟩ := p5.len
        cases hfx : formV l[k]
        · rw [hfx] at HC
          have HR := hide (HN.out hfx)
          subst ea
          clear hz p5 p6 hbel g1 p0 p1 p2 p3 p4 hfx
          generalize l[k].items = xi at *
          generalize l[k] = x at *
          go_wp2
          refine wp_region_grown (by kernel_rfl) (lex_of lexForm (by kernel_rfl)) ?_
          repeat (go_big_quiet_step ((go_at_call 64; exact Wv.calls _ (HC.out _))))
          refine wpQuiet_nil ?_
          intro w1 hw'
          obtain ⟨q, rfl⟩ := hw'
          go_wp2
          go_ret
          exact ⟨by rw [HE.out, HR.out]; rfl, trans_v (trans_v bV HB2.out) q.below⟩
        · rw [hfx] at HC
          have HR := hide (HS.out hfx)
          subst ea
          clear hz p5 p6 hbel g1 p0 p1 p2 p3 p4 hfx
          generalize l[k].items = xi at *
          generalize l[k] = x at *
          go_wp2
          refine wp_region_grown (by kernel_rfl) (lex_of lexForm (by kernel_rfl)) ?_
          repeat (go_big_quiet_step ((go_at_call 64; exact Wv.calls _ (HC.out _))))
          refine wpQuiet_nil ?_
          intro w1 hw'
          obtain ⟨q, rfl⟩ := hw'
          go_wp2
          go_roundw
          case rel => exact ⟨k + 1, by omega, by go_num, HR.out, trans_v HB2.out q.below⟩
          case measure => simp [intOf]; omega
      · have HA : Hid (l.all formV = true) := hide (List.all_eq_true.2 fun x hx => by
          obtain ⟨j, hj, rfl⟩ := List.getElem_of_mem hx
          exact hz j hj (by omega))
        clear hz
        go_wp2
        go_ret
        exact ⟨by rw [HE.out, HA.out]; rfl, trans_v bV hbel⟩
set_option maxRecDepth 100000 in
set_option maxHeartbeats 4000000 in
theorem form_loop6 {n : Nat} (hF : FormC n) (i m : Int) (t : ByteArray) (l : List Vl) (w : World) (B : Nat) (sl : Value) (hB : B ≤ w.heap.size) (hi : ItemsAt w B (n + 1) sl l) :
    Calls Tryz.prog 64 #[.agg (vcells ⟨6, i, m, t, l⟩ sl)] w fun e w' => e = .returned (.bool (formV ⟨6, i, m, t, l⟩)) ∧ Below w.heap.size w w' := by
  have HI := hide hi
  obtain ⟨a, c, rfl, hla⟩ := hi.len
  unfold maxLen at hla
  have HF := hide hF
  clear hi hF
  obtain ⟨W, hW⟩ : ∃ W, w.alloc (.cells (vcells ⟨6, i, m, t, l⟩ (.slice a l.length c)) 46) = W := ⟨_, rfl⟩
  have bW : Below w.heap.size w W := by rw [← hW]; exact alloc_v (Below.refl _ _) _
  have e1 : W.heap[w.heap.size]? = some (.cells (vcells ⟨6, i, m, t, l⟩ (.slice a l.length c)) 46 (0, 0)) := by rw [← hW]; exact World.alloc_heap_new w _
  have zW : w.heap.size < W.heap.size := (Array.getElem?_eq_some_iff.1 e1).1
  have x0 := cells_at e1 0 _ rfl
  have x1 := cells_at e1 1 _ rfl
  have x2 := cells_at e1 2 _ rfl
  have x3 := cells_at e1 3 _ rfl
  have x4 := cells_at e1 4 _ rfl
  have HE := hide (form_items ⟨6, i, m, t, l⟩ (by simp))
  have HZ := hide (zero_items ⟨6, i, m, t, l⟩ a c W)
  clear e1
  simp only at *
  generalize ((i == 0 && m == 0) && t.toList == []) = z at *
  cases z
  · go_enter Tryz.func64, Tryz.ntmps64
    go_wp2_with (go_at_call 97; refine HZ.out.mono ?_; clear HZ; rintro e w2 ⟨rfl, b2⟩; have hc := (bcellV b2).1)
    go_ret
    exact ⟨by rw [HE.out]; rfl, trans_v bW b2⟩
  · go_enter Tryz.func64, Tryz.ntmps64
    go_wp2_with (go_at_call 97; refine HZ.out.mono ?_; clear HZ; rintro e w2 ⟨rfl, b2⟩; have hc := (bcellV b2).1)
    have bV := trans_v bW b2
    have z2 : w.heap.size < w2.heap.size := by have := b2.size; omega
    have y0 := (hc _ 0 zW).trans x0
    have y4 := (hc _ 4 zW).trans x4
    have HV := hide (HI.out.below (bV.mono hB))
    clear x0 x1 x2 x3 x4 hc hW b2
    go_loopw [3] (fun i wr => ∃ k : Nat, k ≤ l.length ∧ i = .int .i64 k ∧ (∀ j (h : j < l.length), j < k → formV l[j] = true) ∧ Below w2.heap.size w2 wr) (fun i _ => l.length - (intOf i).toNat)
    case atStart => exact ⟨0, Nat.zero_le _, rfl, fun j _ h => by omega, Below.refl _ _⟩
    case round =>
      obtain ⟨k, hk, rfl, hz, hbel⟩ := hrel
      have c0 := ((bcellV hbel).1 _ 0 z2).trans y0
      have c4 := ((bcellV hbel).1 _ 4 z2).trans y4
      have hB2 : B ≤ w2.heap.size := by omega
      by_cases hlt : k < l.length
      · obtain ⟨b1, o1, s1, ea, g1, p0, p1, p2, p3, p4, p5, p6⟩ := (HV.out.below (hbel.mono hB2)).item k hlt
        have HC := hide (fun (q : Wv wr) => HF.out l[k] q.val B s1 p6.1 (by have := hbel.size; have := q.below.size; omega) (p5.below (q.below.mono (by have := hbel.size; omega))))
        have hany := Wv.any wr
        have hk0 : (0 : Int) ≤ (k : Int) := by omega
        have hk1 : (k : Int) < (l.length : Int) := by omega
        have u0 := fun q : Wv wr => q.cell p0
        have u1 := fun q : Wv wr => q.cell p1
        have u2 := fun q : Wv wr => q.cell p2
        have u3 := fun q : Wv wr => q.cell p3
        have u4 := fun q : Wv wr => q.cell p4
        have f0 := fun q : Wv wr => q.cell c0
        have f4 := fun q : Wv wr => q.cell c4
        have HS := hide (fun (h : formV l[k] = true) => (show ∀ j (h : j < l.length), j < k + 1 → formV l[j] = true from fun j hj hjk => by
          by_cases e : j = k
          · subst e; exact h
          · exact hz j hj (by omega)))
        have HN := hide (fun (h : formV l[k] = false) => (show l.all formV = false from by
          cases hr : l.all formV
          · rfl
          · rw [List.all_eq_true.1 hr _ (List.getElem_mem hlt)] at h; cases h))
        have HB2 := hide hbel
        obtain ⟨xx1, yy1, rfl, _⟩ := p5.len
        cases hfx : formV l[k]
        · rw [hfx] at HC
          have HR := hide (HN.out hfx)
          subst ea
          clear hz p5 p6 hbel g1 p0 p1 p2 p3 p4 hfx
          generalize l[k].items = xi at *
          generalize l[k] = x at *
          go_wp2
          refine wp_region_grown (by kernel_rfl) (lex_of lexForm (by kernel_rfl)) ?_
          repeat (go_big_quiet_step ((go_at_call 64; exact Wv.calls _ (HC.out _))))
          refine wpQuiet_nil ?_
          intro w1 hw'
          obtain ⟨q, rfl⟩ := hw'
          go_wp2
          go_ret
          exact ⟨by rw [HE.out, HR.out]; rfl, trans_v (trans_v bV HB2.out) q.below⟩
        · rw [hfx] at HC
          have HR := hide (HS.out hfx)
          subst ea
          clear hz p5 p6 hbel g1 p0 p1 p2 p3 p4 hfx
          generalize l[k].items = xi at *
          generalize l[k] = x at *
          go_wp2
          refine wp_region_grown (by kernel_rfl) (lex_of lexForm (by kernel_rfl)) ?_
          repeat (go_big_quiet_step ((go_at_call 64; exact Wv.calls _ (HC.out _))))
          refine wpQuiet_nil ?_
          intro w1 hw'
          obtain ⟨q, rfl⟩ := hw'
          go_wp2
          go_roundw
          case rel => exact ⟨k + 1, by omega, by go_num, HR.out, trans_v HB2.out q.below⟩
          case measure => simp [intOf]; omega
      · have HA : Hid (l.all formV = true) := hide (List.all_eq_true.2 fun x hx => by
          obtain ⟨j, hj, rfl⟩ := List.getElem_of_mem hx
          exact hz j hj (by omega))
        clear hz
        go_wp2
        go_ret
        exact ⟨by rw [HE.out, HA.out]; rfl, trans_v bV hbel⟩
set_option maxRecDepth 100000 in
set_option maxHeartbeats 4000000 in
theorem form_loop7 {n : Nat} (hF : FormC n) (i m : Int) (t : ByteArray) (l : List Vl) (w : World) (B : Nat) (sl : Value) (hB : B ≤ w.heap.size) (hi : ItemsAt w B (n + 1) sl l) :
    Calls Tryz.prog 64 #[.agg (vcells ⟨7, i, m, t, l⟩ sl)] w fun e w' => e = .returned (.bool (formV ⟨7, i, m, t, l⟩)) ∧ Below w.heap.size w w' := by
  have HI := hide hi
  obtain ⟨a, c, rfl, hla⟩ := hi.len
  unfold maxLen at hla
  have HF := hide hF
  clear hi hF
  obtain ⟨W, hW⟩ : ∃ W, w.alloc (.cells (vcells ⟨7, i, m, t, l⟩ (.slice a l.length c)) 46) = W := ⟨_, rfl⟩
  have bW : Below w.heap.size w W := by rw [← hW]; exact alloc_v (Below.refl _ _) _
  have e1 : W.heap[w.heap.size]? = some (.cells (vcells ⟨7, i, m, t, l⟩ (.slice a l.length c)) 46 (0, 0)) := by rw [← hW]; exact World.alloc_heap_new w _
  have zW : w.heap.size < W.heap.size := (Array.getElem?_eq_some_iff.1 e1).1
  have x0 := cells_at e1 0 _ rfl
  have x1 := cells_at e1 1 _ rfl
  have x2 := cells_at e1 2 _ rfl
  have x3 := cells_at e1 3 _ rfl
  have x4 := cells_at e1 4 _ rfl
  have HE := hide (form_items ⟨7, i, m, t, l⟩ (by simp))
  have HZ := hide (zero_items ⟨7, i, m, t, l⟩ a c W)
  clear e1
  simp only at *
  generalize ((i == 0 && m == 0) && t.toList == []) = z at *
  cases z
  · go_enter Tryz.func64, Tryz.ntmps64
    go_wp2_with (go_at_call 97; refine HZ.out.mono ?_; clear HZ; rintro e w2 ⟨rfl, b2⟩; have hc := (bcellV b2).1)
    go_ret
    exact ⟨by rw [HE.out]; rfl, trans_v bW b2⟩
  · go_enter Tryz.func64, Tryz.ntmps64
    go_wp2_with (go_at_call 97; refine HZ.out.mono ?_; clear HZ; rintro e w2 ⟨rfl, b2⟩; have hc := (bcellV b2).1)
    have bV := trans_v bW b2
    have z2 : w.heap.size < w2.heap.size := by have := b2.size; omega
    have y0 := (hc _ 0 zW).trans x0
    have y4 := (hc _ 4 zW).trans x4
    have HV := hide (HI.out.below (bV.mono hB))
    clear x0 x1 x2 x3 x4 hc hW b2
    go_loopw [3] (fun i wr => ∃ k : Nat, k ≤ l.length ∧ i = .int .i64 k ∧ (∀ j (h : j < l.length), j < k → formV l[j] = true) ∧ (∀ j (h : j + 1 < l.length), j + 1 < k → ordV l[j] l[j + 1] < 0) ∧ Below w2.heap.size w2 wr) (fun i _ => l.length - (intOf i).toNat)
    case atStart => exact ⟨0, Nat.zero_le _, rfl, fun j _ h => by omega, fun j _ h => by omega, Below.refl _ _⟩
    case round =>
      obtain ⟨k, hk, rfl, hz, ho, hbel⟩ := hrel
      have c0 := ((bcellV hbel).1 _ 0 z2).trans y0
      have c4 := ((bcellV hbel).1 _ 4 z2).trans y4
      have hB2 : B ≤ w2.heap.size := by omega
      by_cases hlt : k < l.length
      · obtain ⟨b1, o1, s1, ea, g1, p0, p1, p2, p3, p4, p5, p6⟩ := (HV.out.below (hbel.mono hB2)).item k hlt
        have HC := hide (fun (q : Wv wr) => HF.out l[k] q.val B s1 p6.1 (by have := hbel.size; have := q.below.size; omega) (p5.below (q.below.mono (by have := hbel.size; omega))))
        have hany := Wv.any wr
        have hk0 : (0 : Int) ≤ (k : Int) := by omega
        have hk1 : (k : Int) < (l.length : Int) := by omega
        have u0 := fun q : Wv wr => q.cell p0
        have u1 := fun q : Wv wr => q.cell p1
        have u2 := fun q : Wv wr => q.cell p2
        have u3 := fun q : Wv wr => q.cell p3
        have u4 := fun q : Wv wr => q.cell p4
        have f0 := fun q : Wv wr => q.cell c0
        have f4 := fun q : Wv wr => q.cell c4
        have HS := hide (fun (h : formV l[k] = true) => (show ∀ j (h : j < l.length), j < k + 1 → formV l[j] = true from fun j hj hjk => by
          by_cases e : j = k
          · subst e; exact h
          · exact hz j hj (by omega)))
        have HN := hide (fun (h : formV l[k] = false) => (show l.all formV = false from by
          cases hr : l.all formV
          · rfl
          · rw [List.all_eq_true.1 hr _ (List.getElem_mem hlt)] at h; cases h))
        have HB2 := hide hbel
        have HO := hide ho
        obtain ⟨xx1, yy1, rfl, _⟩ := p5.len
        cases hfx : formV l[k]
        · rw [hfx] at HC
          have HR := hide (HN.out hfx)
          subst ea
          clear hz p5 p6 hbel g1 p0 p1 p2 p3 p4 hfx ho
          generalize l[k].items = xi at *
          generalize l[k] = x at *
          go_wp2
          refine wp_region_grown (by kernel_rfl) (lex_of lexForm (by kernel_rfl)) ?_
          repeat (go_big_quiet_step ((go_at_call 64; exact Wv.calls _ (HC.out _))))
          refine wpQuiet_nil ?_
          intro w1 hw'
          obtain ⟨q, rfl⟩ := hw'
          go_wp2
          go_ret
          exact ⟨by rw [HE.out, HR.out]; rfl, trans_v (trans_v bV HB2.out) q.below⟩
        · rw [hfx] at HC
          have HR := hide (HS.out hfx)
          by_cases hk2 : k = 0
          · subst hk2
            subst ea
            clear hz p5 p6 hbel g1 p0 p1 p2 p3 p4 hfx ho
            generalize l[0].items = xi at *
            generalize l[0] = x at *
            simp only [Nat.zero_mul, Nat.add_zero] at u0 u1 u2 u3 u4
            simp only [cast0] at hk0 hk1 ⊢
            go_wp2
            refine wp_region_grown (by kernel_rfl) (lex_of lexForm (by kernel_rfl)) ?_
            repeat (go_big_quiet_step ((go_at_call 64; exact Wv.calls _ (HC.out _))))
            refine wpQuiet_nil ?_
            intro w1 hw'
            obtain ⟨q, rfl⟩ := hw'
            go_wp2
            go_roundw
            case rel => exact ⟨1, by omega, by go_num, HR.out, fun j _ h => by omega, trans_v HB2.out q.below⟩
            case measure => simp [intOf]; omega
          · obtain ⟨d, rfl⟩ : ∃ d, k = d + 1 := ⟨k - 1, by omega⟩
            obtain ⟨b2, o2, s2, eb, g2, q0, q1, q2, q3, q4, q5, _⟩ := (HV.out.below (hbel.mono hB2)).item d (by omega)
            subst ea
            cases eb
            have v0 := fun q : Wv wr => q.cell q0
            have v1 := fun q : Wv wr => q.cell q1
            have v2 := fun q : Wv wr => q.cell q2
            have v3 := fun q : Wv wr => q.cell q3
            have v4 := fun q : Wv wr => q.cell q4
            have HQ := hide (fun (q : Wv wr) => refOrder_k n l[d] l[d + 1] q.val B n s2 _ (by have := hbel.size; have := q.below.size; omega) (q5.below (q.below.mono (by have := hbel.size; omega))) (p5.below (q.below.mono (by have := hbel.size; omega))))
            obtain ⟨xx2, yy2, rfl, _⟩ := q5.len
            have HP := hide (fun (h : ordV l[d] l[d + 1] < 0) => (show ∀ j (h : j + 1 < l.length), j + 1 < d + 1 + 1 → ordV l[j] l[j + 1] < 0 from fun j hj hjk => by
              by_cases e : j = d
              · subst e; exact h
              · exact HO.out j hj (by omega)))
            have HM := hide (fun (h : ¬ ordV l[d] l[d + 1] < 0) => (show riseB l = false from by
              cases hr : riseB l
              · rfl
              · exact absurd ((riseB_iff l).1 hr d hlt) h))
            have hd0 : (0 : Int) ≤ (d : Int) := by omega
            have hd1 : (d : Int) < (l.length : Int) := by omega
            have hd2 : (0 : Int) < (d : Int) + 1 := by omega
            have hd3 : ((d : Int) + 1).toNat = d + 1 := by omega
            have hd4 : (d : Int) + 1 < (l.length : Int) := by omega
            have hd5 : ((d : Int) + 1) - 1 = (d : Int) := by omega
            have hpc : ((d + 1 : Nat) : Int) = (d : Int) + 1 := by omega
            clear hz p5 p6 q5 hbel g1 g2 p0 p1 p2 p3 p4 q0 q1 q2 q3 q4 hfx ho hk0 hk1
            rw [hpc]
            generalize l[d].items = yi at *
            generalize l[d + 1].items = xi at *
            generalize l[d + 1] = x at *
            generalize l[d] = y at *
            go_wp2
            refine wp_region_grown (by kernel_rfl) (lex_of lexForm (by kernel_rfl)) ?_
            repeat (go_big_quiet_step ((first
              | (go_at_call 64; exact Wv.calls _ (HC.out _))
              | (go_at_call 65; exact Wv.calls _ (HQ.out _)))))
            refine wpQuiet_nil ?_
            intro w1 hw'
            obtain ⟨q, rfl⟩ := hw'
            by_cases hx : ordV y x < 0
            · have hx' : ¬ (0 ≤ ordV y x) := by omega
              go_wp2
              go_roundw
              case rel => exact ⟨d + 1 + 1, by omega, by go_num, HR.out, HP.out hx, trans_v HB2.out q.below⟩
              case measure => simp [intOf]; omega
            · have hx' : 0 ≤ ordV y x := by omega
              go_wp2
              go_ret
              exact ⟨by rw [HE.out, HM.out hx, show (true && (l.all formV && ((7 : Int) != 7 || false))) = false by simp]; rfl, trans_v (trans_v bV HB2.out) q.below⟩
      · have HA : Hid (l.all formV = true) := hide (List.all_eq_true.2 fun x hx => by
          obtain ⟨j, hj, rfl⟩ := List.getElem_of_mem hx
          exact hz j hj (by omega))
        have HM : Hid (riseB l = true) := hide ((riseB_iff l).2 fun j hj => ho j hj (by omega))
        clear hz ho
        go_wp2
        go_ret
        exact ⟨by rw [HE.out, HA.out, HM.out]; rfl, trans_v bV hbel⟩
theorem form_k : ∀ n, FormC n
  | 0 => fun _ _ _ _ _ _ h => h.elim
  | n + 1 => fun v w B sl htx hB hi => by
    by_cases hk : v.kind = 5 ∨ v.kind = 6 ∨ v.kind = 7
    · obtain ⟨k, i, m, t, l⟩ := v
      simp only at hk
      rcases hk with rfl | rfl | rfl
      · exact form_loop5 (form_k n) i m t l w B sl hB hi
      · exact form_loop6 (form_k n) i m t l w B sl hB hi
      · exact form_loop7 (form_k n) i m t l w B sl hB hi
    · exact form_head v w B sl htx hi hk
end Go.Proofs.YtcedpdneanjbkaaGreatDoor

/- Compare of the program and of the document. -/
namespace Go.Proofs.YtcedpdneanjbkaaGreatDoor
open Go.RowKit

def cmpV (a b : Vl) : Int := if rightV a then (if rightV b then ordV a b else -1) else (if rightV b then 1 else 0)
set_option maxRecDepth 100000 in
theorem refRight_k (v : Vl) (w : World) (n : Nat) (sl : Value) (htx : v.text.size ≤ 1048576) (hs : ItemsAt w w.heap.size n sl v.items) :
    Calls Tryz.prog 29 #[.agg (vcells v sl)] w fun e w' => e = .returned (.bool (rightV v)) ∧ Below w.heap.size w w' := by
  obtain ⟨W, hW⟩ : ∃ W, w.alloc (.cells (vcells v sl) 46) = W := ⟨_, rfl⟩
  have bW : Below w.heap.size w W := by rw [← hW]; exact alloc_v (Below.refl _ _) _
  have e1 : W.heap[w.heap.size]? = some (.cells (vcells v sl) 46 (0, 0)) := by rw [← hW]; exact World.alloc_heap_new w _
  have zW : w.heap.size < W.heap.size := (Array.getElem?_eq_some_iff.1 e1).1
  have x0 := cells_at e1 0 _ rfl
  have x1 := cells_at e1 1 _ rfl
  have x2 := cells_at e1 2 _ rfl
  have x3 := cells_at e1 3 _ rfl
  have x4 := cells_at e1 4 _ rfl
  have HE := hide (right_doc v)
  have HC := hide (count_k 16 v W w.heap.size n 0 sl (Nat.le_refl _) (by omega) bW.size (hs.below bW))
  have HF := hide (fun (U : World) (b : Below W.heap.size W U) => form_k n v U w.heap.size sl htx (trans_v bW b).size (hs.below (trans_v bW b)))
  obtain ⟨a, c, rfl, _⟩ := hs.len
  clear hs e1
  generalize cnt 16 v 0 = u at *
  generalize formV v = f at *
  by_cases hu : u ≤ 4096
  · have hu' : (u : Int) ≤ 4096 := by omega
    rw [← HE.out, decide_eq_true hu, Bool.true_and]
    go_enter Tryz.func29, Tryz.ntmps29
    go_wp2_with (first
      | (go_at_call 53; refine HC.out.mono ?_; clear HC; rintro e w2 ⟨rfl, b2⟩; have hc := (bcellV b2).1)
      | (go_at_call 64; refine (HF.out _ b2).mono ?_; clear HF; rintro e w3 ⟨rfl, b3⟩))
    go_ret
    exact ⟨rfl, trans_v (trans_v bW b2) b3⟩
  · have hu' : ¬ (u : Int) ≤ 4096 := by omega
    rw [← HE.out, decide_eq_false hu, Bool.false_and]
    go_enter Tryz.func29, Tryz.ntmps29
    go_wp2_with (go_at_call 53; refine HC.out.mono ?_; clear HC; rintro e w2 ⟨rfl, b2⟩; have hc := (bcellV b2).1)
    go_ret
    exact ⟨rfl, trans_v bW b2⟩
set_option maxRecDepth 100000 in
set_option maxHeartbeats 2000000 in
theorem compare_k (a b : Vl) (w : World) (n m : Nat) (sa sb : Value) (hT : Tabs w) (hta : a.text.size ≤ 1048576) (htb : b.text.size ≤ 1048576) (ha : ItemsAt w w.heap.size n sa a.items) (hb : ItemsAt w w.heap.size m sb b.items) :
    Calls Tryz.prog 78 #[.agg (vcells a sa), .agg (vcells b sb)] w fun e w' => e = .returned (.int .i64 (cmpV a b)) ∧ Below w.heap.size w w' := by
  obtain ⟨W, hW⟩ : ∃ W, (w.alloc (.cells (vcells a sa) 46)).alloc (.cells (vcells b sb) 46) = W := ⟨_, rfl⟩
  have bW : Below w.heap.size w W := by rw [← hW]; exact alloc_v (alloc_v (Below.refl _ _) _) _
  have e1 : W.heap[w.heap.size]? = some (.cells (vcells a sa) 46 (0, 0)) := by rw [← hW]; exact (Below.heap_alloc _ _ _ (by simp)).trans (World.alloc_heap_new w _)
  have e2 : W.heap[w.heap.size + 1]? = some (.cells (vcells b sb) 46 (0, 0)) := by rw [← hW]; have := World.alloc_heap_new (w.alloc (.cells (vcells a sa) 46)) (.cells (vcells b sb) 46); rwa [World.size_alloc] at this
  have zW : w.heap.size + 1 < W.heap.size := (Array.getElem?_eq_some_iff.1 e2).1
  have z1 : w.heap.size < W.heap.size := by omega
  have d0 := fun q : Wv W => q.cell (cells_at e1 0 _ rfl)
  have d1 := fun q : Wv W => q.cell (cells_at e1 1 _ rfl)
  have d2 := fun q : Wv W => q.cell (cells_at e1 2 _ rfl)
  have d3 := fun q : Wv W => q.cell (cells_at e1 3 _ rfl)
  have d4 := fun q : Wv W => q.cell (cells_at e1 4 _ rfl)
  have c0 := fun q : Wv W => q.cell (cells_at e2 0 _ rfl)
  have c1 := fun q : Wv W => q.cell (cells_at e2 1 _ rfl)
  have c2 := fun q : Wv W => q.cell (cells_at e2 2 _ rfl)
  have c3 := fun q : Wv W => q.cell (cells_at e2 3 _ rfl)
  have c4 := fun q : Wv W => q.cell (cells_at e2 4 _ rfl)
  have hany := Wv.any W
  have HRA := hide (fun q : Wv W => right_k a q.val n sa (hT.below (trans_v bW q.below)) hta ((ha.below (trans_v bW q.below)).up (trans_v bW q.below).size))
  have HRB := hide (fun q : Wv W => right_k b q.val m sb (hT.below (trans_v bW q.below)) htb ((hb.below (trans_v bW q.below)).up (trans_v bW q.below).size))
  have HO := hide (fun q : Wv W => order_k n a b q.val w.heap.size m sa sb (trans_v bW q.below).size (ha.below (trans_v bW q.below)) (hb.below (trans_v bW q.below)))
  obtain ⟨aa, ca, rfl, _⟩ := ha.len
  obtain ⟨ab, cb, rfl, _⟩ := hb.len
  unfold cmpV
  clear e1 e2 ha hb hT
  obtain ⟨k1, i1, m1, t1, l1⟩ := a
  obtain ⟨k2, i2, m2, t2, l2⟩ := b
  simp only at *
  generalize rightV ⟨k1, i1, m1, t1, l1⟩ = x at *
  generalize rightV ⟨k2, i2, m2, t2, l2⟩ = y at *
  generalize ordV ⟨k1, i1, m1, t1, l1⟩ ⟨k2, i2, m2, t2, l2⟩ = o at *
  cases x <;> cases y
  all_goals
    go_enter Tryz.func78, Tryz.ntmps78
    go_wp2
    refine wp_region_grown (by kernel_rfl) (by kernel_rfl) ?_
    repeat (go_big_quiet_step ((go_at_call 55; first | with_reducible exact Wv.calls _ (HRA.out _) | with_reducible exact Wv.calls _ (HRB.out _))))
    refine wpQuiet_nil ?_
    intro w1 hw'
    obtain ⟨q, rfl⟩ := hw'
    go_wp2_with (go_at_call 109; refine (HO.out _).mono ?_; clear HO; rintro e w2 ⟨rfl, b2⟩)
    go_ret
    first
      | exact ⟨rfl, trans_v (trans_v bW q.below) b2⟩
      | exact ⟨rfl, trans_v bW q.below⟩
end Go.Proofs.YtcedpdneanjbkaaGreatDoor
