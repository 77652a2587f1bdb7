/- Which fields a kind uses, and whether they are right. -/
import Derived.Test.YtmgmndhibcgpdaaGreatDoorGOrder
import Derived.Test.YtmgmndhibcgpdaaGreatDoorGText
namespace Go.Proofs.YtmgmndhibcgpdaaGreatDoor
open Go.RowKit

/-- Every field that the kind does not use is zero. -/
def usedB (v : Vl) : Bool := (v.int == 0 || (v.kind == 1 || v.kind == 2 || v.kind == 3)) && (v.im == 0 || v.kind == 3) && (v.text.toList == [] || v.kind == 4) && (((v.items.length : Nat) : Int) == 0 || (v.kind == 5 || v.kind == 6 || v.kind == 7))

set_option maxRecDepth 100000 in
set_option maxHeartbeats 4000000 in
theorem fieldsUsed_k (v : Vl) (a : Option Addr) (c : Nat) (w : World) :
    Calls Tryz.prog 145 #[.agg (vcells v (.slice a v.items.length c))] w fun e w' => e = .returned (.bool (usedB v)) ∧ Below w.heap.size w w' := by
  obtain ⟨k, i, m, t, l⟩ := v
  unfold usedB
  simp only
  generalize (l.length) = n
  go_enter Tryz.func145, Tryz.ntmps145
  go_wp2
  all_goals
    go_ret
    refine ⟨?_, (Below.refl _ _).alloc (Nat.le_refl _) _⟩
    simp_all

theorem inRange_k (i : Int) (w : World) : Calls Tryz.prog 37 #[.int .i64 i] w fun e w' => e = .returned (.bool (decide (-1048576 ≤ i) && decide (i ≤ 1048576))) ∧ w = w' := by
  by_cases h1 : -1048576 ≤ i
  · by_cases h2 : i ≤ 1048576
    · rw [decide_eq_true h1, decide_eq_true h2]
      go_enter Tryz.func37, Tryz.ntmps37
      go_wp2
      go_ret
      exact ⟨rfl, rfl⟩
    · rw [decide_eq_true h1, decide_eq_false h2]
      go_enter Tryz.func37, Tryz.ntmps37
      go_wp2
      go_ret
      exact ⟨rfl, rfl⟩
  · rw [decide_eq_false h1, Bool.false_and]
    go_enter Tryz.func37, Tryz.ntmps37
    go_wp2
    go_ret
    exact ⟨rfl, rfl⟩
/-- A symbol's text: a name, but not true, not false. -/
def symB (t : ByteArray) : Bool := !(t.toList == [116, 114, 117, 101]) && !(t.toList == [102, 97, 108, 115, 101]) && (nameE t.data.toList == 0)
set_option maxRecDepth 100000 in
theorem symbolText_k (t : ByteArray) (ht : t.size ≤ 281474976702464) (w : World) (hT : Tabs w) :
    Calls Tryz.prog 35 #[.string t] w fun e w' => e = .returned (.bool (symB t)) ∧ Below w.heap.size w w' := by
  unfold symB
  have HN := hide (name_k t ht w hT)
  generalize nameE t.data.toList = x at *
  cases h1 : (t.toList == [116, 114, 117, 101])
  · cases h2 : (t.toList == [102, 97, 108, 115, 101])
    · go_enter Tryz.func35, Tryz.ntmps35
      go_wp2_with (go_at_call 79; refine HN.out.mono ?_; clear HN; rintro e w1 ⟨rfl, b1⟩)
      go_ret
      exact ⟨rfl, b1⟩
    · go_enter Tryz.func35, Tryz.ntmps35
      go_wp2
      go_ret
      exact ⟨rfl, Below.refl _ _⟩
  · go_enter Tryz.func35, Tryz.ntmps35
    go_wp2
    go_ret
    exact ⟨rfl, Below.refl _ _⟩
/-- The fields that the kind uses are right. -/
def goodB (v : Vl) : Bool :=
  if v.kind = 2 ∨ v.kind = 5 ∨ v.kind = 6 ∨ v.kind = 7 then true else if v.kind = 1 then (v.int == 0 || v.int == 1) else if v.kind = 4 then symB v.text
  else if v.kind = 3 then ((decide (-1048576 ≤ v.int) && decide (v.int ≤ 1048576)) && (decide (-1048576 ≤ v.im) && decide (v.im ≤ 1048576))) else false
set_option maxRecDepth 100000 in
set_option maxHeartbeats 4000000 in
theorem fieldsRight_k (v : Vl) (a : Option Addr) (n c : Nat) (ht : v.text.size ≤ 281474976702464) (w : World) (hT : Tabs w) :
    Calls Tryz.prog 146 #[.agg (vcells v (.slice a n c))] w fun e w' => e = .returned (.bool (goodB v)) ∧ Below w.heap.size w w' := by
  have HS := hide (fun (W : World) (b : Below w.heap.size w W) => symbolText_k v.text ht W (hT.below b))
  obtain ⟨k, i, m, t, l⟩ := v
  unfold goodB
  simp only at *
  clear ht hT
  by_cases h2 : k = 2 ∨ k = 5 ∨ k = 6 ∨ k = 7
  · rw [if_pos h2]
    rcases h2 with rfl | rfl | rfl | rfl
    all_goals
      go_enter Tryz.func146, Tryz.ntmps146
      go_wp2
      go_ret
      exact ⟨rfl, alloc_v (Below.refl _ _) _⟩
  · rw [if_neg h2]
    by_cases h1 : k = 1
    · rw [if_pos h1]
      subst h1
      by_cases e0 : i = 0
      · subst e0
        go_enter Tryz.func146, Tryz.ntmps146
        go_wp2
        go_ret
        exact ⟨rfl, alloc_v (Below.refl _ _) _⟩
      · have e0' : (i == 0) = false := by simp [e0]
        go_enter Tryz.func146, Tryz.ntmps146
        go_wp2
        go_ret
        exact ⟨by rw [e0', Bool.false_or]; rfl, alloc_v (Below.refl _ _) _⟩
    · rw [if_neg h1]
      by_cases h4 : k = 4
      · rw [if_pos h4]
        subst h4
        go_enter Tryz.func146, Tryz.ntmps146
        go_wp2_with (go_at_call 35; refine (HS.out _ (alloc_v (Below.refl _ _) _)).mono ?_; clear HS; rintro e w1 ⟨rfl, b1⟩)
        go_ret
        exact ⟨rfl, trans_v (alloc_v (Below.refl _ _) _) b1⟩
      · rw [if_neg h4]
        by_cases h3 : k = 3
        · rw [if_pos h3]
          subst h3
          have HI := hide (fun W => inRange_k i W)
          have HM := hide (fun W => inRange_k m W)
          generalize (decide (-1048576 ≤ i) && decide (i ≤ 1048576)) = x at *
          generalize (decide (-1048576 ≤ m) && decide (m ≤ 1048576)) = y at *
          cases x
          · go_enter Tryz.func146, Tryz.ntmps146
            go_wp2_with (go_at_call 37; refine (HI.out _).mono ?_; clear HI; rintro e w1 ⟨rfl, rfl⟩)
            go_ret
            exact ⟨rfl, alloc_v (Below.refl _ _) _⟩
          · go_enter Tryz.func146, Tryz.ntmps146
            go_wp2_with (first
              | (go_at_call 37; refine (HI.out _).mono ?_; clear HI; rintro e w1 ⟨rfl, rfl⟩)
              | (go_at_call 37; refine (HM.out _).mono ?_; clear HM; rintro e w1 ⟨rfl, rfl⟩))
            go_ret
            exact ⟨rfl, alloc_v (Below.refl _ _) _⟩
        · rw [if_neg h3]
          have k1 : (k == 1) = false := by simp [h1]
          have k2 : (k == 2) = false := by simp; omega
          have k3 : (k == 3) = false := by simp [h3]
          have k4 : (k == 4) = false := by simp [h4]
          have k5 : (k == 5) = false := by simp; omega
          have k6 : (k == 6) = false := by simp; omega
          have k7 : (k == 7) = false := by simp; omega
          clear h1 h2 h3 h4
          go_enter Tryz.func146, Tryz.ntmps146
          go_wp2
          go_ret
          exact ⟨rfl, alloc_v (Below.refl _ _) _⟩
end Go.Proofs.YtmgmndhibcgpdaaGreatDoor
