/- The document's letters and names. -/
import Derived.Test.YthpkjehoogodkaaDoorZTRefRunes
namespace Go.Proofs.YthpkjehoogodkaaDoor
open Go.RowKit

/-- The document's letters. -/
def isLet (r : Int) : Bool := (decide (97 ≤ r) && decide (r ≤ 122)) || (decide (65 ≤ r) && decide (r ≤ 90)) || r == 95 || (decide (192 ≤ r) && decide (r ≤ 591) && !(r == 215) && !(r == 247)) || (decide (913 ≤ r) && decide (r ≤ 969) && !(r == 930))
theorem isLet_eq (r : Int) : isLet r = isLetter r := by
  rw [Bool.eq_iff_iff]
  unfold isLet isLetter
  simp [spans, inSpan]
  omega

set_option maxRecDepth 100000 in
set_option maxHeartbeats 2000000 in
theorem refLetter_k (r : Int) (w : World) : Calls Tryd.prog 42 #[.int .i64 r] w fun e w' => e = .returned (.bool (isLet r)) ∧ w = w' := by
  by_cases a1 : 97 ≤ r ∧ r ≤ 122
  · obtain ⟨a1, a2⟩ := a1
    have e : isLet r = true := by simp [isLet, a1, a2]
    rw [e]
    go_enter Tryd.func42, Tryd.ntmps42
    go_wp2
    go_ret
    exact ⟨rfl, rfl⟩
  by_cases a2 : 65 ≤ r ∧ r ≤ 90
  · obtain ⟨b1, b2⟩ := a2
    have e : isLet r = true := by simp [isLet, b1, b2]
    have c1 : ¬ 97 ≤ r := by omega
    rw [e]
    clear a1
    go_enter Tryd.func42, Tryd.ntmps42
    go_wp2
    go_ret
    exact ⟨rfl, rfl⟩
  by_cases a3 : r = 95
  · subst a3
    clear a1 a2
    go_enter Tryd.func42, Tryd.ntmps42
    go_wp2
    go_ret
    exact ⟨rfl, rfl⟩
  have e95 : (r == 95) = false := by simpa using a3
  by_cases a4 : 192 ≤ r ∧ r ≤ 591
  · obtain ⟨b1, b2⟩ := a4
    have e : isLet r = (!(r == 215) && !(r == 247)) := by
      have q1 : decide (r ≤ 122) = false := by simp; omega
      have q2 : decide (r ≤ 90) = false := by simp; omega
      have q3 : decide (913 ≤ r) = false := by simp; omega
      simp [isLet, b1, b2, q1, q2, q3, e95]
    have c1 : 122 < r := by omega
    rw [e]
    clear a1 a2 e
    by_cases d1 : r = 215
    · subst d1
      go_enter Tryd.func42, Tryd.ntmps42
      go_wp2
      go_ret
      exact ⟨rfl, rfl⟩
    · have f1 : (r == 215) = false := by simpa using d1
      go_enter Tryd.func42, Tryd.ntmps42
      go_wp2
      go_ret
      refine ⟨?_, rfl⟩
      simp [f1, bne]
  by_cases a5 : 913 ≤ r ∧ r ≤ 969
  · obtain ⟨b1, b2⟩ := a5
    have e : isLet r = !(r == 930) := by
      have q1 : decide (r ≤ 122) = false := by simp; omega
      have q2 : decide (r ≤ 90) = false := by simp; omega
      have q3 : decide (r ≤ 591) = false := by simp; omega
      simp [isLet, b1, b2, q1, q2, q3, e95]
    have c1 : 591 < r := by omega
    rw [e]
    clear a1 a2 a4 e
    go_enter Tryd.func42, Tryd.ntmps42
    go_wp2
    go_ret
    exact ⟨rfl, rfl⟩
  have e : isLet r = false := by
    have h : ¬ isLet r = true := by
      unfold isLet
      simp
      omega
    simpa using h
  rw [e]
  clear e
  have hc : r < 65 ∨ (90 < r ∧ r < 97) ∨ (122 < r ∧ r < 192) ∨ (591 < r ∧ r < 913) ∨ 969 < r := by omega
  clear a1 a2 a4 a5 a3
  rcases hc with h1 | ⟨h1, h2⟩ | ⟨h1, h2⟩ | ⟨h1, h2⟩ | h1
  all_goals (
    go_enter Tryd.func42, Tryd.ntmps42
    go_wp2
    go_ret
    exact ⟨rfl, rfl⟩)

def isRest (r : Int) : Bool := isLet r || (decide (48 ≤ r) && decide (r ≤ 57)) || r == 39
theorem isRest_eq (r : Int) : isRest r = (isLetter r || mayF r) := by
  unfold isRest mayF
  rw [isLet_eq, Bool.or_assoc]

set_option maxRecDepth 100000 in
theorem refRest_k (r : Int) (w : World) : Calls Tryd.prog 58 #[.int .i64 r] w fun e w' => e = .returned (.bool (isRest r)) ∧ w = w' := by
  have hl := refLetter_k r
  unfold isRest
  cases hb : isLet r
  all_goals rw [hb] at hl
  all_goals clear hb
  · by_cases a1 : 48 ≤ r
    · by_cases a2 : r ≤ 57
      · go_enter Tryd.func58, Tryd.ntmps58
        go_wp2_with (go_at_call 42; refine (hl _).mono ?_; rintro e w1 ⟨rfl, rfl⟩)
        go_ret
        simp [a1, a2]
      · go_enter Tryd.func58, Tryd.ntmps58
        go_wp2_with (go_at_call 42; refine (hl _).mono ?_; rintro e w1 ⟨rfl, rfl⟩)
        go_ret
        refine ⟨?_, rfl⟩
        have e1 : decide (48 ≤ r) = true := by simpa using a1
        rw [e1]
        simp
    · go_enter Tryd.func58, Tryd.ntmps58
      go_wp2_with (go_at_call 42; refine (hl _).mono ?_; rintro e w1 ⟨rfl, rfl⟩)
      go_ret
      refine ⟨?_, rfl⟩
      have e1 : decide (48 ≤ r) = false := by simpa using a1
      rw [e1]
      simp
  · go_enter Tryd.func58, Tryd.ntmps58
    go_wp2_with (go_at_call 42; refine (hl _).mono ?_; rintro e w1 ⟨rfl, rfl⟩)
    go_ret
    simp
end Go.Proofs.YthpkjehoogodkaaDoor
