/- rising: the items of a set. -/
import Derived.Test.YtmgmndhibcgpdaaGreatDoorGOrder
import Derived.Deep.LoopGhost
namespace Go.Proofs.YtmgmndhibcgpdaaGreatDoor
open Go.RowKit

/-- Each item comes ahead of the next one. -/
def riseB : List Vl → Bool
  | [] => true
  | [_] => true
  | a :: b :: l => decide (ordV a b < 0) && riseB (b :: l)
theorem riseB_iff (l : List Vl) : riseB l = true ↔ ∀ j (h : j + 1 < l.length), ordV l[j] l[j + 1] < 0 := by
  induction l with
  | nil => simp [riseB]
  | cons a l ih =>
    cases l with
    | nil => simp [riseB]
    | cons b l =>
      rw [riseB, Bool.and_eq_true, decide_eq_true_eq, ih]
      constructor
      · rintro ⟨h1, h2⟩ j hj
        cases j with
        | zero => exact h1
        | succ j => exact h2 j (by simpa using hj)
      · intro h
        exact ⟨h 0 (by simp), fun j hj => h (j + 1) (by simpa using hj)⟩
set_option maxRecDepth 100000 in
set_option maxHeartbeats 1000000 in
theorem rising_k (l : List Vl) (w : World) (B n : Nat) (sl : Value) (hB : B ≤ w.heap.size) (hl : ItemsAt w B n sl l) :
    Calls Tryz.prog 147 #[sl] w fun e w' => e = .returned (.bool (riseB l)) ∧ Below w.heap.size w w' := by
  obtain ⟨n, rfl⟩ := hl.pos
  have HA := hide hl
  obtain ⟨aa, ca, rfl, hla⟩ := hl.len
  unfold maxLen at hla
  clear hl
  go_enter Tryz.func147, Tryz.ntmps147
  go_wp2
  go_loopw [3] (fun i wr => ∃ k : Nat, k ≤ l.length ∧ i = .int .i64 ((k : Int) + 1) ∧ (∀ j (h : j + 1 < l.length), j < k → ordV l[j] l[j + 1] < 0) ∧ Below w.heap.size w wr) (fun i _ => l.length + 1 - (intOf i).toNat)
  case atStart => exact ⟨0, Nat.zero_le _, rfl, fun j _ h => by omega, Below.refl _ _⟩
  case round =>
    obtain ⟨k, hk, rfl, hz, hbel⟩ := hrel
    by_cases hlt : k + 1 < l.length
    · have hlr : k < l.length := by omega
      obtain ⟨b1, o1, s1, rfl, g1, p0, p1, p2, p3, p4, p5, _⟩ := (HA.out.below (hbel.mono hB)).item k hlr
      obtain ⟨b2, o2, s2, e2, g2, q0, q1, q2, q3, q4, q5, _⟩ := (HA.out.below (hbel.mono hB)).item (k + 1) hlt
      cases e2
      have HC := hide (fun (q : Wv wr) => order_k n l[k] l[k + 1] q.val B n s1 s2 (by have := hbel.size; have := q.below.size; omega) (p5.below (q.below.mono (by have := hbel.size; omega))) (q5.below (q.below.mono (by have := hbel.size; omega))))
      have HS := hide (fun (h : ordV l[k] l[k + 1] < 0) => (show ∀ j (h : j + 1 < l.length), j < k + 1 → ordV l[j] l[j + 1] < 0 from fun j hj hjk => by
        by_cases e : j = k
        · subst e; exact h
        · exact hz j hj (by omega)))
      have HN := hide (fun (h : ¬ ordV l[k] l[k + 1] < 0) => (show riseB l = false from by
        cases hr : riseB l
        · rfl
        · exact absurd ((riseB_iff l).1 hr k hlt) h))
      have HB2 := hide hbel
      have hk0 : (0 : Int) ≤ (k : Int) := by omega
      have hk1 : (k : Int) + 1 < (l.length : Int) := by omega
      have hk2 : (k : Int) < (l.length : Int) := by omega
      have hk3 : ((k : Int) + 1).toNat = k + 1 := by omega
      have hany := Wv.any wr
      have u0 := fun q : Wv wr => q.cell p0
      have u1 := fun q : Wv wr => q.cell p1
      have u2 := fun q : Wv wr => q.cell p2
      have u3 := fun q : Wv wr => q.cell p3
      have u4 := fun q : Wv wr => q.cell p4
      have v0 := fun q : Wv wr => q.cell q0
      have v1 := fun q : Wv wr => q.cell q1
      have v2 := fun q : Wv wr => q.cell q2
      have v3 := fun q : Wv wr => q.cell q3
      have v4 := fun q : Wv wr => q.cell q4
      obtain ⟨x1, y1, rfl, _⟩ := p5.len
      obtain ⟨x2, y2, rfl, _⟩ := q5.len
      clear hz p5 q5 hbel g1 g2 p0 p1 p2 p3 p4 q0 q1 q2 q3 q4
      generalize l[k].items = xi at *
      generalize l[k + 1].items = yi at *
      generalize l[k] = x at *
      generalize l[k + 1] = y at *
      go_wp2
      refine wp_region_grown (by kernel_rfl) (by kernel_rfl) ?_
      repeat (go_big_quiet_step ((go_at_call 90; exact Wv.calls _ (HC.out _))))
      refine wpQuiet_nil ?_
      intro w1 hw'
      obtain ⟨q, rfl⟩ := hw'
      by_cases hx : ordV x y < 0
      · have hx' : ¬ (0 ≤ ordV x y) := by omega
        go_wp2
        go_roundw
        case rel => exact ⟨k + 1, by omega, by go_num, HS.out hx, trans_v HB2.out q.below⟩
        case measure => simp [intOf]; omega
      · have hx' : 0 ≤ ordV x y := by omega
        go_wp2
        go_ret
        exact ⟨by rw [HN.out hx]; rfl, trans_v HB2.out q.below⟩
    · have hr : riseB l = true := (riseB_iff l).2 fun j hj => hz j hj (by omega)
      have HR := hide hr
      have hk1 : ¬ (k : Int) + 1 < (l.length : Int) := by omega
      clear hz hr
      go_wp2
      go_ret
      exact ⟨by rw [HR.out]; rfl, hbel⟩
end Go.Proofs.YtmgmndhibcgpdaaGreatDoor
