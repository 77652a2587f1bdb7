/- Which fields a kind uses, and whether they are right. -/
import Derived.Test.YtnmkggoampkekaaGreatDoorGOrder
import Derived.Test.YtnmkggoampkekaaGreatDoorGText
import Derived.Deep.LoopGhost
namespace Go.Proofs.YtnmkggoampkekaaGreatDoor
open Go.RowKit

/-- Every field that the kind does not use is zero. -/
def usedB (v : Vl) : Bool := (v.int == 0 || (v.kind == 1 || v.kind == 2 || v.kind == 3)) && (v.im == 0 || v.kind == 3) && (v.text.toList == [] || v.kind == 4) && (((v.items.length : Nat) : Int) == 0 || (v.kind == 5 || v.kind == 6 || v.kind == 7))

set_option maxRecDepth 100000 in
set_option maxHeartbeats 4000000 in
theorem fieldsUsed_k (v : Vl) (a : Option Addr) (c : Nat) (w : World) :
    Calls Tryz.prog 86 #[.agg (vcells v (.slice a v.items.length c))] w fun e w' => e = .returned (.bool (usedB v)) ∧ Below w.heap.size w w' := by
  obtain ⟨k, i, m, t, l⟩ := v
  unfold usedB
  simp only
  generalize (l.length) = n
  go_enter Tryz.func86, Tryz.ntmps86
  go_wp2
  all_goals
    go_ret
    refine ⟨?_, (Below.refl _ _).alloc (Nat.le_refl _) _⟩
    simp_all

theorem inRange_k (i : Int) (w : World) : Calls Tryz.prog 90 #[.int .i64 i] w fun e w' => e = .returned (.bool (decide (-1048576 ≤ i) && decide (i ≤ 1048576))) ∧ w = w' := by
  by_cases h1 : -1048576 ≤ i
  · by_cases h2 : i ≤ 1048576
    · rw [decide_eq_true h1, decide_eq_true h2]
      go_enter Tryz.func90, Tryz.ntmps90
      go_wp2
      go_ret
      exact ⟨rfl, rfl⟩
    · rw [decide_eq_true h1, decide_eq_false h2]
      go_enter Tryz.func90, Tryz.ntmps90
      go_wp2
      go_ret
      exact ⟨rfl, rfl⟩
  · rw [decide_eq_false h1, Bool.false_and]
    go_enter Tryz.func90, Tryz.ntmps90
    go_wp2
    go_ret
    exact ⟨rfl, rfl⟩
/-- A symbol's text: a name, but not true, not false. -/
def symB (t : ByteArray) : Bool := !(t.toList == [116, 114, 117, 101]) && !(t.toList == [102, 97, 108, 115, 101]) && (nameE t.data.toList == 0)
/-- The fields that the kind uses are right. -/
def goodB (v : Vl) : Bool :=
  if v.kind = 2 ∨ v.kind = 5 ∨ v.kind = 6 ∨ v.kind = 7 then true else if v.kind = 1 then (v.int == 0 || v.int == 1) else if v.kind = 4 then symB v.text
  else if v.kind = 3 then ((decide (-1048576 ≤ v.int) && decide (v.int ≤ 1048576)) && (decide (-1048576 ≤ v.im) && decide (v.im ≤ 1048576))) else false
end Go.Proofs.YtnmkggoampkekaaGreatDoor

/- rising: the items of a set. -/
namespace Go.Proofs.YtnmkggoampkekaaGreatDoor
open Go.RowKit

/-- Each item comes ahead of the next one. -/
def riseB : List Vl → Bool
  | [] => true
  | [_] => true
  | a :: b :: l => decide (ordV a b < 0) && riseB (b :: l)
theorem riseB_iff (l : List Vl) : riseB l = true ↔ ∀ j (h : j + 1 < l.length), ordV l[j] l[j + 1] < 0 := by
  induction l with
  | nil => simp [riseB]
  | cons a l ih =>
    cases l with
    | nil => simp [riseB]
    | cons b l =>
      rw [riseB, Bool.and_eq_true, decide_eq_true_eq, ih]
      constructor
      · rintro ⟨h1, h2⟩ j hj
        cases j with
        | zero => exact h1
        | succ j => exact h2 j (by simpa using hj)
      · intro h
        exact ⟨h 0 (by simp), fun j hj => h (j + 1) (by simpa using hj)⟩
set_option maxRecDepth 100000 in
set_option maxHeartbeats 1000000 in
theorem rising_k (l : List Vl) (w : World) (B n : Nat) (sl : Value) (hB : B ≤ w.heap.size) (hl : ItemsAt w B n sl l) :
    Calls Tryz.prog 88 #[sl] w fun e w' => e = .returned (.bool (riseB l)) ∧ Below w.heap.size w w' := by
  obtain ⟨n, rfl⟩ := hl.pos
  have HA := hide hl
  obtain ⟨aa, ca, rfl, hla⟩ := hl.len
  unfold maxLen at hla
  clear hl
  go_enter Tryz.func88, Tryz.ntmps88
  go_wp2
  go_loopw [3] (fun i wr => ∃ k : Nat, k ≤ l.length ∧ i = .int .i64 ((k : Int) + 1) ∧ (∀ j (h : j + 1 < l.length), j < k → ordV l[j] l[j + 1] < 0) ∧ Below w.heap.size w wr) (fun i _ => l.length + 1 - (intOf i).toNat)
  case atStart => exact ⟨0, Nat.zero_le _, rfl, fun j _ h => by omega, Below.refl _ _⟩
  case round =>
    obtain ⟨k, hk, rfl, hz, hbel⟩ := hrel
    by_cases hlt : k + 1 < l.length
    · have hlr : k < l.length := by omega
      obtain ⟨b1, o1, s1, rfl, g1, p0, p1, p2, p3, p4, p5, _⟩ := (HA.out.below (hbel.mono hB)).item k hlr
      obtain ⟨b2, o2, s2, e2, g2, q0, q1, q2, q3, q4, q5, _⟩ := (HA.out.below (hbel.mono hB)).item (k + 1) hlt
      cases e2
      have HC := hide (fun (q : Wv wr) => order_k n l[k] l[k + 1] q.val B n s1 s2 (by have := hbel.size; have := q.below.size; omega) (p5.below (q.below.mono (by have := hbel.size; omega))) (q5.below (q.below.mono (by have := hbel.size; omega))))
      have HS := hide (fun (h : ordV l[k] l[k + 1] < 0) => (show ∀ j (h : j + 1 < l.length), j < k + 1 → ordV l[j] l[j + 1] < 0 from fun j hj hjk => by
        by_cases e : j = k
        · subst e; exact h
        · exact hz j hj (by omega)))
      have HN := hide (fun (h : ¬ ordV l[k] l[k + 1] < 0) => (show riseB l = false from by
        cases hr : riseB l
        · rfl
        · exact absurd ((riseB_iff l).1 hr k hlt) h))
      have HB2 := hide hbel
      have hk0 : (0 : Int) ≤ (k : Int) := by omega
      have hk1 : (k : Int) + 1 < (l.length : Int) := by omega
      have hk2 : (k : Int) < (l.length : Int) := by omega
      have hk3 : ((k : Int) + 1).toNat = k + 1 := by omega
      have hany := Wv.any wr
      have u0 := fun q : Wv wr => q.cell p0
      have u1 := fun q : Wv wr => q.cell p1
      have u2 := fun q : Wv wr => q.cell p2
      have u3 := fun q : Wv wr => q.cell p3
      have u4 := fun q : Wv wr => q.cell p4
      have v0 := fun q : Wv wr => q.cell q0
      have v1 := fun q : Wv wr => q.cell q1
      have v2 := fun q : Wv wr => q.cell q2
      have v3 := fun q : Wv wr => q.cell q3
      have v4 := fun q : Wv wr => q.cell q4
      obtain ⟨x1, y1, rfl, _⟩ := p5.len
      obtain ⟨x2, y2, rfl, _⟩ := q5.len
      clear hz p5 q5 hbel g1 g2 p0 p1 p2 p3 p4 q0 q1 q2 q3 q4
      generalize l[k].items = xi at *
      generalize l[k + 1].items = yi at *
      generalize l[k] = x at *
      generalize l[k + 1] = y at *
      go_wp2
      refine wp_region_grown (by kernel_rfl) (by kernel_rfl) ?_
      repeat (go_big_quiet_step ((go_at_call 91; exact Wv.calls _ (HC.out _))))
      refine wpQuiet_nil ?_
      intro w1 hw'
      obtain ⟨q, rfl⟩ := hw'
      by_cases hx : ordV x y < 0
      · have hx' : ¬ (0 ≤ ordV x y) := by omega
        go_wp2
        go_roundw
        case rel => exact ⟨k + 1, by omega, by go_num, HS.out hx, trans_v HB2.out q.below⟩
        case measure => simp [intOf]; omega
      · have hx' : 0 ≤ ordV x y := by omega
        go_wp2
        go_ret
        exact ⟨by rw [HN.out hx]; rfl, trans_v HB2.out q.below⟩
    · have hr : riseB l = true := (riseB_iff l).2 fun j hj => hz j hj (by omega)
      have HR := hide hr
      have hk1 : ¬ (k : Int) + 1 < (l.length : Int) := by omega
      clear hz hr
      go_wp2
      go_ret
      exact ⟨by rw [HR.out]; rfl, hbel⟩
end Go.Proofs.YtnmkggoampkekaaGreatDoor

/- rightWithin and right: whether a value is right. -/
namespace Go.Proofs.YtnmkggoampkekaaGreatDoor
open Go.RowKit

/-- Item by item, each with the room that those ahead leave. -/
def rwL (f : Vl → Nat → Bool × Nat) : List Vl → Nat → Bool × Nat
  | [], r => (true, r)
  | v :: l, r => if (f v r).1 = true then rwL f l (f v r).2 else (false, (f v r).2)
/-- Right with so many levels and parts, and how many parts are left. -/
def rw : Nat → Vl → Nat → Bool × Nat
  | 0, _, r => (false, r)
  | n + 1, v, r => if r = 0 then (false, 0) else if usedB v = true ∧ goodB v = true then
      (if (rwL (rw n) v.items (r - 1)).1 = true then (v.kind != 7 || riseB v.items, (rwL (rw n) v.items (r - 1)).2) else (false, (rwL (rw n) v.items (r - 1)).2)) else (false, r - 1)
def rightV (v : Vl) : Bool := (rw 16 v 4096).1
theorem rwL_take {f : Vl → Nat → Bool × Nat} {l : List Vl} {k r0 r : Nat} (hk : k < l.length) (h : rwL f (l.take k) r0 = (true, r)) :
    ((f l[k] r).1 = true → rwL f (l.take (k + 1)) r0 = (true, (f l[k] r).2)) ∧ ((f l[k] r).1 = false → rwL f l r0 = (false, (f l[k] r).2)) := by
  induction k generalizing l r0 with
  | zero =>
    cases l with
    | nil => simp at hk
    | cons v l =>
      simp only [List.take_zero, rwL, Prod.mk.injEq, true_and] at h
      subst h
      refine ⟨fun e => ?_, fun e => ?_⟩ <;> simp_all [rwL]
  | succ k ih =>
    cases l with
    | nil => simp at hk
    | cons v l =>
      simp only [List.take_succ_cons, rwL] at h ⊢
      split at h
      · rename_i e
        have := ih (l := l) (by simpa using hk) h
        rw [if_pos e, if_pos e]
        simpa using this
      · simp at h
theorem rwL_le {f : Vl → Nat → Bool × Nat} (hf : ∀ v r, (f v r).2 ≤ r) : ∀ (l : List Vl) (r : Nat), (rwL f l r).2 ≤ r
  | [], r => Nat.le_refl _
  | v :: l, r => by
    rw [rwL]
    have h1 := hf v r
    split
    · have := rwL_le hf l (f v r).2; omega
    · exact h1
theorem rw_le : ∀ (n : Nat) (v : Vl) (r : Nat), (rw n v r).2 ≤ r
  | 0, _, r => Nat.le_refl _
  | n + 1, v, r => by
    have h := rwL_le (rw_le n) v.items (r - 1)
    rw [rw]
    split
    · omega
    · split
      · split
        · show (rwL (rw n) v.items (r - 1)).2 ≤ r; omega
        · show (rwL (rw n) v.items (r - 1)).2 ≤ r; omega
      · show r - 1 ≤ r; omega

theorem ItemsAt.grown {w w' : World} {B n r : Nat} {sl : Value} {its : List Vl} (h : ItemsAt w B n sl its) (hg : w.grownBy w' (some r)) (hB : B ≤ r) (hw : B ≤ w.heap.size) : ItemsAt w' B n sl its :=
  h.kept fun b o hb => World.cell?_of_block (hg.block b (by omega) (by simp; omega))
theorem grown_of_below {w w' : World} {r : Option Nat} (h : Below w.heap.size w w') : w.grownBy w' r := ⟨h.os, h.tape, h.output, h.size, fun k hk _ => h.block k hk⟩
theorem grown_more {w w' w'' : World} {r : Option Nat} (h : w.grownBy w' r) (k : w'.grownBy w'' r) : w.grownBy w'' r :=
  ⟨k.os.trans h.os, k.tape.trans h.tape, k.output.trans h.output, Nat.le_trans h.size k.size, fun j hj hne => (k.block j (Nat.lt_of_lt_of_le hj h.size) hne).trans (h.block j hj hne)⟩
theorem grown_self (w : World) (r : Option Nat) : w.grownBy w r := ⟨rfl, rfl, rfl, Nat.le_refl _, fun _ _ _ => rfl⟩
theorem bcellV {W w1 : World} (hb : Below W.heap.size W w1) : (∀ b o, b < W.heap.size → w1.cell? ⟨b, o, none⟩ = W.cell? ⟨b, o, none⟩) ∧ (∀ b o, b < W.heap.size → w1.frozen? ⟨b, o, none⟩ = W.frozen? ⟨b, o, none⟩) :=
  ⟨fun b o h => hb.cell (p := ⟨b, o, none⟩) h, fun b o h => hb.frozen (p := ⟨b, o, none⟩) h⟩
theorem rw_room (L : Nat) (v : Vl) : rw (L + 1) v 0 = (false, 0) := by rw [rw, if_pos rfl]
theorem rw_bad (L : Nat) (v : Vl) (r : Nat) (hr : 0 < r) (h : ¬ (usedB v = true ∧ goodB v = true)) : rw (L + 1) v r = (false, r - 1) := by rw [rw, if_neg (by omega), if_neg h]
theorem rw_no (L : Nat) (v : Vl) (r : Nat) (hr : 0 < r) (h : usedB v = true ∧ goodB v = true) {r' : Nat} (hl : rwL (rw L) v.items (r - 1) = (false, r')) : rw (L + 1) v r = (false, r') := by
  rw [rw, if_neg (by omega), if_pos h, hl]
  rfl
theorem rw_yes (L : Nat) (v : Vl) (r : Nat) (hr : 0 < r) (h : usedB v = true ∧ goodB v = true) {r' : Nat} (hl : rwL (rw L) v.items (r - 1) = (true, r')) : rw (L + 1) v r = (v.kind != 7 || riseB v.items, r') := by
  rw [rw, if_neg (by omega), if_pos h, hl]
  rfl
theorem cells_at {w : World} {b : Nat} {cs : Array Value} {t : TypeId} (h : w.heap[b]? = some (.cells cs t (0, 0))) (i : Nat) (x : Value) (hx : cs[i]? = some x) : w.cell? ⟨b, i, none⟩ = some x := by
  simp only [World.cell?]
  rw [h]
  exact hx
theorem frozen_at {w : World} {b : Nat} {cs : Array Value} {t : TypeId} (h : w.heap[b]? = some (.cells cs t (0, 0))) (i : Nat) : w.frozen? ⟨b, i, none⟩ = false := by
  simp only [World.frozen?]
  rw [h]
  simp
end Go.Proofs.YtnmkggoampkekaaGreatDoor
