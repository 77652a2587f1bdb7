/- Which fields a kind uses, and whether they are right. -/
import Derived.Test.YthmhcpghfbifiaaGreatDoorGOrder
import Derived.Test.YthmhcpghfbifiaaGreatDoorGText
import Derived.Deep.LoopGhost
namespace Go.Proofs.YthmhcpghfbifiaaGreatDoor
open Go.RowKit

/-- Every field that the kind does not use is zero. -/
def usedB (v : Vl) : Bool := (v.int == 0 || (v.kind == 1 || v.kind == 2 || v.kind == 3)) && (v.im == 0 || v.kind == 3) && (v.text.toList == [] || v.kind == 4) && (((v.items.length : Nat) : Int) == 0 || (v.kind == 5 || v.kind == 6 || v.kind == 7))

set_option maxRecDepth 100000 in
set_option maxHeartbeats 4000000 in
theorem fieldsUsed_k (v : Vl) (a : Option Addr) (c : Nat) (w : World) :
    Calls Tryz.prog 70 #[.agg (vcells v (.slice a v.items.length c))] w fun e w' => e = .returned (.bool (usedB v)) ∧ Below w.heap.size w w' := by
  obtain ⟨k, i, m, t, l⟩ := v
  unfold usedB
  simp only
  generalize (l.length) = n
  go_enter Tryz.func70, Tryz.ntmps70
  go_wp2
  all_goals
    go_ret
    refine ⟨?_, (Below.refl _ _).alloc (Nat.le_refl _) _⟩
    simp_all

theorem inRange_k (i : Int) (w : World) : Calls Tryz.prog 99 #[.int .i64 i] w fun e w' => e = .returned (.bool (decide (-1048576 ≤ i) && decide (i ≤ 1048576))) ∧ w = w' := by
  by_cases h1 : -1048576 ≤ i
  · by_cases h2 : i ≤ 1048576
    · rw [decide_eq_true h1, decide_eq_true h2]
      go_enter Tryz.func99, Tryz.ntmps99
      go_wp2
      go_ret
      exact ⟨rfl, rfl⟩
    · rw [decide_eq_true h1, decide_eq_false h2]
      go_enter Tryz.func99, Tryz.ntmps99
      go_wp2
      go_ret
      exact ⟨rfl, rfl⟩
  · rw [decide_eq_false h1, Bool.false_and]
    go_enter Tryz.func99, Tryz.ntmps99
    go_wp2
    go_ret
    exact ⟨rfl, rfl⟩
/-- A symbol's text: a name, but not true, not false. -/
def symB (t : ByteArray) : Bool := !(t.toList == [116, 114, 117, 101]) && !(t.toList == [102, 97, 108, 115, 101]) && (nameE t.data.toList == 0)
set_option maxRecDepth 100000 in
theorem symbolText_k (t : ByteArray) (ht : t.size ≤ 281474976702464) (w : World) (hT : Tabs w) :
    Calls Tryz.prog 98 #[.string t] w fun e w' => e = .returned (.bool (symB t)) ∧ Below w.heap.size w w' := by
  unfold symB
  have HN := hide (name_k t ht w hT)
  generalize nameE t.data.toList = x at *
  cases h1 : (t.toList == [116, 114, 117, 101])
  · cases h2 : (t.toList == [102, 97, 108, 115, 101])
    · go_enter Tryz.func98, Tryz.ntmps98
      go_wp2_with (go_at_call 54; refine HN.out.mono ?_; clear HN; rintro e w1 ⟨rfl, b1⟩)
      go_ret
      exact ⟨rfl, b1⟩
    · go_enter Tryz.func98, Tryz.ntmps98
      go_wp2
      go_ret
      exact ⟨rfl, Below.refl _ _⟩
  · go_enter Tryz.func98, Tryz.ntmps98
    go_wp2
    go_ret
    exact ⟨rfl, Below.refl _ _⟩
/-- The fields that the kind uses are right. -/
def goodB (v : Vl) : Bool :=
  if v.kind = 2 ∨ v.kind = 5 ∨ v.kind = 6 ∨ v.kind = 7 then true else if v.kind = 1 then (v.int == 0 || v.int == 1) else if v.kind = 4 then symB v.text
  else if v.kind = 3 then ((decide (-1048576 ≤ v.int) && decide (v.int ≤ 1048576)) && (decide (-1048576 ≤ v.im) && decide (v.im ≤ 1048576))) else false
set_option maxRecDepth 100000 in
set_option maxHeartbeats 4000000 in
theorem fieldsRight_k (v : Vl) (a : Option Addr) (n c : Nat) (ht : v.text.size ≤ 281474976702464) (w : World) (hT : Tabs w) :
    Calls Tryz.prog 71 #[.agg (vcells v (.slice a n c))] w fun e w' => e = .returned (.bool (goodB v)) ∧ Below w.heap.size w w' := by
  have HS := hide (fun (W : World) (b : Below w.heap.size w W) => symbolText_k v.text ht W (hT.below b))
  obtain ⟨k, i, m, t, l⟩ := v
  unfold goodB
  simp only at *
  clear ht hT
  by_cases h2 : k = 2 ∨ k = 5 ∨ k = 6 ∨ k = 7
  · rw [if_pos h2]
    rcases h2 with rfl | rfl | rfl | rfl
    all_goals
      go_enter Tryz.func71, Tryz.ntmps71
      go_wp2
      go_ret
      exact ⟨rfl, alloc_v (Below.refl _ _) _⟩
  · rw [if_neg h2]
    by_cases h1 : k = 1
    · rw [if_pos h1]
      subst h1
      by_cases e0 : i = 0
      · subst e0
        go_enter Tryz.func71, Tryz.ntmps71
        go_wp2
        go_ret
        exact ⟨rfl, alloc_v (Below.refl _ _) _⟩
      · have e0' : (i == 0) = false := by simp [e0]
        go_enter Tryz.func71, Tryz.ntmps71
        go_wp2
        go_ret
        exact ⟨by rw [e0', Bool.false_or]; rfl, alloc_v (Below.refl _ _) _⟩
    · rw [if_neg h1]
      by_cases h4 : k = 4
      · rw [if_pos h4]
        subst h4
        go_enter Tryz.func71, Tryz.ntmps71
        go_wp2_with (go_at_call 98; refine (HS.out _ (alloc_v (Below.refl _ _) _)).mono ?_; clear HS; rintro e w1 ⟨rfl, b1⟩)
        go_ret
        exact ⟨rfl, trans_v (alloc_v (Below.refl _ _) _) b1⟩
      · rw [if_neg h4]
        by_cases h3 : k = 3
        · rw [if_pos h3]
          subst h3
          have HI := hide (fun W => inRange_k i W)
          have HM := hide (fun W => inRange_k m W)
          generalize (decide (-1048576 ≤ i) && decide (i ≤ 1048576)) = x at *
          generalize (decide (-1048576 ≤ m) && decide (m ≤ 1048576)) = y at *
          cases x
          · go_enter Tryz.func71, Tryz.ntmps71
            go_wp2_with (go_at_call 99; refine (HI.out _).mono ?_; clear HI; rintro e w1 ⟨rfl, rfl⟩)
            go_ret
            exact ⟨rfl, alloc_v (Below.refl _ _) _⟩
          · go_enter Tryz.func71, Tryz.ntmps71
            go_wp2_with (first
              | (go_at_call 99; refine (HI.out _).mono ?_; clear HI; rintro e w1 ⟨rfl, rfl⟩)
              | (go_at_call 99; refine (HM.out _).mono ?_; clear HM; rintro e w1 ⟨rfl, rfl⟩))
            go_ret
            exact ⟨rfl, alloc_v (Below.refl _ _) _⟩
        · rw [if_neg h3]
          have k1 : (k == 1) = false := by simp [h1]
          have k2 : (k == 2) = false := by simp; omega
          have k3 : (k == 3) = false := by simp [h3]
          have k4 : (k == 4) = false := by simp [h4]
          have k5 : (k == 5) = false := by simp; omega
          have k6 : (k == 6) = false := by simp; omega
          have k7 : (k == 7) = false := by simp; omega
          clear h1 h2 h3 h4
          go_enter Tryz.func71, Tryz.ntmps71
          go_wp2
          go_ret
          exact ⟨rfl, alloc_v (Below.refl _ _) _⟩
end Go.Proofs.YthmhcpghfbifiaaGreatDoor

/- rising: the items of a set. -/
namespace Go.Proofs.YthmhcpghfbifiaaGreatDoor
open Go.RowKit

/-- Each item comes ahead of the next one. -/
def riseB : List Vl → Bool
  | [] => true
  | [_] => true
  | a :: b :: l => decide (ordV a b < 0) && riseB (b :: l)
theorem riseB_iff (l : List Vl) : riseB l = true ↔ ∀ j (h : j + 1 < l.length), ordV l[j] l[j + 1] < 0 := by
  induction l with
  | nil => simp [riseB]
  | cons a l ih =>
    cases l with
    | nil => simp [riseB]
    | cons b l =>
      rw [riseB, Bool.and_eq_true, decide_eq_true_eq, ih]
      constructor
      · rintro ⟨h1, h2⟩ j hj
        cases j with
        | zero => exact h1
        | succ j => exact h2 j (by simpa using hj)
      · intro h
        exact ⟨h 0 (by simp), fun j hj => h (j + 1) (by simpa using hj)⟩
set_option maxRecDepth 100000 in
set_option maxHeartbeats 1000000 in
theorem rising_k (l : List Vl) (w : World) (B n : Nat) (sl : Value) (hB : B ≤ w.heap.size) (hl : ItemsAt w B n sl l) :
    Calls Tryz.prog 72 #[sl] w fun e w' => e = .returned (.bool (riseB l)) ∧ Below w.heap.size w w' := by
  obtain ⟨n, rfl⟩ := hl.pos
  have HA := hide hl
  obtain ⟨aa, ca, rfl, hla⟩ := hl.len
  unfold maxLen at hla
  clear hl
  go_enter Tryz.func72, Tryz.ntmps72
  go_wp2
  go_loopw [3] (fun i wr => ∃ k : Nat, k ≤ l.length ∧ i = .int .i64 ((k : Int) + 1) ∧ (∀ j (h : j + 1 < l.length), j < k → ordV l[j] l[j + 1] < 0) ∧ Below w.heap.size w wr) (fun i _ => l.length + 1 - (intOf i).toNat)
  case atStart => exact ⟨0, Nat.zero_le _, rfl, fun j _ h => by omega, Below.refl _ _⟩
  case round =>
    obtain ⟨k, hk, rfl, hz, hbel⟩ := hrel
    by_cases hlt : k + 1 < l.length
    · have hlr : k < l.length := by omega
      obtain ⟨b1, o1, s1, rfl, g1, p0, p1, p2, p3, p4, p5, _⟩ := (HA.out.below (hbel.mono hB)).item k hlr
      obtain ⟨b2, o2, s2, e2, g2, q0, q1, q2, q3, q4, q5, _⟩ := (HA.out.below (hbel.mono hB)).item (k + 1) hlt
      cases e2
      have HC := hide (fun (q : Wv wr) => order_k n l[k] l[k + 1] q.val B n s1 s2 (by have := hbel.size; have := q.below.size; omega) (p5.below (q.below.mono (by have := hbel.size; omega))) (q5.below (q.below.mono (by have := hbel.size; omega))))
      have HS := hide (fun (h : ordV l[k] l[k + 1] < 0) => (show ∀ j (h : j + 1 < l.length), j < k + 1 → ordV l[j] l[j + 1] < 0 from fun j hj hjk => by
        by_cases e : j = k
        · subst e; exact h
        · exact hz j hj (by omega)))
      have HN := hide (fun (h : ¬ ordV l[k] l[k + 1] < 0) => (show riseB l = false from by
        cases hr : riseB l
        · rfl
        · exact absurd ((riseB_iff l).1 hr k hlt) h))
      have HB2 := hide hbel
      have hk0 : (0 : Int) ≤ (k : Int) := by omega
      have hk1 : (k : Int) + 1 < (l.length : Int) := by omega
      have hk2 : (k : Int) < (l.length : Int) := by omega
      have hk3 : ((k : Int) + 1).toNat = k + 1 := by omega
      have hany := Wv.any wr
      have u0 := fun q : Wv wr => q.cell p0
      have u1 := fun q : Wv wr => q.cell p1
      have u2 := fun q : Wv wr => q.cell p2
      have u3 := fun q : Wv wr => q.cell p3
      have u4 := fun q : Wv wr => q.cell p4
      have v0 := fun q : Wv wr => q.cell q0
      have v1 := fun q : Wv wr => q.cell q1
      have v2 := fun q : Wv wr => q.cell q2
      have v3 := fun q : Wv wr => q.cell q3
      have v4 := fun q : Wv wr => q.cell q4
      obtain ⟨x1, y1, rfl, _⟩ := p5.len
      obtain ⟨x2, y2, rfl, _⟩ := q5.len
      clear hz p5 q5 hbel g1 g2 p0 p1 p2 p3 p4 q0 q1 q2 q3 q4
      generalize l[k].items = xi at *
      generalize l[k + 1].items = yi at *
      generalize l[k] = x at *
      generalize l[k + 1] = y at *
      go_wp2
      refine wp_region_grown (by kernel_rfl) (by kernel_rfl) ?_
      repeat (go_big_quiet_step ((go_at_call 69; exact Wv.calls _ (HC.out _))))
      refine wpQuiet_nil ?_
      intro w1 hw'
      obtain ⟨q, rfl⟩ := hw'
      by_cases hx : ordV x y < 0
      · have hx' : ¬ (0 ≤ ordV x y) := by omega
        go_wp2
        go_roundw
        case rel => exact ⟨k + 1, by omega, by go_num, HS.out hx, trans_v HB2.out q.below⟩
        case measure => simp [intOf]; omega
      · have hx' : 0 ≤ ordV x y := by omega
        go_wp2
        go_ret
        exact ⟨by rw [HN.out hx]; rfl, trans_v HB2.out q.below⟩
    · have hr : riseB l = true := (riseB_iff l).2 fun j hj => hz j hj (by omega)
      have HR := hide hr
      have hk1 : ¬ (k : Int) + 1 < (l.length : Int) := by omega
      clear hz hr
      go_wp2
      go_ret
      exact ⟨by rw [HR.out]; rfl, hbel⟩
end Go.Proofs.YthmhcpghfbifiaaGreatDoor

/- rightWithin and right: whether a value is right. -/
namespace Go.Proofs.YthmhcpghfbifiaaGreatDoor
open Go.RowKit

/-- Item by item, each with the room that those ahead leave. -/
def rwL (f : Vl → Nat → Bool × Nat) : List Vl → Nat → Bool × Nat
  | [], r => (true, r)
  | v :: l, r => if (f v r).1 = true then rwL f l (f v r).2 else (false, (f v r).2)
/-- Right with so many levels and parts, and how many parts are left. -/
def rw : Nat → Vl → Nat → Bool × Nat
  | 0, _, r => (false, r)
  | n + 1, v, r => if r = 0 then (false, 0) else if usedB v = true ∧ goodB v = true then
      (if (rwL (rw n) v.items (r - 1)).1 = true then (v.kind != 7 || riseB v.items, (rwL (rw n) v.items (r - 1)).2) else (false, (rwL (rw n) v.items (r - 1)).2)) else (false, r - 1)
def rightV (v : Vl) : Bool := (rw 16 v 4096).1
theorem rwL_take {f : Vl → Nat → Bool × Nat} {l : List Vl} {k r0 r : Nat} (hk : k < l.length) (h : rwL f (l.take k) r0 = (true, r)) :
    ((f l[k] r).1 = true → rwL f (l.take (k + 1)) r0 = (true, (f l[k] r).2)) ∧ ((f l[k] r).1 = false → rwL f l r0 = (false, (f l[k] r).2)) := by
  induction k generalizing l r0 with
  | zero =>
    cases l with
    | nil => simp at hk
    | cons v l =>
      simp only [List.take_zero, rwL, Prod.mk.injEq, true_and] at h
      subst h
      refine ⟨fun e => ?_, fun e => ?_⟩ <;> simp_all [rwL]
  | succ k ih =>
    cases l with
    | nil => simp at hk
    | cons v l =>
      simp only [List.take_succ_cons, rwL] at h ⊢
      split at h
      · rename_i e
        have := ih (l := l) (by simpa using hk) h
        rw [if_pos e, if_pos e]
        simpa using this
      · simp at h
theorem rwL_le {f : Vl → Nat → Bool × Nat} (hf : ∀ v r, (f v r).2 ≤ r) : ∀ (l : List Vl) (r : Nat), (rwL f l r).2 ≤ r
  | [], r => Nat.le_refl _
  | v :: l, r => by
    rw [rwL]
    have h1 := hf v r
    split
    · have := rwL_le hf l (f v r).2; omega
    · exact h1
theorem rw_le : ∀ (n : Nat) (v : Vl) (r : Nat), (rw n v r).2 ≤ r
  | 0, _, r => Nat.le_refl _
  | n + 1, v, r => by
    have h := rwL_le (rw_le n) v.items (r - 1)
    rw [rw]
    split
    · omega
    · split
      · split
        · show (rwL (rw n) v.items (r - 1)).2 ≤ r; omega
        · show (rwL (rw n) v.items (r - 1)).2 ≤ r; omega
      · show r - 1 ≤ r; omega

theorem Tabs.grown {w w' : World} {r : Nat} (h : Tabs w) (hg : w.grownBy w' (some r)) (h1 : 2 ≠ r) (h2 : 0 ≠ r) : Tabs w' := by
  obtain ⟨t, z, e⟩ := h.pow
  obtain ⟨t', z', e'⟩ := h.lets
  exact ⟨⟨t, z, (hg.block _ h.room.1 (by simpa using h1)).trans e⟩, ⟨t', z', (hg.block _ h.room.2 (by simpa using h2)).trans e'⟩⟩
theorem ItemsAt.grown {w w' : World} {B n r : Nat} {sl : Value} {its : List Vl} (h : ItemsAt w B n sl its) (hg : w.grownBy w' (some r)) (hB : B ≤ r) (hw : B ≤ w.heap.size) : ItemsAt w' B n sl its :=
  h.kept fun b o hb => World.cell?_of_block (hg.block b (by omega) (by simp; omega))
theorem grown_of_below {w w' : World} {r : Option Nat} (h : Below w.heap.size w w') : w.grownBy w' r := ⟨h.os, h.tape, h.output, h.size, fun k hk _ => h.block k hk⟩
theorem grown_more {w w' w'' : World} {r : Option Nat} (h : w.grownBy w' r) (k : w'.grownBy w'' r) : w.grownBy w'' r :=
  ⟨k.os.trans h.os, k.tape.trans h.tape, k.output.trans h.output, Nat.le_trans h.size k.size, fun j hj hne => (k.block j (Nat.lt_of_lt_of_le hj h.size) hne).trans (h.block j hj hne)⟩
theorem grown_self (w : World) (r : Option Nat) : w.grownBy w r := ⟨rfl, rfl, rfl, Nat.le_refl _, fun _ _ _ => rfl⟩
theorem bcellV {W w1 : World} (hb : Below W.heap.size W w1) : (∀ b o, b < W.heap.size → w1.cell? ⟨b, o, none⟩ = W.cell? ⟨b, o, none⟩) ∧ (∀ b o, b < W.heap.size → w1.frozen? ⟨b, o, none⟩ = W.frozen? ⟨b, o, none⟩) :=
  ⟨fun b o h => hb.cell (p := ⟨b, o, none⟩) h, fun b o h => hb.frozen (p := ⟨b, o, none⟩) h⟩
/-- What rightWithin answers with so many levels. -/
def RightC (L : Nat) : Prop := ∀ (v : Vl) (w : World) (B n rb room : Nat) (sl : Value), L ≤ 16 → room ≤ 4096 → B ≤ rb → rb < w.heap.size → 2 < B → 0 < B → Tabs w → v.text.size ≤ 1048576 → ItemsAt w B n sl v.items →
  w.heap[rb]? = some (.cells #[.int .i64 (room : Int)] 3 (0, 0)) →
  Calls Tryz.prog 50 #[.agg (vcells v sl), .int .i64 (L : Int), .pointer (some ⟨rb, 0, none⟩)] w fun e w' => e = .returned (.bool (rw L v room).1) ∧
    w'.heap[rb]? = some (.cells #[.int .i64 ((rw L v room).2 : Int)] 3 (0, 0)) ∧ w.grownBy w' (some rb)
set_option maxRecDepth 100000 in
theorem right_zero : RightC 0 := by
  intro v w B n rb room sl _ _ _ _ _ _ _ _ hs hr
  obtain ⟨a, c, rfl, _⟩ := hs.len
  have HR := hide hr
  clear hs hr
  go_enter Tryz.func50, Tryz.ntmps50
  go_wp2
  go_ret
  exact ⟨rfl, (Below.heap_alloc _ _ _ (Array.getElem?_eq_some_iff.1 HR.out).1).trans HR.out, grown_of_below (alloc_v (Below.refl _ _) _)⟩
theorem rw_room (L : Nat) (v : Vl) : rw (L + 1) v 0 = (false, 0) := by rw [rw, if_pos rfl]
theorem rw_bad (L : Nat) (v : Vl) (r : Nat) (hr : 0 < r) (h : ¬ (usedB v = true ∧ goodB v = true)) : rw (L + 1) v r = (false, r - 1) := by rw [rw, if_neg (by omega), if_neg h]
theorem rw_no (L : Nat) (v : Vl) (r : Nat) (hr : 0 < r) (h : usedB v = true ∧ goodB v = true) {r' : Nat} (hl : rwL (rw L) v.items (r - 1) = (false, r')) : rw (L + 1) v r = (false, r') := by
  rw [rw, if_neg (by omega), if_pos h, hl]
  rfl
theorem rw_yes (L : Nat) (v : Vl) (r : Nat) (hr : 0 < r) (h : usedB v = true ∧ goodB v = true) {r' : Nat} (hl : rwL (rw L) v.items (r - 1) = (true, r')) : rw (L + 1) v r = (v.kind != 7 || riseB v.items, r') := by
  rw [rw, if_neg (by omega), if_pos h, hl]
  rfl
theorem cells_at {w : World} {b : Nat} {cs : Array Value} {t : TypeId} (h : w.heap[b]? = some (.cells cs t (0, 0))) (i : Nat) (x : Value) (hx : cs[i]? = some x) : w.cell? ⟨b, i, none⟩ = some x := by
  simp only [World.cell?]
  rw [h]
  exact hx
theorem frozen_at {w : World} {b : Nat} {cs : Array Value} {t : TypeId} (h : w.heap[b]? = some (.cells cs t (0, 0))) (i : Nat) : w.frozen? ⟨b, i, none⟩ = false := by
  simp only [World.frozen?]
  rw [h]
  simp
set_option maxRecDepth 100000 in
set_option maxHeartbeats 4000000 in
theorem right_step {L : Nat} (hL : RightC L) : RightC (L + 1) := by
  intro v w B n rb room sl h16 hroom hBr hrb hg1 hg2 hT htx hs hr
  obtain ⟨n, rfl⟩ := hs.pos
  have HS := hide hs
  obtain ⟨a, c, rfl, hla⟩ := hs.len
  unfold maxLen at hla
  have r0 := cells_at hr 0 _ rfl
  have r1 := frozen_at hr 0
  obtain ⟨lv, hlv⟩ : ∃ lv : Int, ((L + 1 : Nat) : Int) = lv := ⟨_, rfl⟩
  have lv0 : (lv == 0) = false := by simp; omega
  have lv1 : lv - 1 = (L : Int) := by omega
  rw [hlv]
  by_cases hr0 : room = 0
  · subst hr0
    rw [rw_room]
    have HR := hide hr
    clear hs hr hL hlv
    go_enter Tryz.func50, Tryz.ntmps50
    go_wp2
    go_ret
    exact ⟨rfl, (Below.heap_alloc _ _ _ hrb).trans HR.out, grown_of_below (alloc_v (Below.refl _ _) _)⟩
  · have hr00 : ((room : Int) == 0) = false := by simp; omega
    have hrp : 0 < room := by omega
    have ne : w.heap.size ≠ rb := by omega
    obtain ⟨W2, hW2⟩ : ∃ W2, (w.alloc (.cells (vcells v (.slice a v.items.length c)) 46)).setCell ⟨rb, 0, none⟩ (.int .i64 ((room : Int) - 1)) = W2 := ⟨_, rfl⟩
    have hrA : (w.alloc (.cells (vcells v (.slice a v.items.length c)) 46)).heap[rb]? = some (.cells #[.int .i64 (room : Int)] 3 (0, 0)) := (Below.heap_alloc _ _ _ hrb).trans hr
    have hr2 : W2.heap[rb]? = some (.cells #[.int .i64 ((room - 1 : Nat) : Int)] 3 (0, 0)) := by
      rw [← hW2]
      have := Boxed.set (.int .i64 ((room : Int) - 1)) (show Boxed (w.alloc (.cells (vcells v (.slice a v.items.length c)) 46)) rb 3 (.int .i64 (room : Int)) from hrA)
      rw [show ((room - 1 : Nat) : Int) = (room : Int) - 1 by omega]
      exact this
    have G2 : w.grownBy W2 (some rb) := by rw [← hW2]; exact grown_more (grown_of_below (alloc_v (Below.refl _ _) _)) (grownBy_setCell' _ _ _)
    have box2 : W2.heap[w.heap.size]? = some (.cells (vcells v (.slice a v.items.length c)) 46 (0, 0)) := by
      rw [← hW2]
      exact (Below.heap_setCell _ _ _ _ ne).trans (World.alloc_heap_new _ _)
    have hT2 : Tabs W2 := hT.grown G2 (by omega) (by omega)
    have HU := hide (fieldsUsed_k v a c W2)
    have HF := hide (fun (W : World) (b : Below W2.heap.size W2 W) => fieldsRight_k v a v.items.length c (by omega) W (hT2.below b))
    have x0 := cells_at box2 0 _ rfl
    have x1 := cells_at box2 1 _ rfl
    have x2 := cells_at box2 2 _ rfl
    have x3 := cells_at box2 3 _ rfl
    have x4 := cells_at box2 4 _ rfl
    have z2 : w.heap.size < W2.heap.size := (Array.getElem?_eq_some_iff.1 box2).1
    have HBX := hide box2
    have HR2 := hide hr2
    have HG2 := hide G2
    have HT2 := hide hT2
    have HR := hide hr
    clear hs hr hrA hr2 G2 box2 hT2 hT
    cases hu : usedB v
    · have HE := hide (rw_bad L v room hrp (by simp [hu]))
      rw [hu] at HU
      go_enter Tryz.func50, Tryz.ntmps50
      go_wp2_with (go_at_call 70; refine HU.out.mono ?_; clear HU; rintro e w3 ⟨rfl, b3⟩)
      go_ret
      refine ⟨by rw [HE.out]; rfl, ?_, grown_more HG2.out (grown_of_below b3)⟩
      rw [HE.out]
      exact (b3.block _ (Array.getElem?_eq_some_iff.1 HR2.out).1).trans HR2.out
    · rw [hu] at HU
      cases hf : goodB v
      · have HE := hide (rw_bad L v room hrp (by simp [hf]))
        rw [hf] at HF
        go_enter Tryz.func50, Tryz.ntmps50
        go_wp2_with (first
          | (go_at_call 70; refine HU.out.mono ?_; clear HU; rintro e w3 ⟨rfl, b3⟩; have hc3 := (bcellV b3).1)
          | (go_at_call 71; refine (HF.out _ b3).mono ?_; clear HF; rintro e w4 ⟨rfl, b4⟩))
        go_ret
        have b := trans_v b3 b4
        refine ⟨by rw [HE.out]; rfl, ?_, grown_more HG2.out (grown_of_below b)⟩
        rw [HE.out]
        exact (b.block _ (Array.getElem?_eq_some_iff.1 HR2.out).1).trans HR2.out
      · rw [hf] at HF
        have HUG : Hid (usedB v = true ∧ goodB v = true) := hide ⟨hu, hf⟩
        go_enter Tryz.func50, Tryz.ntmps50
        go_wp2_with (first
          | (go_at_call 70; refine HU.out.mono ?_; clear HU; rintro e w3 ⟨rfl, b3⟩; have hc3 := (bcellV b3).1)
          | (go_at_call 71; refine (HF.out _ b3).mono ?_; clear HF; rintro e w4 ⟨rfl, b4⟩; have hc4 := (bcellV (trans_v b3 b4)).1))
        have bb := trans_v b3 b4
        have box4 : w4.heap[w.heap.size]? = some (.cells (vcells v (.slice a v.items.length c)) 46 (0, 0)) := (bb.block _ z2).trans HBX.out
        have r4 := (bb.block _ (Array.getElem?_eq_some_iff.1 HR2.out).1).trans HR2.out
        have G4 := grown_more HG2.out (grown_of_below (r := some rb) bb)
        have T4 := HT2.out.below bb
        have HB4 := hide box4
        have HG4 := hide G4
        have HT4 := hide T4
        have HLL := hide hL
        have hBw : B ≤ w.heap.size := by omega
        have lvb : 1 ≤ lv := by omega
        have lvc : lv ≤ 17 := by omega
        clear b3 b4 bb hc3 hc4 x0 x1 x2 x3 x4 z2 HBX HR2 HG2 HT2 HR hW2 box4 G4 T4 hL hu hf r0 r1 lv0 hr00 hlv
        go_loopw [33] (fun i wr => ∃ k r : Nat, k ≤ v.items.length ∧ i = .int .i64 k ∧ rwL (rw L) (v.items.take k) (room - 1) = (true, r) ∧ wr.heap[rb]? = some (.cells #[.int .i64 (r : Int)] 3 (0, 0)) ∧ w4.grownBy wr (some rb)) (fun i _ => v.items.length - (intOf i).toNat)
        case atStart => exact ⟨0, room - 1, Nat.zero_le _, rfl, rfl, r4, grown_self _ _⟩
        case round =>
          clear r4
          obtain ⟨k, r, hk, rfl, hz, hrr, hgr⟩ := hrel
          have hrle : r ≤ room - 1 := by have := rwL_le (rw_le L) (v.items.take k) (room - 1); rw [hz] at this; exact this
          have gz := HG4.out.size
          have gy := hgr.size
          have Tr : Tabs wr := HT4.out.grown hgr (by omega) (by omega)
          by_cases hlt : k < v.items.length
          · obtain ⟨b1, o1, s1, rfl, g1, p0, p1, p2, p3, p4, p5, p6⟩ := (HS.out.grown (grown_more HG4.out hgr) hBr hBw).item k hlt
            have l1 : b1 < wr.heap.size := by omega
            obtain ⟨bo, r', hp⟩ : ∃ bo r', rw L v.items[k] r = (bo, r') := ⟨_, _, rfl⟩
            have HZ := hide (rwL_take (f := rw L) hlt hz)
            have HC := hide (fun (W : World) (b : Below wr.heap.size wr W) => HLL.out v.items[k] W B n rb r s1 (by omega) (by omega) hBr (by have := b.size; omega) hg1 hg2 (Tr.below b) p6.1 (p5.below (b.mono (by omega))) ((b.block _ (by omega)).trans hrr))
            rw [hp] at HC HZ
            obtain ⟨x1, y1, rfl, _⟩ := p5.len
            have HGR := hide hgr
            clear hz p5 p6 hgr hrr Tr hp g1 gz gy
            generalize v.items[k].items = xi at *
            generalize v.items[k] = x at *
            cases bo
            · have HE := hide (rw_no L v room hrp HUG.out (HZ.out.2 rfl))
              go_wp2_with (go_at_call 50; refine (HC.out _ (alloc_v (Below.refl _ _) _)).mono ?_; clear HC; rintro e w5 ⟨rfl, r5, g5⟩; have R5 := hide r5; have G5 := hide g5; clear r5 g5)
              go_ret
              refine ⟨by rw [HE.out]; rfl, by rw [HE.out]; exact R5.out, grown_more (grown_more HG4.out HGR.out) (grown_more (grown_of_below (alloc_v (Below.refl _ _) _)) G5.out)⟩
            · go_wp2_with (go_at_call 50; refine (HC.out _ (alloc_v (Below.refl _ _) _)).mono ?_; clear HC; rintro e w5 ⟨rfl, r5, g5⟩; have R5 := hide r5; have G5 := hide g5; clear r5 g5)
              go_roundw
              case rel => exact ⟨k + 1, r', by omega, by go_num, HZ.out.1 (by trivial), R5.out, grown_more HGR.out (grown_more (grown_of_below (alloc_v (Below.refl _ _) _)) G5.out)⟩
              case measure => simp [intOf]; omega
          · rw [List.take_of_length_le (by omega)] at hz
            have HE := hide (rw_yes L v room hrp HUG.out hz)
            have bx : wr.heap[w.heap.size]? = some (.cells (vcells v (.slice a v.items.length c)) 46 (0, 0)) := (hgr.block _ (Array.getElem?_eq_some_iff.1 HB4.out).1 (by simp; omega)).trans HB4.out
            have x0 := cells_at bx 0 _ rfl
            have x4 := cells_at bx 4 _ rfl
            have HRI := hide (rising_k v.items wr B (n + 1) (.slice a v.items.length c) (by omega) (HS.out.grown (grown_more HG4.out hgr) hBr hBw))
            have HGR := hide hgr
            have HRR := hide hrr
            clear hz hgr hrr Tr bx gz gy
            by_cases h7 : v.kind = 7
            · have h7b : (v.kind != 7) = false := by simp [h7]
              go_wp2_with (go_at_call 72; refine HRI.out.mono ?_; clear HRI; rintro e w5 ⟨rfl, b5⟩; have B5 := hide b5; clear b5)
              go_ret
              refine ⟨by rw [HE.out, h7b]; rfl, by rw [HE.out]; exact (B5.out.block _ (Array.getElem?_eq_some_iff.1 HRR.out).1).trans HRR.out, grown_more (grown_more HG4.out HGR.out) (grown_of_below B5.out)⟩
            · have h7b : (v.kind != 7) = true := by simp [h7]
              go_wp2
              go_ret
              refine ⟨by rw [HE.out, h7b]; rfl, by rw [HE.out]; exact HRR.out, grown_more HG4.out HGR.out⟩
theorem rightWithin_k : ∀ L, RightC L
  | 0 => right_zero
  | L + 1 => right_step (rightWithin_k L)
set_option maxRecDepth 100000 in
theorem right_k (v : Vl) (w : World) (n : Nat) (sl : Value) (hT : Tabs w) (htx : v.text.size ≤ 1048576) (hs : ItemsAt w w.heap.size n sl v.items) :
    Calls Tryz.prog 26 #[.agg (vcells v sl)] w fun e w' => e = .returned (.bool (rightV v)) ∧ Below w.heap.size w w' := by
  obtain ⟨W, hW⟩ : ∃ W, (w.alloc (.cells (vcells v sl) 46)).alloc (.cells #[.int .i64 4096] 3) = W := ⟨_, rfl⟩
  have bW : Below w.heap.size w W := by rw [← hW]; exact alloc_v (alloc_v (Below.refl _ _) _) _
  have e1 : W.heap[w.heap.size]? = some (.cells (vcells v sl) 46 (0, 0)) := by rw [← hW]; exact (Below.heap_alloc _ _ _ (by simp)).trans (World.alloc_heap_new w _)
  have e2 : W.heap[w.heap.size + 1]? = some (.cells #[.int .i64 4096] 3 (0, 0)) := by rw [← hW]; have := World.alloc_heap_new (w.alloc (.cells (vcells v sl) 46)) (.cells #[.int .i64 4096] 3); rwa [World.size_alloc] at this
  have zW : w.heap.size + 1 < W.heap.size := (Array.getElem?_eq_some_iff.1 e2).1
  have H := hide (rightWithin_k 16 v W w.heap.size n (w.heap.size + 1) 4096 sl (Nat.le_refl _) (Nat.le_refl _) (by omega) zW hT.room.1 hT.room.2 (hT.below bW) htx (hs.below bW) e2)
  have x0 := cells_at e1 0 _ rfl
  have x1 := cells_at e1 1 _ rfl
  have x2 := cells_at e1 2 _ rfl
  have x3 := cells_at e1 3 _ rfl
  have x4 := cells_at e1 4 _ rfl
  obtain ⟨a, c, rfl, _⟩ := hs.len
  clear hs e1 e2 hT
  go_enter Tryz.func26, Tryz.ntmps26
  go_wp2_with (go_at_call 50; refine H.out.mono ?_; clear H; rintro e w2 ⟨rfl, _, g2⟩)
  go_ret
  exact ⟨rfl, bW.grown g2 (by have := bW.size; omega) (fun k hk => by cases hk; omega)⟩
end Go.Proofs.YthmhcpghfbifiaaGreatDoor
