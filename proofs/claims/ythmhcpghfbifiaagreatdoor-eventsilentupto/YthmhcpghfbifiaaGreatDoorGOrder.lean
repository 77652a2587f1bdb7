/- cmp.Compare of kinds, numbers and texts; cmp.Or. -/
import Derived.Test.YthmhcpghfbifiaaGreatDoorGVals
import Derived.Laws.Cover1
import Derived.RangeFuncNested
namespace Go.Proofs.YthmhcpghfbifiaaGreatDoor
open Go.RowKit

theorem cmpKind_k (a b : Int) (w : World) : Calls Tryz.prog 94 #[.int .i64 a, .int .i64 b] w fun e w' => e = .returned (.int .i64 (cmpI a b)) ∧ Gw w w' := by
  unfold cmpI
  by_cases h1 : a < b
  · rw [if_pos h1]
    go_enter Tryz.func94, Tryz.ntmps94
    go_wp2
    go_ret
    exact ⟨rfl, Gw.refl _⟩
  · rw [if_neg h1]
    by_cases h2 : b < a
    · rw [if_pos h2]
      go_enter Tryz.func94, Tryz.ntmps94
      go_wp2
      go_ret
      exact ⟨rfl, Gw.refl _⟩
    · rw [if_neg h2]
      go_enter Tryz.func94, Tryz.ntmps94
      go_wp2
      go_ret
      exact ⟨rfl, Gw.refl _⟩
theorem cmp64_k (a b : Int) (w : World) : Calls Tryz.prog 95 #[.int .i64 a, .int .i64 b] w fun e w' => e = .returned (.int .i64 (cmpI a b)) ∧ Gw w w' := by
  unfold cmpI
  by_cases h1 : a < b
  · rw [if_pos h1]
    go_enter Tryz.func95, Tryz.ntmps95
    go_wp2
    go_ret
    exact ⟨rfl, Gw.refl _⟩
  · rw [if_neg h1]
    by_cases h2 : b < a
    · rw [if_pos h2]
      go_enter Tryz.func95, Tryz.ntmps95
      go_wp2
      go_ret
      exact ⟨rfl, Gw.refl _⟩
    · rw [if_neg h2]
      go_enter Tryz.func95, Tryz.ntmps95
      go_wp2
      go_ret
      exact ⟨rfl, Gw.refl _⟩
theorem cmpInt_k (a b : Int) (w : World) : Calls Tryz.prog 130 #[.int .i64 a, .int .i64 b] w fun e w' => e = .returned (.int .i64 (cmpI a b)) ∧ Gw w w' := by
  unfold cmpI
  by_cases h1 : a < b
  · rw [if_pos h1]
    go_enter Tryz.func130, Tryz.ntmps130
    go_wp2
    go_ret
    exact ⟨rfl, Gw.refl _⟩
  · rw [if_neg h1]
    by_cases h2 : b < a
    · rw [if_pos h2]
      go_enter Tryz.func130, Tryz.ntmps130
      go_wp2
      go_ret
      exact ⟨rfl, Gw.refl _⟩
    · rw [if_neg h2]
      go_enter Tryz.func130, Tryz.ntmps130
      go_wp2
      go_ret
      exact ⟨rfl, Gw.refl _⟩
theorem cmpText_k (a b : ByteArray) (w : World) : Calls Tryz.prog 96 #[.string a, .string b] w fun e w' => e = .returned (.int .i64 (cmpS a b)) ∧ Gw w w' := by
  unfold cmpS
  cases h1 : Op.bytesLess a.toList b.toList
  · cases h2 : (a.toList == b.toList)
    · go_enter Tryz.func96, Tryz.ntmps96
      go_wp2
      go_ret
      exact ⟨rfl, Gw.refl _⟩
    · go_enter Tryz.func96, Tryz.ntmps96
      go_wp2
      go_ret
      exact ⟨rfl, Gw.refl _⟩
  · go_enter Tryz.func96, Tryz.ntmps96
    go_wp2
    go_ret
    exact ⟨rfl, Gw.refl _⟩

theorem orI_take {xs : List Int} {k : Nat} (hk : k < xs.length) (h : orI (xs.take k) = 0 ∧ ∀ x ∈ xs.take k, x = 0) : (xs[k] = 0 → orI (xs.take (k + 1)) = 0 ∧ ∀ x ∈ xs.take (k + 1), x = 0) ∧ (xs[k] ≠ 0 → orI xs = xs[k]) := by
  induction k generalizing xs with
  | zero =>
    cases xs with
    | nil => simp at hk
    | cons x l => refine ⟨fun e => ?_, fun e => ?_⟩ <;> simp_all [orI]
  | succ k ih =>
    cases xs with
    | nil => simp at hk
    | cons x l =>
      have hx : x = 0 := h.2 x (by simp)
      subst hx
      have := ih (xs := l) (by simpa using hk) ⟨by simpa [orI] using h.1, fun x hx => h.2 x (by simp [hx])⟩
      simpa [orI] using this
set_option maxRecDepth 100000 in
theorem or_ints (xs : List Int) (g c : Nat) (w : World) (hl : xs.length ≤ 1000) (hc : ∀ j (h : j < xs.length), w.cell? ⟨g, j, none⟩ = some (.int .i64 xs[j])) :
    Calls Tryz.prog 93 #[.slice (some ⟨g, 0, none⟩) xs.length c] w fun e w' => e = .returned (.int .i64 (orI xs)) ∧ Gw w w' := by
  go_enter Tryz.func93, Tryz.ntmps93
  go_wp2
  go_loop [8] (fun i => ∃ k : Nat, k ≤ xs.length ∧ i = .int .i64 k ∧ orI (xs.take k) = 0 ∧ ∀ x ∈ xs.take k, x = 0) (fun i => xs.length - (intOf i).toNat)
  case atStart => exact ⟨0, Nat.zero_le _, rfl, rfl, fun x hx => by simp at hx⟩
  case round =>
    obtain ⟨k, hk, rfl, hz, ha⟩ := hrel
    by_cases hlt : k < xs.length
    · have hck := hc k hlt
      have H := hide (orI_take hlt ⟨hz, ha⟩)
      have HC := hide hc
      clear hc hz ha
      generalize xs[k] = x at *
      by_cases hx : x = 0
      · subst hx
        go_wp2
        go_round
        case rel => exact ⟨k + 1, by omega, by go_num, (H.out.1 rfl).1, (H.out.1 rfl).2⟩
        case measure => simp [intOf]; omega
      · have hxb : (x != 0) = true := by simp [hx]
        go_wp2
        go_ret
        exact ⟨by rw [H.out.2 hx]; rfl, Gw.refl _⟩
    · have e : xs.take k = xs := List.take_of_length_le (by omega)
      rw [e] at hz
      have HZ := hide hz
      clear hz ha hc
      go_wp2
      go_ret
      exact ⟨by rw [HZ.out]; rfl, Gw.refl _⟩
end Go.Proofs.YthmhcpghfbifiaaGreatDoor

/- order: two values, item by item. -/
namespace Go.Proofs.YthmhcpghfbifiaaGreatDoor
open Go.RowKit

/-- What order answers of two values, wherever they lie. -/
def OrderG (n : Nat) : Prop := ∀ (a b : Vl) (w : World) (B m : Nat) (sa sb : Value), B ≤ w.heap.size → ItemsAt w B n sa a.items → ItemsAt w B m sb b.items →
  Calls Tryz.prog 69 #[.agg (vcells a sa), .agg (vcells b sb)] w fun e w' => e = .returned (.int .i64 (ordV a b)) ∧ Gw w w'

set_option maxRecDepth 100000 in
set_option maxHeartbeats 1000000 in
theorem compareFunc_k {n : Nat} (hO : OrderG n) (l r : List Vl) (w : World) (B m : Nat) (sa sb : Value) (hB : B ≤ w.heap.size) (ha : ItemsAt w B (n + 1) sa l) (hb : ItemsAt w B m sb r) (hl : l.length = r.length) :
    Calls Tryz.prog 131 #[sa, sb, .func (.func 69) #[] #[]] w fun e w' => e = .returned (.int .i64 (ordL l r)) ∧ Gw w w' := by
  obtain ⟨m, rfl⟩ := hb.pos
  have HA := hide ha
  have HB := hide hb
  have HO := hide hO
  obtain ⟨aa, ca, rfl, hla⟩ := ha.len
  obtain ⟨ab, cb, rfl, hlb⟩ := hb.len
  unfold maxLen at hla hlb
  have HL := hide hl
  clear ha hb hO hl
  go_enter Tryz.func131, Tryz.ntmps131
  go_wp2
  go_loopw [13] (fun i wr => ∃ k : Nat, k ≤ l.length ∧ i = .int .i64 k ∧ ordL (l.take k) (r.take k) = 0 ∧ Gw w wr) (fun i _ => l.length - (intOf i).toNat)
  case atStart => exact ⟨0, Nat.zero_le _, rfl, ordL_nil _, Gw.refl _⟩
  case round =>
    obtain ⟨k, hk, rfl, hz, hbel⟩ := hrel
    by_cases hlt : k < l.length
    · have hlr : k < r.length := by have := HL.out; omega
      obtain ⟨b1, o1, s1, rfl, g1, p0, p1, p2, p3, p4, p5, _⟩ := (HA.out.below (hbel.below.mono hB)).item k hlt
      obtain ⟨b2, o2, s2, rfl, g2, q0, q1, q2, q3, q4, q5, _⟩ := (HB.out.below (hbel.below.mono hB)).item k hlr
      have l2 : b2 < wr.heap.size := by have := hbel.below.size; omega
      clear g1 g2
      have HZ := hide (fun (h : ordV l[k] r[k] = 0) => (ordL_take hlt hlr hz).trans h)
      have HN := hide (fun (h : ordV l[k] r[k] ≠ 0) => (ordL_part (k := k + 1) (l := l) (r := r) (by rw [ordL_take hlt hlr hz]; exact h)).trans (ordL_take hlt hlr hz))
      have HC := hide (fun (W : World) (hW : Below wr.heap.size wr W) => HO.out l[k] r[k] W B m s1 s2 (by have := hbel.below.size; have := hW.size; omega) (p5.below (hW.mono (by have := hbel.below.size; omega))) (q5.below (hW.mono (by have := hbel.below.size; omega))))
      have HB2 := hide hbel
      obtain ⟨x1, y1, rfl, _⟩ := p5.len
      obtain ⟨x2, y2, rfl, _⟩ := q5.len
      clear hz p5 q5 hbel
      generalize l[k].items = xi at *
      generalize r[k].items = yi at *
      generalize l[k] = x at *
      generalize r[k] = y at *
      by_cases hx : ordV x y = 0
      · go_wp2_with (go_at_call 69; refine (HC.out _ (((Below.refl _ _).alloc (Nat.le_refl _) _).alloc (by simp) _)).mono ?_; clear HC; rintro e w2 ⟨rfl, b2⟩; have B2 := hide b2; clear b2)
        go_roundw
        case rel => exact ⟨k + 1, by omega, by go_num, HZ.out hx, ((HB2.out.alloc _).alloc _).trans B2.out⟩
        case measure => simp [intOf]; omega
      · have hxb : (ordV x y != 0) = true := by simp [hx]
        go_wp2_with (go_at_call 69; refine (HC.out _ (((Below.refl _ _).alloc (Nat.le_refl _) _).alloc (by simp) _)).mono ?_; clear HC; rintro e w2 ⟨rfl, b2⟩; have B2 := hide b2; clear b2)
        go_ret
        exact ⟨by rw [HN.out hx]; rfl, ((HB2.out.alloc _).alloc _).trans B2.out⟩
    · rw [List.take_of_length_le (by omega), List.take_of_length_le (by have := HL.out; omega)] at hz
      have HZ := hide hz
      have hle : ¬ (l.length : Int) < (r.length : Int) := by have := HL.out; omega
      clear hz
      go_wp2
      go_ret
      exact ⟨by rw [HZ.out]; rfl, hbel⟩

set_option maxRecDepth 100000 in
theorem orderItems_k {n : Nat} (hO : OrderG n) (l r : List Vl) (w : World) (B m : Nat) (sa sb : Value) (hB : B ≤ w.heap.size) (ha : ItemsAt w B (n + 1) sa l) (hb : ItemsAt w B m sb r) :
    Calls Tryz.prog 97 #[sa, sb] w fun e w' => e = .returned (.int .i64 (ordI l r)) ∧ Gw w w' := by
  unfold ordI
  have HC := hide (fun (W : World) (hW : Below w.heap.size w W) (hl : l.length = r.length) => compareFunc_k hO l r W B m sa sb (by have := hW.size; omega) (ha.below (hW.mono hB)) (hb.below (hW.mono hB)) hl)
  obtain ⟨aa, ca, rfl, hla⟩ := ha.len
  obtain ⟨ab, cb, rfl, hlb⟩ := hb.len
  unfold maxLen at hla hlb
  clear ha hb hO
  by_cases h0 : cmpI l.length r.length = 0
  · have hl : l.length = r.length := by unfold cmpI at h0; split at h0 <;> (try split at h0) <;> omega
    rw [if_pos h0]
    have HL := hide hl
    clear hl
    have HI := hide (cmpInt_k l.length r.length)
    rw [h0] at HI
    clear h0
    go_enter Tryz.func97, Tryz.ntmps97
    go_wp2_with (first
      | (go_at_call 130; refine (HI.out _).mono ?_; clear HI; rintro e w1 ⟨rfl, b1⟩)
      | (go_at_call 131; refine (HC.out _ b1.below HL.out).mono ?_; clear HC; rintro e w2 ⟨rfl, b2⟩))
    go_ret
    exact ⟨rfl, b1.trans b2⟩
  · rw [if_neg h0]
    have hxb : (cmpI l.length r.length != 0) = true := by simp [h0]
    have HI := hide (cmpInt_k l.length r.length)
    go_enter Tryz.func97, Tryz.ntmps97
    go_wp2_with (go_at_call 130; refine (HI.out _).mono ?_; clear HI; rintro e w1 ⟨rfl, b1⟩)
    go_ret
    exact ⟨rfl, b1⟩

theorem or5 (W : World) (x1 x2 x3 x4 x5 : Int) : Calls Tryz.prog 93 #[.slice (some ⟨W.heap.size, 0, none⟩) 5 5] (W.alloc (.cells #[.int .i64 x1, .int .i64 x2, .int .i64 x3, .int .i64 x4, .int .i64 x5] 3)) fun e w' => e = .returned (.int .i64 (orI [x1, x2, x3, x4, x5])) ∧ Gw W w' := by
  have eh := World.alloc_heap_new W (.cells #[.int .i64 x1, .int .i64 x2, .int .i64 x3, .int .i64 x4, .int .i64 x5] 3)
  refine (or_ints [x1, x2, x3, x4, x5] W.heap.size 5 _ (by simp) (fun j h => ?_)).mono fun e w' ⟨h1, h2⟩ => ⟨h1, ((Gw.refl _).alloc _).trans h2⟩
  simp only [World.cell?]
  rw [eh]
  have hj : j = 0 ∨ j = 1 ∨ j = 2 ∨ j = 3 ∨ j = 4 := by simp at h; omega
  rcases hj with rfl | rfl | rfl | rfl | rfl <;> rfl
set_option maxRecDepth 100000 in
set_option maxHeartbeats 2000000 in
theorem order_step {n : Nat} (hO : OrderG n) : OrderG (n + 1) := by
  intro a b w B m sa sb hB ha hb
  obtain ⟨W, hW⟩ : ∃ W, (w.alloc (.cells (vcells a sa) 46)).alloc (.cells (vcells b sb) 46) = W := ⟨_, rfl⟩
  have bW : Gw w W := by rw [← hW]; exact ((Gw.refl _).alloc _).alloc _
  have e1 : W.heap[w.heap.size]? = some (.cells (vcells a sa) 46 (0, 0)) := by rw [← hW]; exact (Below.heap_alloc _ _ _ (by simp)).trans (World.alloc_heap_new w _)
  have e2 : W.heap[w.heap.size + 1]? = some (.cells (vcells b sb) 46 (0, 0)) := by rw [← hW]; have := World.alloc_heap_new (w.alloc (.cells (vcells a sa) 46)) (.cells (vcells b sb) 46); rwa [World.size_alloc] at this
  have d0 := fun q : Wg W => q.cell (show W.cell? ⟨w.heap.size, 0, none⟩ = some (.int .i64 a.kind) by simp [World.cell?, e1])
  have d1 := fun q : Wg W => q.cell (show W.cell? ⟨w.heap.size, 1, none⟩ = some (.int .i64 a.int) by simp [World.cell?, e1])
  have d2 := fun q : Wg W => q.cell (show W.cell? ⟨w.heap.size, 2, none⟩ = some (.int .i64 a.im) by simp [World.cell?, e1])
  have d3 := fun q : Wg W => q.cell (show W.cell? ⟨w.heap.size, 3, none⟩ = some (.string a.text) by simp [World.cell?, e1])
  have d4 := fun q : Wg W => q.cell (show W.cell? ⟨w.heap.size, 4, none⟩ = some sa by simp [World.cell?, e1])
  have c0 := fun q : Wg W => q.cell (show W.cell? ⟨w.heap.size + 1, 0, none⟩ = some (.int .i64 b.kind) by simp [World.cell?, e2])
  have c1 := fun q : Wg W => q.cell (show W.cell? ⟨w.heap.size + 1, 1, none⟩ = some (.int .i64 b.int) by simp [World.cell?, e2])
  have c2 := fun q : Wg W => q.cell (show W.cell? ⟨w.heap.size + 1, 2, none⟩ = some (.int .i64 b.im) by simp [World.cell?, e2])
  have c3 := fun q : Wg W => q.cell (show W.cell? ⟨w.heap.size + 1, 3, none⟩ = some (.string b.text) by simp [World.cell?, e2])
  have c4 := fun q : Wg W => q.cell (show W.cell? ⟨w.heap.size + 1, 4, none⟩ = some sb by simp [World.cell?, e2])
  have HI := hide (fun q : Wg W => orderItems_k hO a.items b.items q.val B m sa sb (by have := (bW.trans q.gw).below.size; omega) (ha.below ((bW.trans q.gw).below.mono hB)) (hb.below ((bW.trans q.gw).below.mono hB)))
  have hany := Wg.any W
  have HE := hide (ordV_is a b)
  clear e1 e2 ha hb hO
  obtain ⟨k1, i1, m1, t1, l1⟩ := a
  obtain ⟨k2, i2, m2, t2, l2⟩ := b
  simp only at *
  go_enter Tryz.func69, Tryz.ntmps69
  go_wp2
  refine wp_region_gw_tail 25 (by kernel_rfl) (by kernel_rfl) ?_
  simp only [List.take_succ_cons, List.take_zero, List.drop_succ_cons, List.drop_zero]
  repeat (go_big_quiet_step ((first
    | (go_at_call 94; exact Wg.calls _ (cmpKind_k _ _ _))
    | (go_at_call 95; exact Wg.calls _ (cmp64_k _ _ _))
    | (go_at_call 96; exact Wg.calls _ (cmpText_k _ _ _))
    | (go_at_call 97; exact Wg.calls _ (HI.out _)))))
  refine wpQuiet_nil ?_
  intro w1 hw'
  obtain ⟨q, rfl⟩ := hw'
  clear d0 d1 d2 d3 d4 c0 c1 c2 c3 c4 HI hany
  go_wp2_with (go_at_call 93; refine (or5 _ _ _ _ _ _).mono ?_; rintro e w2 ⟨rfl, b2⟩)
  go_ret
  exact ⟨by rw [HE.out]; rfl, (bW.trans q.gw).trans b2⟩
theorem orderG_k : ∀ n, OrderG n
  | 0 => fun _ _ _ _ _ _ _ _ h _ => h.elim
  | n + 1 => order_step (orderG_k n)
/-- What order answers of two values; what was there stays as it was. -/
def OrderC (n : Nat) : Prop := ∀ (a b : Vl) (w : World) (B m : Nat) (sa sb : Value), B ≤ w.heap.size → ItemsAt w B n sa a.items → ItemsAt w B m sb b.items →
  Calls Tryz.prog 69 #[.agg (vcells a sa), .agg (vcells b sb)] w fun e w' => e = .returned (.int .i64 (ordV a b)) ∧ Below w.heap.size w w'
theorem order_k (n : Nat) : OrderC n := fun a b w B m sa sb h1 h2 h3 => (orderG_k n a b w B m sa sb h1 h2 h3).mono fun _ _ ⟨e, g⟩ => ⟨e, g.below⟩
end Go.Proofs.YthmhcpghfbifiaaGreatDoor
