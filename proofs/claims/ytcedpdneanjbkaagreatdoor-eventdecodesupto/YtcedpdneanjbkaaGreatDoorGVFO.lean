/- A value is right in the program's words just if it is in the document's. -/
import Derived.Test.YtcedpdneanjbkaaGreatDoorGFld
namespace Go.Proofs.YtcedpdneanjbkaaGreatDoor

/-- Each part is in its form; n bounds how deep. -/
def formF : Nat → Vl → Bool
  | 0, _ => false
  | n + 1, v => (usedB v && goodB v) && (v.items.all (formF n) && (v.kind != 7 || riseB v.items))
def formV (v : Vl) : Bool := formF v.size v
theorem all_congr {f g : Vl → Bool} : ∀ {l : List Vl}, (∀ x ∈ l, f x = g x) → l.all f = l.all g
  | [], _ => rfl
  | x :: l, h => by rw [List.all_cons, List.all_cons, h x (by simp), all_congr fun y hy => h y (by simp [hy])]
theorem formF_more (n : Nat) : ∀ (m : Nat) (v : Vl), v.size ≤ n → n ≤ m → formF m v = formF n v := by
  induction n with
  | zero =>
    intro m v h _
    have := v.size_pos
    omega
  | succ n ih =>
    intro m v h hm
    cases m with
    | zero => omega
    | succ m =>
      rw [formF, formF, all_congr fun x hx => ih m x (by have := Vl.size_item hx; omega) (by omega)]
theorem formV_eq (v : Vl) : formV v = ((usedB v && goodB v) && (v.items.all formV && (v.kind != 7 || riseB v.items))) := by
  have h0 := v.size_pos
  unfold formV
  obtain ⟨n, hn⟩ : ∃ n, v.size = n + 1 := ⟨v.size - 1, by omega⟩
  rw [hn, formF, all_congr (g := formV) fun x hx => formF_more x.size n x (Nat.le_refl _) (by have := Vl.size_item hx; omega)]
  rfl
/-- At most so many levels. -/
def deepLe : Nat → Vl → Prop
  | 0, _ => False
  | n + 1, v => ∀ x ∈ v.items, deepLe n x
/-- So many parts more than so far. -/
def cntL (f : Vl → Nat → Nat) : List Vl → Nat → Nat
  | [], s => s
  | v :: l, s => if 4096 < f v s then f v s else cntL f l (f v s)
def cnt : Nat → Vl → Nat → Nat
  | 0, _, _ => 4097
  | n + 1, v, s => if 4096 < s + 1 then 4097 else cntL (cnt n) v.items (s + 1)
theorem cntL_is {f : Vl → Nat → Nat} {p : Vl → Prop} : ∀ (l : List Vl) (s : Nat), (∀ v ∈ l, ∀ s, (f v s ≤ 4096 ↔ s + v.size ≤ 4096 ∧ p v) ∧ (f v s ≤ 4096 → f v s = s + v.size)) → s ≤ 4096 →
    (cntL f l s ≤ 4096 ↔ s + (l.map Vl.size).sum ≤ 4096 ∧ ∀ v ∈ l, p v) ∧ (cntL f l s ≤ 4096 → cntL f l s = s + (l.map Vl.size).sum)
  | [], s, _, hs => by simp [cntL, hs]
  | v :: l, s, h, hs => by
    obtain ⟨h1, h2⟩ := h v (by simp) s
    rw [cntL, List.map_cons, List.sum_cons]
    by_cases hc : 4096 < f v s
    · rw [if_pos hc]
      refine ⟨⟨fun e => by omega, fun ⟨e1, e2⟩ => ?_⟩, fun e => by omega⟩
      exact absurd (h1.2 ⟨by omega, e2 v (by simp)⟩) (by omega)
    · rw [if_neg hc]
      have h3 := h2 (by omega)
      have h4 := h1.1 (by omega)
      have ih := cntL_is (f := f) (p := p) l (f v s) (fun x hx => h x (by simp [hx])) (by omega)
      rw [h3] at ih ⊢
      refine ⟨⟨fun e => ?_, fun ⟨e1, e2⟩ => ih.1.2 ⟨by omega, fun x hx => e2 x (by simp [hx])⟩⟩, fun e => by rw [ih.2 e]; omega⟩
      obtain ⟨e1, e2⟩ := ih.1.1 e
      refine ⟨by omega, fun x hx => ?_⟩
      rcases List.mem_cons.1 hx with rfl | hx
      · exact h4.2
      · exact e2 x hx
theorem cnt_is : ∀ (n : Nat) (v : Vl) (s : Nat), (cnt n v s ≤ 4096 ↔ s + v.size ≤ 4096 ∧ deepLe n v) ∧ (cnt n v s ≤ 4096 → cnt n v s = s + v.size)
  | 0, v, s => by simp [cnt, deepLe]
  | n + 1, v, s => by
    have h0 := v.size_pos
    rw [cnt]
    by_cases hc : 4096 < s + 1
    · rw [if_pos hc]
      exact ⟨⟨fun e => by omega, fun e => by omega⟩, fun e => by omega⟩
    · rw [if_neg hc]
      have ih := cntL_is (f := cnt n) (p := deepLe n) v.items (s + 1) (fun x _ s => cnt_is n x s) (by omega)
      rw [Vl.size_eq v]
      refine ⟨⟨fun e => ?_, fun ⟨e1, e2⟩ => ih.1.2 ⟨by omega, e2⟩⟩, fun e => by rw [ih.2 e]; omega⟩
      obtain ⟨e1, e2⟩ := ih.1.1 e
      exact ⟨by omega, e2⟩
theorem rwL_is {f : Vl → Nat → Bool × Nat} {p : Vl → Prop} : ∀ (l : List Vl) (r : Nat), (∀ v ∈ l, ∀ r, ((f v r).1 = true ↔ v.size ≤ r ∧ p v) ∧ ((f v r).1 = true → (f v r).2 = r - v.size)) →
    ((rwL f l r).1 = true ↔ (l.map Vl.size).sum ≤ r ∧ ∀ v ∈ l, p v) ∧ ((rwL f l r).1 = true → (rwL f l r).2 = r - (l.map Vl.size).sum)
  | [], r, _ => by simp [rwL]
  | v :: l, r, h => by
    obtain ⟨h1, h2⟩ := h v (by simp) r
    rw [rwL, List.map_cons, List.sum_cons]
    by_cases hc : (f v r).1 = true
    · rw [if_pos hc]
      have h3 := h2 hc
      have h4 := h1.1 hc
      have ih := rwL_is (f := f) (p := p) l (f v r).2 (fun x hx => h x (by simp [hx]))
      rw [h3] at ih ⊢
      refine ⟨⟨fun e => ?_, fun ⟨e1, e2⟩ => ih.1.2 ⟨by omega, fun x hx => e2 x (by simp [hx])⟩⟩, fun e => by rw [ih.2 e]; omega⟩
      obtain ⟨e1, e2⟩ := ih.1.1 e
      refine ⟨by omega, fun x hx => ?_⟩
      rcases List.mem_cons.1 hx with rfl | hx
      · exact h4.2
      · exact e2 x hx
    · rw [if_neg hc]
      refine ⟨⟨fun e => (by cases e), fun ⟨e1, e2⟩ => ?_⟩, fun e => (by cases e)⟩
      exact absurd (h1.2 ⟨by omega, e2 v (by simp)⟩) hc
theorem rw_is : ∀ (n : Nat) (v : Vl) (r : Nat), ((rw n v r).1 = true ↔ v.size ≤ r ∧ (deepLe n v ∧ formV v = true)) ∧ ((rw n v r).1 = true → (rw n v r).2 = r - v.size)
  | 0, v, r => by simp [rw, deepLe]
  | n + 1, v, r => by
    have h0 := v.size_pos
    have hf := formV_eq v
    by_cases hr : r = 0
    · subst hr
      rw [rw_room]
      exact ⟨⟨fun e => (by cases e), fun e => by omega⟩, fun e => (by cases e)⟩
    · by_cases hug : usedB v = true ∧ goodB v = true
      · have ih := rwL_is (f := rw n) (p := fun x => deepLe n x ∧ formV x = true) v.items (r - 1) (fun x _ s => rw_is n x s)
        rw [hug.1, hug.2, Bool.and_self, Bool.true_and] at hf
        obtain ⟨b, r', hp⟩ : ∃ b r', rwL (rw n) v.items (r - 1) = (b, r') := ⟨_, _, rfl⟩
        rw [hp] at ih
        cases b
        · rw [rw_no n v r (by omega) hug hp]
          refine ⟨⟨fun e => (by cases e), fun ⟨e1, e2, e3⟩ => ?_⟩, fun e => (by cases e)⟩
          rw [hf, Bool.and_eq_true] at e3
          rw [Vl.size_eq v] at e1
          exact absurd (ih.1.2 ⟨by omega, fun x hx => ⟨e2 x hx, List.all_eq_true.1 e3.1 x hx⟩⟩) (by simp)
        · rw [rw_yes n v r (by omega) hug hp]
          obtain ⟨e1, e2⟩ := ih.1.1 rfl
          have e3 : r' = _ := ih.2 rfl
          have hall : v.items.all formV = true := List.all_eq_true.2 fun x hx => (e2 x hx).2
          rw [hf, hall, Bool.true_and, Vl.size_eq v]
          exact ⟨⟨fun e => ⟨by omega, fun x hx => (e2 x hx).1, e⟩, fun e => e.2.2⟩, fun _ => by show r' = _; omega⟩
      · rw [rw_bad n v r (by omega) hug]
        have : (usedB v && goodB v) = false := by
          cases h : (usedB v && goodB v)
          · rfl
          · exact absurd (by simpa using h) hug
        rw [hf, this, Bool.false_and]
        exact ⟨⟨fun e => (by cases e), fun e => (by cases e.2.2)⟩, fun e => (by cases e)⟩
theorem right_doc (v : Vl) : (decide (cnt 16 v 0 ≤ 4096) && formV v) = rightV v := by
  have h1 := (cnt_is 16 v 0).1
  have h2 := (rw_is 16 v 4096).1
  unfold rightV
  rw [Bool.eq_iff_iff, Bool.and_eq_true, decide_eq_true_eq, h1, h2]
  rw [Nat.zero_add]
  exact ⟨fun ⟨⟨a, b⟩, c⟩ => ⟨a, b, c⟩, fun ⟨a, b, c⟩ => ⟨⟨a, b⟩, c⟩⟩
end Go.Proofs.YtcedpdneanjbkaaGreatDoor

/- The document's order of two values is the program's. -/
namespace Go.Proofs.YtcedpdneanjbkaaGreatDoor
open Go.RowKit

def sg (x y : Bool) : Int := if x then -1 else if y then 1 else 0
theorem sign_k (x y : Bool) (w : World) : Calls Tryz.prog 100 #[.bool x, .bool y] w fun e w' => e = .returned (.int .i64 (sg x y)) ∧ w = w' := by
  cases x
  · cases y
    · go_enter Tryz.func100, Tryz.ntmps100
      go_wp2
      go_ret
      exact ⟨rfl, rfl⟩
    · go_enter Tryz.func100, Tryz.ntmps100
      go_wp2
      go_ret
      exact ⟨rfl, rfl⟩
  · go_enter Tryz.func100, Tryz.ntmps100
    go_wp2
    go_ret
    exact ⟨rfl, rfl⟩
theorem sg_cmpI (a b : Int) : sg (decide (a < b)) (decide (b < a)) = cmpI a b := by simp [sg, cmpI]
theorem sg_cmpS (a b : ByteArray) : sg (Op.bytesLess a.toList b.toList) (!(Op.bytesLess a.toList b.toList || a.toList == b.toList)) = cmpS a b := by simp [sg, cmpS]
theorem sg_len (n m : Nat) : sg (decide (n < m)) (decide (m < n)) = cmpI n m := by simp [sg, cmpI]
theorem cmpI_ne {a b : Int} (h : a ≠ b) : cmpI a b ≠ 0 := by unfold cmpI; split <;> (try split) <;> omega
theorem cmpI_self (a : Int) : cmpI a a = 0 := by unfold cmpI; rw [if_neg (by omega), if_neg (by omega)]
theorem less_self : ∀ l : List UInt8, Op.bytesLess l l = false
  | [] => rfl
  | a :: l => by rw [Op.bytesLess, less_self l]; simp
theorem cmpS_eq {a b : ByteArray} (h : (a.toList == b.toList) = true) : cmpS a b = 0 := by
  have e : a.toList = b.toList := by simpa using h
  unfold cmpS
  rw [e, less_self]
  simp
theorem cmpS_ne {a b : ByteArray} (h : (a.toList == b.toList) = false) : cmpS a b ≠ 0 := by
  unfold cmpS
  rw [h]
  cases Op.bytesLess a.toList b.toList <;> simp
theorem orI_cons (x : Int) (l : List Int) : orI (x :: l) = if x = 0 then orI l else x := rfl
/-- What the document's order answers of two values, wherever they lie. -/
def RefOrderC (n : Nat) : Prop := ∀ (a b : Vl) (w : World) (B m : Nat) (sa sb : Value), B ≤ w.heap.size → ItemsAt w B n sa a.items → ItemsAt w B m sb b.items →
  Calls Tryz.prog 65 #[.agg (vcells a sa), .agg (vcells b sb)] w fun e w' => e = .returned (.int .i64 (ordV a b)) ∧ Below w.heap.size w w'
set_option maxRecDepth 100000 in
set_option maxHeartbeats 4000000 in
theorem refOrder_step {n : Nat} (hO : RefOrderC n) : RefOrderC (n + 1) := by
  intro a b w B m sa sb hB ha hb
  obtain ⟨m, rfl⟩ := hb.pos
  obtain ⟨W, hW⟩ : ∃ W, (w.alloc (.cells (vcells a sa) 46)).alloc (.cells (vcells b sb) 46) = W := ⟨_, rfl⟩
  have bW : Below w.heap.size w W := by rw [← hW]; exact alloc_v (alloc_v (Below.refl _ _) _) _
  have e1 : W.heap[w.heap.size]? = some (.cells (vcells a sa) 46 (0, 0)) := by rw [← hW]; exact (Below.heap_alloc _ _ _ (by simp)).trans (World.alloc_heap_new w _)
  have e2 : W.heap[w.heap.size + 1]? = some (.cells (vcells b sb) 46 (0, 0)) := by rw [← hW]; have := World.alloc_heap_new (w.alloc (.cells (vcells a sa) 46)) (.cells (vcells b sb) 46); rwa [World.size_alloc] at this
  have zW : w.heap.size + 1 < W.heap.size := (Array.getElem?_eq_some_iff.1 e2).1
  have x0 := cells_at e1 0 _ rfl
  have x1 := cells_at e1 1 _ rfl
  have x2 := cells_at e1 2 _ rfl
  have x3 := cells_at e1 3 _ rfl
  have x4 := cells_at e1 4 _ rfl
  have y0 := cells_at e2 0 _ rfl
  have y1 := cells_at e2 1 _ rfl
  have y2 := cells_at e2 2 _ rfl
  have y3 := cells_at e2 3 _ rfl
  have y4 := cells_at e2 4 _ rfl
  have HE := hide (ordV_is a b)
  have HA := hide (ha.below (bW.mono hB))
  have HB := hide (hb.below (bW.mono hB))
  obtain ⟨aa, ca, rfl, hla⟩ := ha.len
  obtain ⟨ab, cb, rfl, hlb⟩ := hb.len
  unfold maxLen at hla hlb
  have HO := hide hO
  have HSG := hide sign_k
  clear e1 e2 ha hb hO
  obtain ⟨k1, i1, m1, t1, l1⟩ := a
  obtain ⟨k2, i2, m2, t2, l2⟩ := b
  simp only at *
  by_cases hk : k1 = k2
  case neg =>
    have hkb : (k1 != k2) = true := by simp [hk]
    go_enter Tryz.func65, Tryz.ntmps65
    go_wp2_with (go_at_call 100; refine (HSG.out _ _ _).mono ?_; clear HSG; rintro e w2 ⟨rfl, rfl⟩)
    go_ret
    exact ⟨by rw [HE.out, orI_cons, if_neg (cmpI_ne hk), ← sg_cmpI]; rfl, bW⟩
  case pos =>
    subst hk
    rw [orI_cons, if_pos (cmpI_self _)] at HE
    by_cases hi : i1 = i2
    case neg =>
      have hib : (i1 != i2) = true := by simp [hi]
      go_enter Tryz.func65, Tryz.ntmps65
      go_wp2_with (go_at_call 100; refine (HSG.out _ _ _).mono ?_; clear HSG; rintro e w2 ⟨rfl, rfl⟩)
      go_ret
      exact ⟨by rw [HE.out, orI_cons, if_neg (cmpI_ne hi), ← sg_cmpI]; rfl, bW⟩
    case pos =>
      subst hi
      rw [orI_cons, if_pos (cmpI_self _)] at HE
      by_cases hm : m1 = m2
      case neg =>
        have hmb : (m1 != m2) = true := by simp [hm]
        go_enter Tryz.func65, Tryz.ntmps65
        go_wp2_with (go_at_call 100; refine (HSG.out _ _ _).mono ?_; clear HSG; rintro e w2 ⟨rfl, rfl⟩)
        go_ret
        exact ⟨by rw [HE.out, orI_cons, if_neg (cmpI_ne hm), ← sg_cmpI]; rfl, bW⟩
      case pos =>
        subst hm
        rw [orI_cons, if_pos (cmpI_self _)] at HE
        cases ht : (t1.toList == t2.toList)
        case false =>
          have HN := hide (cmpS_ne ht)
          go_enter Tryz.func65, Tryz.ntmps65
          go_wp2_with (go_at_call 100; refine (HSG.out _ _ _).mono ?_; clear HSG; rintro e w2 ⟨rfl, rfl⟩)
          go_ret
          refine ⟨?_, bW⟩
          rw [HE.out, orI_cons, if_neg HN.out]
          show Ending.returned (Value.int .i64 (sg _ _)) = _
          simp [sg, cmpS, ht]
        case true =>
          rw [orI_cons, if_pos (cmpS_eq ht)] at HE
          by_cases hl : l1.length = l2.length
          case neg =>
            have hlb : ((l1.length : Int) != (l2.length : Int)) = true := by simp; omega
            have HI : Hid (ordI l1 l2 = cmpI l1.length l2.length) := by unfold ordI; rw [if_neg (cmpI_ne (by omega))]; rfl
            have HN := hide (cmpI_ne (a := l1.length) (b := l2.length) (by omega))
            go_enter Tryz.func65, Tryz.ntmps65
            go_wp2_with (go_at_call 100; refine (HSG.out _ _ _).mono ?_; clear HSG; rintro e w2 ⟨rfl, rfl⟩)
            go_ret
            exact ⟨by rw [HE.out, orI_cons, HI.out, if_neg HN.out, ← sg_len]; rfl, bW⟩
          case pos =>
            have HI : Hid (ordV ⟨k1, i1, m1, t1, l1⟩ ⟨k1, i1, m1, t2, l2⟩ = ordL l1 l2) := by
              refine HE.out.trans ?_
              unfold ordI
              rw [hl, cmpI_self, if_pos rfl, orI_cons]
              split
              · rename_i e; rw [e]; rfl
              · rfl
            have HL := hide hl
            have hlb : ((l1.length : Int) != (l2.length : Int)) = false := by simp; omega
            clear HE HSG hl
            go_enter Tryz.func65, Tryz.ntmps65
            go_wp2
            have z1 : w.heap.size < W.heap.size := by omega
            clear x0 x1 x2 x3 y0 y1 y2 y3 hW hlb ht
            go_loopw [5] (fun i wr => ∃ k : Nat, k ≤ l1.length ∧ i = .int .i64 k ∧ ordL (l1.take k) (l2.take k) = 0 ∧ Below W.heap.size W wr) (fun i _ => l1.length - (intOf i).toNat)
            case atStart => exact ⟨0, Nat.zero_le _, rfl, ordL_nil _, Below.refl _ _⟩
            case round =>
              obtain ⟨k, hk, rfl, hz, hbel⟩ := hrel
              have c4 := ((bcellV hbel).1 _ 4 z1).trans x4
              have d4 := ((bcellV hbel).1 _ 4 zW).trans y4
              have hBW : B ≤ W.heap.size := by have := bW.size; omega
              by_cases hlt : k < l1.length
              · have hlr : k < l2.length := by have := HL.out; omega
                obtain ⟨b1, o1, s1, rfl, g1, p0, p1, p2, p3, p4, p5, _⟩ := (HA.out.below (hbel.mono hBW)).item k hlt
                obtain ⟨b2, o2, s2, rfl, g2, q0, q1, q2, q3, q4, q5, _⟩ := (HB.out.below (hbel.mono hBW)).item k hlr
                have HZ := hide (fun (h : ordV l1[k] l2[k] = 0) => (ordL_take hlt hlr hz).trans h)
                have HN := hide (fun (h : ordV l1[k] l2[k] ≠ 0) => (ordL_part (k := k + 1) (l := l1) (r := l2) (by rw [ordL_take hlt hlr hz]; exact h)).trans (ordL_take hlt hlr hz))
                have HC := hide (fun (q : Wv wr) => HO.out l1[k] l2[k] q.val B m s1 s2 (by have := hbel.size; have := q.below.size; omega) (p5.below (q.below.mono (by have := hbel.size; omega))) (q5.below (q.below.mono (by have := hbel.size; omega))))
                have hk0 : (0 : Int) ≤ (k : Int) := by omega
                have hk1 : (k : Int) < (l1.length : Int) := by omega
                have hk2 : (k : Int) < (l2.length : Int) := by omega
                have hany := Wv.any wr
                have u0 := fun q : Wv wr => q.cell p0
                have u1 := fun q : Wv wr => q.cell p1
                have u2 := fun q : Wv wr => q.cell p2
                have u3 := fun q : Wv wr => q.cell p3
                have u4 := fun q : Wv wr => q.cell p4
                have v0 := fun q : Wv wr => q.cell q0
                have v1 := fun q : Wv wr => q.cell q1
                have v2 := fun q : Wv wr => q.cell q2
                have v3 := fun q : Wv wr => q.cell q3
                have v4 := fun q : Wv wr => q.cell q4
                have f4 := fun q : Wv wr => q.cell c4
                have h4 := fun q : Wv wr => q.cell d4
                obtain ⟨xx1, yy1, rfl, _⟩ := p5.len
                obtain ⟨xx2, yy2, rfl, _⟩ := q5.len
                have HB2 := hide (bW.trans (hbel.mono bW.size))
                have HB3 := hide hbel
                clear hz p5 q5 hbel g1 g2 p0 p1 p2 p3 p4 q0 q1 q2 q3 q4 x4 y4
                generalize l1[k].items = xi at *
                generalize l2[k].items = yi at *
                generalize l1[k] = x at *
                generalize l2[k] = y at *
                go_wp2
                refine wp_region_grown (by kernel_rfl) (by kernel_rfl) ?_
                repeat (go_big_quiet_step ((go_at_call 65; exact Wv.calls _ (HC.out _))))
                refine wpQuiet_nil ?_
                intro w1 hw'
                obtain ⟨q, rfl⟩ := hw'
                by_cases hx : ordV x y = 0
                · go_wp2
                  go_roundw
                  case rel => exact ⟨k + 1, by omega, by go_num, HZ.out hx, trans_v HB3.out q.below⟩
                  case measure => simp [intOf]; omega
                · have hxb : (ordV x y != 0) = true := by simp [hx]
                  go_wp2
                  go_ret
                  exact ⟨by rw [HI.out, HN.out hx]; rfl, trans_v HB2.out q.below⟩
              · rw [List.take_of_length_le (by omega), List.take_of_length_le (by have := HL.out; omega)] at hz
                have HZ := hide hz
                clear hz
                go_wp2
                go_ret
                exact ⟨by rw [HI.out, HZ.out]; rfl, bW.trans (hbel.mono bW.size)⟩
theorem refOrder_k : ∀ n, RefOrderC n
  | 0 => fun _ _ _ _ _ _ _ _ h _ => h.elim
  | n + 1 => refOrder_step (refOrder_k n)
end Go.Proofs.YtcedpdneanjbkaaGreatDoor
