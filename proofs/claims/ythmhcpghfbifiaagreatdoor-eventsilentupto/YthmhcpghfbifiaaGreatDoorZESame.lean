/- alike and Same of events. -/
import Derived.Test.YthmhcpghfbifiaaGreatDoorGE2
import Derived.Test.YthmhcpghfbifiaaGreatDoorGHBase
import Derived.Test.YthmhcpghfbifiaaGreatDoorGEM
import Derived.Test.YthmhcpghfbifiaaGreatDoorGTot
namespace Go.Proofs.YthmhcpghfbifiaaGreatDoor
open Go.RowKit

/-- Two events that are the same, but for where they stand; the value of the first is right. -/
def simB (x y : Evn) : Bool := (x.kind == y.kind) && ((x.proc == y.proc) && ((x.obj == y.obj) && ((x.op == y.op) && (rightV x.val && decide (ordV x.val y.val = 0)))))
theorem cmp_zero {a b : Vl} (h : rightV a = true) : (cmpV a b == 0) = decide (ordV a b = 0) := by
  unfold cmpV
  rw [h, if_pos rfl]
  cases hb : rightV b with
  | true => rw [if_pos rfl]; rw [Bool.eq_iff_iff]; simp
  | false =>
    rw [if_neg (by simp)]
    have : ¬ ordV a b = 0 := fun e => by rw [ordV_zero e, hb] at h; cases h
    simp [this]
theorem sim_eq (l r : List UInt8) : ((bsN l).toList == (bsN r).toList) = (l == r) := by rw [bsN_toList, bsN_toList]
set_option maxRecDepth 100000 in
set_option maxHeartbeats 4000000 in
theorem alike6_k (x y : Evn) (w : World) (n m : Nat) (sx sy : Value) (hx : EvOk x) (hy : EvOk y) (hT : Tabs w) (ix : ItemsAt w w.heap.size n sx x.val.items) (iy : ItemsAt w w.heap.size m sy y.val.items) :
    Calls Tryz.prog 25 #[.agg (evCells x sx), .agg (evCells y sy)] w fun e w' => e = .returned (.bool (simB x y)) ∧ Below w.heap.size w w' := by
  obtain ⟨W, hW⟩ : ∃ W, (w.alloc (.cells (evCells x sx) 48)).alloc (.cells (evCells y sy) 48) = W := ⟨_, rfl⟩
  have bW : Below w.heap.size w W := by rw [← hW]; exact alloc_v (alloc_v (Below.refl _ _) _) _
  have e1 : W.heap[w.heap.size]? = some (.cells (evCells x sx) 48 (0, 0)) := by rw [← hW]; exact (Below.heap_alloc _ _ _ (by simp)).trans (World.alloc_heap_new w _)
  have e2 : W.heap[w.heap.size + 1]? = some (.cells (evCells y sy) 48 (0, 0)) := by rw [← hW]; have := World.alloc_heap_new (w.alloc (.cells (evCells x sx) 48)) (.cells (evCells y sy) 48); rwa [World.size_alloc] at this
  have l1 : w.heap.size < W.heap.size := (Array.getElem?_eq_some_iff.1 e1).1
  have l2 : w.heap.size + 1 < W.heap.size := (Array.getElem?_eq_some_iff.1 e2).1
  have c0 := cells_at e1 0 _ rfl
  have d0 := cells_at e2 0 _ rfl
  have c1 := cells_at e1 1 _ rfl
  have d1 := cells_at e2 1 _ rfl
  have c2 := cells_at e1 2 _ rfl
  have d2 := cells_at e2 2 _ rfl
  have c3 := cells_at e1 3 _ rfl
  have d3 := cells_at e2 3 _ rfl
  have c4 := cells_at e1 4 _ rfl
  have c5 := cells_at e1 5 _ rfl
  have c6 := cells_at e1 6 _ rfl
  have c7 := cells_at e1 7 _ rfl
  have c8 := cells_at e1 8 _ rfl
  have HE := hide (And.intro e1 e2)
  have HCK := hide (check_k x.val W n sx (hT.below bW) hx.val.1 ((ix.below bW).up bW.size))
  have HCM := hide (fun (U : World) (b : Below W.heap.size W U) => compare_k x.val y.val U n m sx sy (hT.below (trans_v bW b)) hx.val.1 hy.val.1 ((ix.below (trans_v bW b)).up (trans_v bW b).size) ((iy.below (trans_v bW b)).up (trans_v bW b).size))
  obtain ⟨ax, cx, rfl, _⟩ := ix.len
  obtain ⟨ay, cy, rfl, _⟩ := iy.len
  have HZ := hide (fun (h : rightV x.val = true) => cmp_zero (b := y.val) h)
  have q1 := sim_eq x.proc y.proc
  have q2 := sim_eq x.obj y.obj
  have q3 := sim_eq x.op y.op
  unfold simB
  clear ix iy hT e1 e2 hx hy
  generalize hb0 : (x.kind == y.kind) = b0 at *
  generalize hb1 : (x.proc == y.proc) = b1 at *
  generalize hb2 : (x.obj == y.obj) = b2 at *
  generalize hb3 : (x.op == y.op) = b3 at *
  cases b0
  · go_enter Tryz.func25, Tryz.ntmps25
    go_wp2
    go_ret
    exact ⟨rfl, bW⟩
  cases b1
  · go_enter Tryz.func25, Tryz.ntmps25
    go_wp2
    go_ret
    exact ⟨rfl, bW⟩
  cases b2
  · go_enter Tryz.func25, Tryz.ntmps25
    go_wp2
    go_ret
    exact ⟨rfl, bW⟩
  cases b3
  · go_enter Tryz.func25, Tryz.ntmps25
    go_wp2
    go_ret
    exact ⟨rfl, bW⟩
  cases hr : rightV x.val
  · rw [hr] at HCK
    have HC2 : Hid (Calls Tryz.prog 48 #[.agg (vcells x.val (.slice ax x.val.items.length cx))] W fun e w' => e = .returned (.int .i64 40) ∧ Below W.heap.size W w') := HCK
    clear HCK HCM hr
    go_enter Tryz.func25, Tryz.ntmps25
    go_wp2_with (go_at_call 48; refine HC2.out.mono ?_; clear HC2; rintro e w2 ⟨rfl, b2⟩)
    go_ret
    exact ⟨rfl, trans_v bW b2⟩
  · rw [hr] at HCK
    have HC2 : Hid (Calls Tryz.prog 48 #[.agg (vcells x.val (.slice ax x.val.items.length cx))] W fun e w' => e = .returned (.int .i64 0) ∧ Below W.heap.size W w') := HCK
    have hz := HZ.out hr
    have hfin : (true && (true && (true && (true && (true && decide (ordV x.val y.val = 0)))))) = (cmpV x.val y.val == 0) := by rw [hz]; simp
    rw [hfin]
    clear HCK hr HZ hz hfin
    generalize cmpV x.val y.val = z at *
    go_enter Tryz.func25, Tryz.ntmps25
    go_wp2_with (first
      | (go_at_call 48; refine HC2.out.mono ?_; clear HC2; rintro e w2 ⟨rfl, b2⟩; have f1 := (b2.block _ l1).trans HE.out.1; have f2 := (b2.block _ l2).trans HE.out.2; have g4 := cells_at f1 4 _ rfl; have g5 := cells_at f1 5 _ rfl; have g6 := cells_at f1 6 _ rfl; have g7 := cells_at f1 7 _ rfl; have g8 := cells_at f1 8 _ rfl; have k4 := cells_at f2 4 _ rfl; have k5 := cells_at f2 5 _ rfl; have k6 := cells_at f2 6 _ rfl; have k7 := cells_at f2 7 _ rfl; have k8 := cells_at f2 8 _ rfl; have B2 := hide b2)
      | (go_at_call 49; refine (HCM.out _ B2.out).mono ?_; clear HCM; rintro e w3 ⟨rfl, b3⟩))
    go_ret
    exact ⟨rfl, trans_v bW (trans_v B2.out b3)⟩
/-- Rows of events that are the same, one by one, as far as a place. -/
def simTo (l r : List Evn) (k : Nat) : Prop := ∀ j (h : j < l.length) (h' : j < r.length), j < k → simB l[j] r[j] = true
/-- Two rows of events that are the same. -/
def sameB (l r : List Evn) : Bool := decide (l.length = r.length) && (List.zipWith simB l r).all id
theorem zip_all : ∀ {l r : List Evn}, l.length = r.length → ((List.zipWith simB l r).all id = true ↔ ∀ j (h : j < l.length) (h' : j < r.length), simB l[j] r[j] = true)
  | [], [], _ => by simp
  | [], _ :: _, h => by simp at h
  | _ :: _, [], h => by simp at h
  | a :: l, b :: r, h => by
    have ih := zip_all (l := l) (r := r) (by simpa using h)
    rw [List.zipWith_cons_cons, List.all_cons, Bool.and_eq_true, ih]
    constructor
    · rintro ⟨h1, h2⟩ j hj hj'
      cases j with
      | zero => exact h1
      | succ j => exact h2 j (by simpa using hj) (by simpa using hj')
    · intro h1
      exact ⟨h1 0 (by simp) (by simp), fun j hj hj' => h1 (j + 1) (by simpa using hj) (by simpa using hj')⟩
theorem sameB_yes {l r : List Evn} (hl : l.length = r.length) (h : simTo l r l.length) : sameB l r = true := by
  unfold sameB
  rw [decide_eq_true hl, Bool.true_and]
  exact (zip_all hl).2 fun j h1 h2 => h j h1 h2 h1
theorem sameB_no {l r : List Evn} (hl : l.length = r.length) {k : Nat} (hk : k < l.length) (hk' : k < r.length) (h : simB l[k] r[k] = false) : sameB l r = false := by
  unfold sameB
  rw [decide_eq_true hl, Bool.true_and]
  cases hh : (List.zipWith simB l r).all id with
  | false => rfl
  | true =>
    have := (zip_all hl).1 hh k hk hk'
    rw [h] at this
    cases this
theorem sameB_len {l r : List Evn} (hl : ¬ l.length = r.length) : sameB l r = false := by
  unfold sameB
  rw [decide_eq_false hl, Bool.false_and]
set_option maxRecDepth 100000 in
set_option maxHeartbeats 4000000 in
theorem equalFunc6_k (l r : List Evn) (w : World) (n m : Nat) (sa sb : Value) (hT : Tabs w) (ha : EvsAt w w.heap.size n sa l) (hb : EvsAt w w.heap.size m sb r) :
    Calls Tryz.prog 24 #[sa, sb, .func (.func 25) #[] #[]] w fun e w' => e = .returned (.bool (sameB l r)) ∧ Below w.heap.size w w' := by
  obtain ⟨aa, ca, rfl, hla⟩ := ha.len
  obtain ⟨ab, cb, rfl, hlb⟩ := hb.len
  have HA := hide ha
  have HB := hide hb
  have HT := hide (fun (U : World) (b : Below w.heap.size w U) => hT.below b)
  clear ha hb hT
  by_cases hl : l.length = r.length
  rotate_left
  · have hne : ((l.length : Int) != (r.length : Int)) = true := by simp; omega
    rw [sameB_len hl]
    clear hl
    go_enter Tryz.func24, Tryz.ntmps24
    go_wp2
    go_ret
    exact ⟨rfl, Below.refl _ _⟩
  have hne : ((l.length : Int) != (r.length : Int)) = false := by simp; omega
  have HL := hide hl
  clear hl
  go_enter Tryz.func24, Tryz.ntmps24
  go_wp2
  clear hne
  go_loopw [7, 8, 9, 17] (fun _ _ _ i wr => ∃ k : Nat, k ≤ l.length ∧ i = .int .i64 k ∧ simTo l r k ∧ Below w.heap.size w wr) (fun _ _ _ i _ => l.length - (intOf i).toNat)
  case atStart => exact ⟨0, Nat.zero_le _, rfl, fun j _ _ h => absurd h (by omega), Below.refl _ _⟩
  case round =>
    obtain ⟨k, hk, rfl, hz, hbel⟩ := hrel
    by_cases hlt : k < l.length
    · have hlr : k < r.length := by have := HL.out; omega
      obtain ⟨b1, o1, s1, rfl, g1, p0, p1, p2, p3, p4, p5, p6, p7, p8, p9, p10, p11, p12, p13, p14⟩ := (HA.out.below hbel).item k hlt
      obtain ⟨b2, o2, s2, rfl, g2, q0, q1, q2, q3, q4, q5, q6, q7, q8, q9, q10, q11, q12, q13, q14⟩ := (HB.out.below hbel).item k hlr
      have l1 : b1 < wr.heap.size := by have := hbel.size; omega
      have l2 : b2 < wr.heap.size := by have := hbel.size; omega
      clear g1 g2
      have HZ := hide (fun (h : simB l[k] r[k] = true) => (show simTo l r (k + 1) from fun j h1 h2 h3 => by
        by_cases e : j = k
        · subst e; exact h
        · exact hz j h1 h2 (by omega)))
      have HN := hide (fun (h : simB l[k] r[k] = false) => sameB_no HL.out hlt hlr h)
      have HC := hide (fun (W : World) (hW : Below wr.heap.size wr W) => alike6_k l[k] r[k] W n m s1 s2 p13 q13 ((HT.out wr hbel).below hW) ((p12.below ((Below.mono hW hbel.size))).up (by have := hbel.size; have := hW.size; omega)) ((q12.below ((Below.mono hW hbel.size))).up (by have := hbel.size; have := hW.size; omega)))
      have HB2 := hide hbel
      have hk0 : (0 : Int) ≤ (k : Int) := by omega
      have hk1 : (k : Int) < (l.length : Int) := by omega
      have hk2 : (k : Int) < (r.length : Int) := by omega
      obtain ⟨x1, y1, rfl, _⟩ := p12.len
      obtain ⟨x2, y2, rfl, _⟩ := q12.len
      clear hz p12 q12 p13 q13 p14 q14 hbel
      obtain ⟨bb, hbb⟩ : ∃ bb, simB l[k] r[k] = bb := ⟨_, rfl⟩
      rw [hbb] at HC HZ HN
      clear hbb
      generalize l[k] = x at *
      generalize r[k] = y at *
      cases bb
      · go_wp2_with (go_at_call 25; refine (HC.out _ (((Below.refl _ _).alloc (Nat.le_refl _) _).alloc (by simp) _)).mono ?_; clear HC; rintro e w2 ⟨rfl, b2⟩; have B2 := hide b2; clear b2)
        go_ret
        exact ⟨by rw [HN.out (by first | rfl | trivial)]; rfl, trans_v (alloc_v (alloc_v HB2.out _) _) B2.out⟩
      · go_wp2_with (go_at_call 25; refine (HC.out _ (((Below.refl _ _).alloc (Nat.le_refl _) _).alloc (by simp) _)).mono ?_; clear HC; rintro e w2 ⟨rfl, b2⟩; have B2 := hide b2; clear b2)
        go_roundw
        case rel => exact ⟨k + 1, by omega, by go_num, HZ.out (by first | rfl | trivial), trans_v (alloc_v (alloc_v HB2.out _) _) B2.out⟩
        case measure => simp [intOf]; omega
    · have HZ := hide (show sameB l r = true from sameB_yes HL.out fun j h1 h2 h3 => hz j h1 h2 (by omega))
      clear hz
      go_wp2
      go_ret
      exact ⟨by rw [HZ.out]; rfl, hbel⟩
theorem same6_k (l r : List Evn) (w : World) (n m : Nat) (sa sb : Value) (hT : Tabs w) (ha : EvsAt w w.heap.size n sa l) (hb : EvsAt w w.heap.size m sb r) :
    Calls Tryz.prog 11 #[sa, sb] w fun e w' => e = .returned (.bool (sameB l r)) ∧ Below w.heap.size w w' := by
  have H := hide (equalFunc6_k l r w n m sa sb hT ha hb)
  clear hT ha hb
  generalize sameB l r = b at *
  go_enter Tryz.func11, Tryz.ntmps11
  go_wp2_with (go_at_call 24; refine H.out.mono ?_; clear H; rintro e w2 ⟨rfl, b2⟩)
  go_ret
  exact ⟨rfl, b2⟩
end Go.Proofs.YthmhcpghfbifiaaGreatDoor
