/- The reference's uvarint of a number of the program's int; named: a text behind bytes. -/
import Derived.Test.YtcedpdneanjbkaaGreatDoorGEL
import Derived.Test.YtcedpdneanjbkaaGreatDoorGHBase
import Derived.Test.YtcedpdneanjbkaaGreatDoorGRefText
import Derived.Test.YtcedpdneanjbkaaGreatDoorGEM
import Derived.Test.YtcedpdneanjbkaaGreatDoorGVFO
import Derived.Test.YtcedpdneanjbkaaGreatDoorGEB
namespace Go.Proofs.YtcedpdneanjbkaaGreatDoor
open Go.RowKit Go.Lib

def RefUvC6 (u : Nat) : Prop := ∀ w : World, Calls Tryz.prog 34 #[.int .i64 (u : Int)] w fun e w' => ∃ v, e = .returned v ∧ w'.ownsRow w.heap.size 5 1 v (uvarint u).length (cellsOf (uvarint u)) ∧ Below w.heap.size w w'
set_option maxRecDepth 100000 in
theorem refUv6_small (u : Nat) (h : u < 128) : RefUvC6 u := by
  intro w
  go_enter Tryz.func34, Tryz.ntmps34
  go_wp2
  go_ret
  refine ⟨_, rfl, ?_, alloc_v (Below.refl _ _) _⟩
  rw [uvarint_small h]
  exact owns_new w _ _ (by simp; omega)
set_option maxRecDepth 100000 in
set_option maxHeartbeats 1000000 in
theorem refUv6_more (u : Nat) (h : 128 ≤ u) (hu : u < 9223372036854775808) (hC : RefUvC6 (u / 128)) : RefUvC6 u := by
  intro w
  have h' : ¬ ((u : Int) < 128) := by omega
  have HC := hide hC
  have hy : bits .or .u8 ((u : Int) % 256) 128 = (((u % 128 + 128).toUInt8.toNat : Nat) : Int) := by
    rw [u8_or128_any _ (by omega) (by omega)]
    have : (u % 128 + 128).toUInt8.toNat = u % 128 + 128 := by simp; omega
    rw [this]
    omega
  have HY := hide hy
  have HDD := hide (show (u : Int) / 128 = ((u / 128 : Nat) : Int) by omega)
  clear hy
  have HLN := hide (uvarint_length 9 (u / 128) (by omega))
  have HP := hide (uvarint_pos (u / 128))
  have HE := hide (uvarint_big h)
  have hN := owns_new w (u % 128 + 128).toUInt8 _ rfl
  have RB := hide (RowB.start hN)
  clear hC hN
  go_enter Tryz.func34, Tryz.ntmps34
  go_wp2_with (first
    | (go_at_call 34; rw [HY.out, HDD.out]; refine (HC.out _).mono ?_; clear HC; rintro e w2 ⟨v2, rfl, o2, b2⟩; obtain ⟨v3, w3, hrun, r3⟩ := RB.out.pushRow (by simp) o2 b2 HP.out (by have := HLN.out; simp; omega) 33; have HR := hide hrun; have R3 := hide r3; clear hrun r3 o2)
    | (at_builtin; refine Lib.wpList_append_run _ rfl (.tmp 11) (.tmp 14) 33 33 rfl _ _ rfl rfl _ _ HR.out ?_; clear HR))
  go_ret
  refine ⟨_, rfl, ?_, (alloc_v (Below.refl _ _) _).grown R3.out.gr (by simp) (fun k hk => by simp [Value.ownBlock] at hk; omega)⟩
  rw [HE.out]
  exact R3.out.row
theorem refUv6_k (u : Nat) (hu : u < 9223372036854775808) : RefUvC6 u := by
  have H : ∀ n u, u ≤ n → u < 9223372036854775808 → RefUvC6 u := by
    intro n
    induction n with
    | zero => intro u h _; exact refUv6_small u (by omega)
    | succ n ih =>
      intro u h h2
      by_cases h3 : u < 128
      · exact refUv6_small u h3
      · exact refUv6_more u (by omega) h2 (ih (u / 128) (by omega) (by omega))
  exact H u u (Nat.le_refl _) hu
set_option maxRecDepth 100000 in
set_option maxHeartbeats 1000000 in
theorem named6_k (w : World) (L : Nat) (hL : L ≤ w.heap.size) (v : Value) (bs : List UInt8) (h : w.ownsRow L 5 1 v bs.length (cellsOf bs)) (t : ByteArray) (ht : t.size ≤ 1048576) (hl : bs.length + 1048600 ≤ 1000000000000) :
    Calls Tryz.prog 35 #[v, .string t] w fun e w' => ∃ a c, e = .returned (.slice a (bs ++ txt t).length c) ∧ w'.ownsRow L 5 1 (.slice a (bs ++ txt t).length c) (bs ++ txt t).length (cellsOf (bs ++ txt t)) ∧ w.grownBy w' v.ownBlock := by
  have HR := hide (RowB.start h)
  have HV := hide (refUv6_k t.size (by omega) w)
  have HLN := hide (uvarint_length 9 t.size (by omega))
  have HP := hide (uvarint_pos t.size)
  obtain ⟨a, c, rfl, _⟩ := (ownsRow_bytes h).2
  clear h
  go_enter Tryz.func35, Tryz.ntmps35
  go_wp2_with (first
    | (go_at_call 34; refine HV.out.mono ?_; clear HV; rintro e w1 ⟨u1, rfl, o1, b1⟩; obtain ⟨v2, w2, hr2, R2⟩ := HR.out.pushRow hL o1 b1 HP.out (by have := HLN.out; omega) 33; obtain ⟨v3, w3, hr3, o3, g3⟩ := R2.pushStr hL t (by have := HLN.out; rw [List.length_append]; omega) 33; have HR2 := hide hr2; have HR3 := hide hr3; have O3 := hide o3; have G3 := hide g3; clear hr2 hr3 R2 o3 g3 o1)
    | (at_builtin; refine Lib.wpList_append_run _ rfl (.tmp 5) (.tmp 8) 33 33 rfl _ _ rfl rfl _ _ HR2.out ?_; clear HR2)
    | (at_builtin; refine Lib.wpList_append_run _ rfl (.tmp 9) (.tmp 10) 33 9 rfl _ _ rfl rfl _ _ HR3.out ?_; clear HR3))
  go_ret
  have o3 := O3.out
  rw [List.append_assoc] at o3
  obtain ⟨a3, c3, rfl, _⟩ := (ownsRow_bytes o3).2
  exact ⟨a3, c3, rfl, o3, G3.out⟩
end Go.Proofs.YtcedpdneanjbkaaGreatDoor

/- The reference's op and Right; its Same of values. -/
namespace Go.Proofs.YtcedpdneanjbkaaGreatDoor
open Go.RowKit

theorem refNameB6_k (t : List UInt8) (ht : t.length ≤ 1048576) (w : World) : Calls Tryz.prog 62 #[.string (bsN t)] w fun e w' => e = .returned (.bool (anyB t)) ∧ Below w.heap.size w w' := by
  have h := refName_k (bsN t) (by show t.length ≤ 1048576; exact ht) w
  rw [← (name_doc (bsN t).data.toList).1] at h
  exact h
set_option maxRecDepth 100000 in
theorem op6_k (t : List UInt8) (ht : t.length ≤ 1048576) (w : World) : Calls Tryz.prog 61 #[.string (bsN t)] w fun e w' => e = .returned (.bool (symB (bsN t))) ∧ Below w.heap.size w w' := by
  have HN := hide (refNameB6_k t ht w)
  have hs : symB (bsN t) = (!(t == [116, 114, 117, 101]) && !(t == [102, 97, 108, 115, 101]) && anyB t) := by
    unfold symB anyB
    rw [bsN_toList]
  rw [hs]
  generalize anyB t = x at *
  cases x
  · go_enter Tryz.func61, Tryz.ntmps61
    go_wp2_with (go_at_call 62; refine HN.out.mono ?_; clear HN; rintro e w1 ⟨rfl, b1⟩)
    go_ret
    exact ⟨by simp, b1⟩
  · by_cases h1 : t = [116, 114, 117, 101]
    · subst h1
      go_enter Tryz.func61, Tryz.ntmps61
      go_wp2_with (go_at_call 62; refine HN.out.mono ?_; clear HN; rintro e w1 ⟨rfl, b1⟩)
      go_ret
      exact ⟨rfl, b1⟩
    · have h2 : (t == [116, 114, 117, 101]) = false := by simpa using h1
      go_enter Tryz.func61, Tryz.ntmps61
      go_wp2_with (go_at_call 62; refine HN.out.mono ?_; clear HN; rintro e w1 ⟨rfl, b1⟩)
      go_ret
      exact ⟨by simp [h2], b1⟩
set_option maxRecDepth 100000 in
set_option maxHeartbeats 4000000 in
theorem right6_k (e : Evn) (w : World) (n : Nat) (s : Value) (he : EvOk e) (hi : ItemsAt w w.heap.size n s e.val.items) :
    Calls Tryz.prog 27 #[.agg (evCells e s)] w fun r w' => r = .returned (.bool (rightE e)) ∧ Below w.heap.size w w' := by
  obtain ⟨W, hW⟩ : ∃ W, w.alloc (.cells (evCells e s) 50) = W := ⟨_, rfl⟩
  have bW : Below w.heap.size w W := by rw [← hW]; exact alloc_v (Below.refl _ _) _
  have e1 : W.heap[w.heap.size]? = some (.cells (evCells e s) 50 (0, 0)) := by rw [← hW]; exact World.alloc_heap_new w _
  have zW : w.heap.size < W.heap.size := (Array.getElem?_eq_some_iff.1 e1).1
  have c1 := cells_at e1 1 _ rfl
  have HE := hide (fun (U : World) (b : Below W.heap.size W U) => (b.block _ zW).trans e1)
  have HN1 := hide (fun (U : World) (_ : Below W.heap.size W U) => op6_k e.proc he.proc U)
  have HN2 := hide (fun (U : World) (_ : Below W.heap.size W U) => refNameB6_k e.obj he.obj U)
  have HN3 := hide (fun (U : World) (_ : Below W.heap.size W U) => op6_k e.op he.op U)
  have HV := hide (fun (U : World) (b : Below W.heap.size W U) => refRight_k e.val U n s he.val.1 ((hi.below (trans_v bW b)).up (trans_v bW b).size))
  obtain ⟨a, c, rfl, _⟩ := hi.len
  have HRE : Hid (rightE e = if e.kind = 1 then (symB (bsN e.proc) && anyB e.obj && symB (bsN e.op) && rightV e.val) else if e.kind = 2 then (symB (bsN e.proc) && e.obj.isEmpty && e.op.isEmpty && rightV e.val) else false) := hide (by unfold rightE; rfl)
  clear hi e1 he
  generalize symB (bsN e.proc) = x1 at *
  generalize anyB e.obj = x2 at *
  generalize symB (bsN e.op) = x3 at *
  generalize rightV e.val = x4 at *
  cases x1
  · go_enter Tryz.func27, Tryz.ntmps27
    go_wp2_with (first
      | (go_at_call 61; with_reducible refine (HN1.out _ (Below.refl _ _)).mono ?_; clear HN1; rintro r w1 ⟨rfl, b1⟩; have f1 := HE.out w1 b1; have d4 := cells_at f1 4 _ rfl; have d5 := cells_at f1 5 _ rfl; have d6 := cells_at f1 6 _ rfl; have d7 := cells_at f1 7 _ rfl; have d8 := cells_at f1 8 _ rfl))
    go_ret
    exact ⟨by rw [HRE.out]; simp, trans_v bW b1⟩
  cases x4
  · go_enter Tryz.func27, Tryz.ntmps27
    go_wp2_with (first
      | (go_at_call 61; with_reducible refine (HN1.out _ (Below.refl _ _)).mono ?_; clear HN1; rintro r w1 ⟨rfl, b1⟩; have f1 := HE.out w1 b1; have d4 := cells_at f1 4 _ rfl; have d5 := cells_at f1 5 _ rfl; have d6 := cells_at f1 6 _ rfl; have d7 := cells_at f1 7 _ rfl; have d8 := cells_at f1 8 _ rfl)
      | (go_at_call 29; refine (HV.out _ b1).mono ?_; clear HV; rintro r w2 ⟨rfl, b2⟩; have b3 := trans_v b1 b2; have f2 := HE.out w2 b3; have g0 := cells_at f2 0 _ rfl; have g2 := cells_at f2 2 _ rfl; have g3 := cells_at f2 3 _ rfl))
    go_ret
    exact ⟨by rw [HRE.out]; simp, trans_v bW b3⟩
  by_cases k2 : e.kind = 2
  · have k1n : ¬ (e.kind = 1) := by omega
    have hk1 : (e.kind == 1) = false := by simpa using k1n
    have hk2 : (e.kind == 2) = true := by simp [k2]
    have HR2 : Hid (rightE e = (e.obj.isEmpty && e.op.isEmpty)) := hide (by rw [HRE.out, if_neg k1n, if_pos k2]; simp)
    clear HRE k2 k1n
    have HRE := HR2
    clear HR2
    by_cases y2 : e.obj = []
    rotate_left
    · have y3 : (e.obj == []) = false := by simp [y2]
      have y4 : e.obj.isEmpty = false := by simpa using y2
      go_enter Tryz.func27, Tryz.ntmps27
      go_wp2_with (first
        | (go_at_call 61; with_reducible refine (HN1.out _ (Below.refl _ _)).mono ?_; clear HN1; rintro r w1 ⟨rfl, b1⟩; have f1 := HE.out w1 b1; have d4 := cells_at f1 4 _ rfl; have d5 := cells_at f1 5 _ rfl; have d6 := cells_at f1 6 _ rfl; have d7 := cells_at f1 7 _ rfl; have d8 := cells_at f1 8 _ rfl)
        | (go_at_call 29; refine (HV.out _ b1).mono ?_; clear HV; rintro r w2 ⟨rfl, b2⟩; have b3 := trans_v b1 b2; have f2 := HE.out w2 b3; have g0 := cells_at f2 0 _ rfl; have g2 := cells_at f2 2 _ rfl; have g3 := cells_at f2 3 _ rfl))
      go_ret
      exact ⟨by rw [HRE.out]; rw [y4]; rfl, trans_v bW b3⟩
    have y3 : (e.obj == []) = true := by simp [y2]
    have y4 : e.obj.isEmpty = true := by simp [y2]
    have Y2 := hide y2
    clear y2
    by_cases z2 : e.op = []
    · have z3 : (e.op == []) = true := by simp [z2]
      have z4 : e.op.isEmpty = true := by simp [z2]
      have Z2 := hide z2
      clear z2
      go_enter Tryz.func27, Tryz.ntmps27
      go_wp2_with (first
        | (go_at_call 61; with_reducible refine (HN1.out _ (Below.refl _ _)).mono ?_; clear HN1; rintro r w1 ⟨rfl, b1⟩; have f1 := HE.out w1 b1; have d4 := cells_at f1 4 _ rfl; have d5 := cells_at f1 5 _ rfl; have d6 := cells_at f1 6 _ rfl; have d7 := cells_at f1 7 _ rfl; have d8 := cells_at f1 8 _ rfl)
        | (go_at_call 29; refine (HV.out _ b1).mono ?_; clear HV; rintro r w2 ⟨rfl, b2⟩; have b3 := trans_v b1 b2; have f2 := HE.out w2 b3; have g0 := cells_at f2 0 _ rfl; have g2 := cells_at f2 2 _ rfl; have g3 := cells_at f2 3 _ rfl))
      go_ret
      exact ⟨by rw [HRE.out]; rw [y4, z4]; rfl, trans_v bW b3⟩
    · have z3 : (e.op == []) = false := by simp [z2]
      have z4 : e.op.isEmpty = false := by simp [z2]
      go_enter Tryz.func27, Tryz.ntmps27
      go_wp2_with (first
        | (go_at_call 61; with_reducible refine (HN1.out _ (Below.refl _ _)).mono ?_; clear HN1; rintro r w1 ⟨rfl, b1⟩; have f1 := HE.out w1 b1; have d4 := cells_at f1 4 _ rfl; have d5 := cells_at f1 5 _ rfl; have d6 := cells_at f1 6 _ rfl; have d7 := cells_at f1 7 _ rfl; have d8 := cells_at f1 8 _ rfl)
        | (go_at_call 29; refine (HV.out _ b1).mono ?_; clear HV; rintro r w2 ⟨rfl, b2⟩; have b3 := trans_v b1 b2; have f2 := HE.out w2 b3; have g0 := cells_at f2 0 _ rfl; have g2 := cells_at f2 2 _ rfl; have g3 := cells_at f2 3 _ rfl))
      go_ret
      exact ⟨by rw [HRE.out]; rw [y4, z4]; rfl, trans_v bW b3⟩
  have hk2 : (e.kind == 2) = false := by simpa using k2
  by_cases k1 : e.kind = 1
  rotate_left
  · have hk1 : (e.kind == 1) = false := by simpa using k1
    have HR2 : Hid (rightE e = false) := hide (by rw [HRE.out, if_neg k1, if_neg k2])
    clear HRE
    have HRE := HR2
    clear HR2
    go_enter Tryz.func27, Tryz.ntmps27
    go_wp2_with (first
      | (go_at_call 61; with_reducible refine (HN1.out _ (Below.refl _ _)).mono ?_; clear HN1; rintro r w1 ⟨rfl, b1⟩; have f1 := HE.out w1 b1; have d4 := cells_at f1 4 _ rfl; have d5 := cells_at f1 5 _ rfl; have d6 := cells_at f1 6 _ rfl; have d7 := cells_at f1 7 _ rfl; have d8 := cells_at f1 8 _ rfl)
      | (go_at_call 29; refine (HV.out _ b1).mono ?_; clear HV; rintro r w2 ⟨rfl, b2⟩; have b3 := trans_v b1 b2; have f2 := HE.out w2 b3; have g0 := cells_at f2 0 _ rfl; have g2 := cells_at f2 2 _ rfl; have g3 := cells_at f2 3 _ rfl))
    go_ret
    exact ⟨by rw [HRE.out]; rfl, trans_v bW b3⟩
  have hk1 : (e.kind == 1) = true := by simp [k1]
  have HR2 : Hid (rightE e = (x2 && x3)) := hide (by rw [HRE.out, if_pos k1]; simp)
  clear HRE k1 k2
  have HRE := HR2
  clear HR2
  cases x2
  · go_enter Tryz.func27, Tryz.ntmps27
    go_wp2_with (first
      | (go_at_call 61; with_reducible refine (HN1.out _ (Below.refl _ _)).mono ?_; clear HN1; rintro r w1 ⟨rfl, b1⟩; have f1 := HE.out w1 b1; have d4 := cells_at f1 4 _ rfl; have d5 := cells_at f1 5 _ rfl; have d6 := cells_at f1 6 _ rfl; have d7 := cells_at f1 7 _ rfl; have d8 := cells_at f1 8 _ rfl)
      | (go_at_call 29; refine (HV.out _ b1).mono ?_; clear HV; rintro r w2 ⟨rfl, b2⟩; have b3 := trans_v b1 b2; have f2 := HE.out w2 b3; have g0 := cells_at f2 0 _ rfl; have g2 := cells_at f2 2 _ rfl; have g3 := cells_at f2 3 _ rfl)
      | (go_at_call 62; with_reducible refine (HN2.out _ b3).mono ?_; clear HN2; rintro r w4 ⟨rfl, b4⟩; have b5 := trans_v b3 b4))
    go_ret
    exact ⟨by rw [HRE.out]; rfl, trans_v bW b5⟩
  · go_enter Tryz.func27, Tryz.ntmps27
    go_wp2_with (first
      | (go_at_call 29; refine (HV.out _ b1).mono ?_; clear HV; rintro r w2 ⟨rfl, b2⟩; have b3 := trans_v b1 b2; have f2 := HE.out w2 b3; have g0 := cells_at f2 0 _ rfl; have g2 := cells_at f2 2 _ rfl; have g3 := cells_at f2 3 _ rfl)
      | (go_at_call 62; with_reducible refine (HN2.out _ b3).mono ?_; clear HN2; rintro r w4 ⟨rfl, b4⟩; have b5 := trans_v b3 b4; have f4 := HE.out w4 b5; have h3 := cells_at f4 3 _ rfl)
      | (go_at_call 61; with_reducible refine (HN3.out _ b5).mono ?_; clear HN3; rintro r w6 ⟨rfl, b6⟩; have b7 := trans_v b5 b6)
      | (go_at_call 61; with_reducible refine (HN1.out _ (Below.refl _ _)).mono ?_; clear HN1; rintro r w1 ⟨rfl, b1⟩; have f1 := HE.out w1 b1; have d4 := cells_at f1 4 _ rfl; have d5 := cells_at f1 5 _ rfl; have d6 := cells_at f1 6 _ rfl; have d7 := cells_at f1 7 _ rfl; have d8 := cells_at f1 8 _ rfl))
    go_ret
    exact ⟨by rw [HRE.out]; simp, trans_v bW b7⟩
set_option maxRecDepth 100000 in
theorem sameV6_k (a b : Vl) (w : World) (B n m : Nat) (sa sb : Value) (hB : B ≤ w.heap.size) (ha : ItemsAt w B n sa a.items) (hb : ItemsAt w B m sb b.items) :
    Calls Tryz.prog 30 #[.agg (vcells a sa), .agg (vcells b sb)] w fun e w' => e = .returned (.bool (decide (ordV a b = 0))) ∧ Below w.heap.size w w' := by
  obtain ⟨W, hW⟩ : ∃ W, (w.alloc (.cells (vcells a sa) 46)).alloc (.cells (vcells b sb) 46) = W := ⟨_, rfl⟩
  have bW : Below w.heap.size w W := by rw [← hW]; exact alloc_v (alloc_v (Below.refl _ _) _) _
  have e1 : W.heap[w.heap.size]? = some (.cells (vcells a sa) 46 (0, 0)) := by rw [← hW]; exact (Below.heap_alloc _ _ _ (by simp)).trans (World.alloc_heap_new w _)
  have e2 : W.heap[w.heap.size + 1]? = some (.cells (vcells b sb) 46 (0, 0)) := by rw [← hW]; have := World.alloc_heap_new (w.alloc (.cells (vcells a sa) 46)) (.cells (vcells b sb) 46); rwa [World.size_alloc] at this
  have x0 := cells_at e1 0 _ rfl
  have x1 := cells_at e1 1 _ rfl
  have x2 := cells_at e1 2 _ rfl
  have x3 := cells_at e1 3 _ rfl
  have x4 := cells_at e1 4 _ rfl
  have y0 := cells_at e2 0 _ rfl
  have y1 := cells_at e2 1 _ rfl
  have y2 := cells_at e2 2 _ rfl
  have y3 := cells_at e2 3 _ rfl
  have y4 := cells_at e2 4 _ rfl
  have HO := hide (refOrder_k n a b W B m sa sb (Nat.le_trans hB bW.size) (ha.below (bW.mono hB)) (hb.below (bW.mono hB)))
  obtain ⟨o, ho⟩ : ∃ o, ordV a b = o := ⟨_, rfl⟩
  rw [ho] at HO ⊢
  obtain ⟨a1, c1, rfl, _⟩ := ha.len
  obtain ⟨a2, c2, rfl, _⟩ := hb.len
  clear ha hb e1 e2 ho
  go_enter Tryz.func30, Tryz.ntmps30
  go_wp2_with (go_at_call 65; refine HO.out.mono ?_; clear HO; rintro e w2 ⟨rfl, b2⟩)
  go_ret
  refine ⟨?_, trans_v bW b2⟩
  first | rfl | (congr 2; rw [Bool.eq_iff_iff]; simp)
end Go.Proofs.YtcedpdneanjbkaaGreatDoor

/- The reference's Encode of events. -/
namespace Go.Proofs.YtcedpdneanjbkaaGreatDoor
open Go.RowKit
open Go.Lib (uvarint uvarint_pos uvarint_length64)

theorem own_ne6 {w : World} {L eb n : Nat} {v : Value} {cs : List Value} {c : Array Value} {z : Nat × Nat} (h : w.ownsRow L 5 1 v n cs) (he : w.heap[eb]? = some (.cells c 50 z)) : v.ownBlock ≠ some eb := by
  intro e
  rcases h.2 with ⟨rfl, _⟩ | ⟨g, cap, cur, rfl, _, hg, _⟩
  · simp [Value.ownBlock] at e
  · simp only [Value.ownBlock, Option.some.injEq] at e
    subst e
    rw [hg] at he
    cases he
/-- The reference's bytes in the making, and an event that stays. -/
structure RE6 (w U : World) (eb : Nat) (c : Array Value) (v : Value) (bs : List UInt8) : Prop where
  row : U.ownsRow w.heap.size 5 1 v bs.length (cellsOf bs)
  ev : U.heap[eb]? = some (.cells c 50 (0, 0))
  bel : Below w.heap.size w U
theorem RE6.keep {w U U' : World} {eb : Nat} {c : Array Value} {v : Value} {bs : List UInt8} (h : RE6 w U eb c v bs) (hb : Below U.heap.size U U') : RE6 w U' eb c v bs :=
  ⟨h.row.kept (grown_of_below (r := none) hb) (by cases v.ownBlock <;> simp), (hb.block eb (Array.getElem?_eq_some_iff.1 h.ev).1).trans h.ev, trans_v h.bel hb⟩
theorem RE6.step {w U U' : World} {eb : Nat} {c : Array Value} {v v' : Value} {bs bs' : List UInt8} (h : RE6 w U eb c v bs) (hg : U.grownBy U' v.ownBlock) (hr : U'.ownsRow w.heap.size 5 1 v' bs'.length (cellsOf bs')) : RE6 w U' eb c v' bs' :=
  ⟨hr, (hg.block eb (Array.getElem?_eq_some_iff.1 h.ev).1 (fun e => own_ne6 h.row h.ev e.symm)).trans h.ev, h.bel.grown hg (by have := h.bel.size; omega) (fun k hk => (h.row.lt k hk).1)⟩
theorem RE6.start {w wr W1 : World} {eb : Nat} {c : Array Value} {v : Value} {bs : List UInt8} (hR : wr.ownsRow w.heap.size 5 1 v bs.length (cellsOf bs)) (hb : Below w.heap.size w wr) (b : Below wr.heap.size wr W1) (he : W1.heap[eb]? = some (.cells c 50 (0, 0))) : RE6 w W1 eb c v bs :=
  ⟨hR.kept (grown_of_below (r := none) b) (by cases v.ownBlock <;> simp), he, trans_v hb b⟩
/-- A byte is laid behind. -/
theorem RE6.byte {w U : World} {eb : Nat} {c : Array Value} {v : Value} {bs : List UInt8} (h : RE6 w U eb c v bs) (x : UInt8) (y : Int) (hy : (x.toNat : Int) = y) (hl : bs.length + 1 ≤ 1000000000000) (ty : TypeId) :
    ∃ a m n U', (Builtin.append_ #[33, 33] ty #[v, .slice (some ⟨U.heap.size, 0, none⟩) 1 1]).run Tryz.prog (U.alloc (.cells #[.int .u8 y] 5)) = .ok (.slice a m n) U' ∧ RE6 w U' eb c (.slice a m n) (bs ++ [x]) := by
  obtain ⟨v', U', hr, R⟩ := (RowB.start h.row).pushByte (by have := h.bel.size; omega) x y hy hl ty
  obtain ⟨a, n, rfl, _⟩ := (ownsRow_bytes R.row).2
  exact ⟨a, _, n, U', hr, h.step R.gr R.row⟩
/-- A name is laid behind. -/
theorem RE6.name {w U : World} {eb : Nat} {c : Array Value} {v : Value} {bs : List UInt8} (h : RE6 w U eb c v bs) (t : ByteArray) (ht : t.size ≤ 1048576) (hl : bs.length + 1048600 ≤ 1000000000000) :
    Calls Tryz.prog 35 #[v, .string t] U fun e U' => ∃ a m n, e = .returned (.slice a m n) ∧ RE6 w U' eb c (.slice a m n) (bs ++ txt t) := by
  refine (named6_k U w.heap.size h.bel.size v bs h.row t ht hl).mono ?_
  rintro e U' ⟨a, n, rfl, h1, h2⟩
  exact ⟨a, _, n, rfl, h.step h2 h1⟩
/-- A row that a callee made is laid behind. -/
theorem RE6.bytes {w U U2 : World} {eb : Nat} {c : Array Value} {v u : Value} {bs cs : List UInt8} (h : RE6 w U eb c v bs) (hu : U2.ownsRow U.heap.size 5 1 u cs.length (cellsOf cs)) (hb : Below U.heap.size U U2) (h0 : 0 < cs.length) (hl : bs.length + cs.length ≤ 1000000000000) (ty : TypeId) :
    ∃ a m n U', (Builtin.append_ #[33, 33] ty #[v, u]).run Tryz.prog U2 = .ok (.slice a m n) U' ∧ RE6 w U' eb c (.slice a m n) (bs ++ cs) := by
  obtain ⟨v', U', hr, R⟩ := (RowB.start h.row).pushRow (by have := h.bel.size; omega) hu hb h0 hl ty
  obtain ⟨a, n, rfl, _⟩ := (ownsRow_bytes R.row).2
  exact ⟨a, _, n, U', hr, h.step R.gr R.row⟩
set_option maxRecDepth 100000 in
set_option maxHeartbeats 8000000 in
theorem refEncode6_k (l : List Evn) (w : World) (n : Nat) (sa : Value) (ha : EvsAt w w.heap.size n sa l) (hlen : ∀ k, k ≤ l.length → (∀ j (h : j < l.length), j < k → rightE l[j] = true) → (uvarint l.length ++ ((l.take k).map encE).flatten).length ≤ 900000000000) :
    Calls Tryz.prog 16 #[sa] w fun e w' => EncR w l e w' := by
  obtain ⟨aa, ca, rfl, hla⟩ := ha.len
  have HA := hide ha
  have HU := hide (refUv6_k l.length (by omega) w)
  have HLEN := hide hlen
  clear ha hlen
  go_enter Tryz.func16, Tryz.ntmps16
  go_wp2_with (go_at_call 34; refine HU.out.mono ?_; clear HU; rintro e w1 ⟨u1, rfl, A1, A2⟩; obtain ⟨ua, uc, rfl, _⟩ := (ownsRow_bytes A1).2; have R1 := hide (And.intro A1 A2); clear A1 A2)
  go_loopw [4, 5] (fun b i wr => ∃ k : Nat, k ≤ l.length ∧ i = .int .i64 k ∧ wr.ownsRow w.heap.size 5 1 b (uvarint l.length ++ ((l.take k).map encE).flatten).length (cellsOf (uvarint l.length ++ ((l.take k).map encE).flatten)) ∧ Below w.heap.size w wr ∧ ∀ j (h : j < l.length), j < k → rightE l[j] = true) (fun _ i _ => l.length - (intOf i).toNat)
  case atStart => exact ⟨0, Nat.zero_le _, rfl, by simpa using R1.out.1, R1.out.2, fun j _ h => absurd h (by omega)⟩
  case round =>
    obtain ⟨k, hk, rfl, hR, hbel, hall⟩ := hrel
    obtain ⟨va0, vc0, rfl, _⟩ := id (ownsRow_bytes hR).2
    by_cases hlt : k < l.length
    · obtain ⟨b1, o1, s1, rfl, g1, p0, p1, p2, p3, p4, p5, p6, p7, p8, p9, p10, p11, p12, p13, p14⟩ := (HA.out.below hbel).item k hlt
      have l1 : b1 < wr.heap.size := by have := hbel.size; omega
      have HK := hide (HLEN.out (k + 1) hlt)
      have HN := hide (fun (h : rightE l[k] = false) (e : Ending) (w' : World) => encR_no (w := w) (e := e) (w' := w') hlt h)
      have HALL := hide (fun (h : rightE l[k] = true) => (show ∀ j (hj : j < l.length), j < k + 1 → rightE l[j] = true from fun j hj hjk => by
        by_cases e : j = k
        · subst e; exact h
        · exact hall j hj (by omega)))
      have HFL := hide (flatE_take l k hlt)
      have HRF := hide (right_framed l[k])
      have HENY := hide (fun (h : rightV l[k].val = true) (U : World) (b : Below w.heap.size w U) => (by have := refEncode_k l[k].val U n s1 p13.val p14 ((p12.kept (fun b' o hb' => (b.cell (p := ⟨b', o, none⟩) hb').trans (hbel.cell (p := ⟨b', o, none⟩) hb').symm)).up b.size); rw [h] at this; exact this : Calls Tryz.prog 36 #[.agg (vcells l[k].val s1)] U fun e w' => ∃ bv, e = .returned (.tuple #[bv, .int .i64 0]) ∧ LaidAt U w' bv (encV l[k].val)))
      obtain ⟨x1, y1, rfl, _⟩ := p12.len
      have HRG := hide (fun (U : World) (b : Below wr.heap.size wr U) => right6_k l[k] U n (.slice x1 l[k].val.items.length y1) p13 ((p12.below (b.mono hbel.size)).up (by have := b.size; have := hbel.size; omega)))
      have HBEL := hide hbel
      have HP := hide p13
      obtain ⟨W1, hW1⟩ : ∃ W1, wr.alloc (.cells (evCells l[k] (.slice x1 l[k].val.items.length y1)) 50) = W1 := ⟨_, rfl⟩
      have bW1 : Below wr.heap.size wr W1 := by rw [← hW1]; exact alloc_v (Below.refl _ _) _
      have e1 : W1.heap[wr.heap.size]? = some (.cells (evCells l[k] (.slice x1 l[k].val.items.length y1)) 50 (0, 0)) := by rw [← hW1]; exact World.alloc_heap_new wr _
      have f0 := cells_at e1 0 _ rfl
      have f1 := cells_at e1 1 _ rfl
      have f2 := cells_at e1 2 _ rfl
      have f3 := cells_at e1 3 _ rfl
      have f4 := cells_at e1 4 _ rfl
      have f5 := cells_at e1 5 _ rfl
      have f6 := cells_at e1 6 _ rfl
      have f7 := cells_at e1 7 _ rfl
      have f8 := cells_at e1 8 _ rfl
      have f9 := cells_at e1 9 _ rfl
      have f10 := cells_at e1 10 _ rfl
      have f11 := cells_at e1 11 _ rfl
      have HRE := hide (RE6.start (w := w) (eb := wr.heap.size) hR hbel bW1 e1)
      have HRG1 := hide (HRG.out W1 bW1)
      clear hbel p12 p13 p14 g1 e1 HRG hall hR
      generalize l[k] = x at *
      cases hr : rightE x with
      | false =>
        have hfin := HN.out hr
        rw [hr] at HRG1
        clear HALL HFL HK HRF HN hr HENY HRE
        go_wp2_with (go_at_call 27; refine HRG1.out.mono ?_; clear HRG1; rintro e w2 ⟨rfl, b2⟩; have B2 := hide b2; clear b2)
        go_ret2
        exact hfin _ _ rfl (trans_v HBEL.out (trans_v bW1 B2.out))
      | true =>
      rw [hr] at HRG1
      have hrr := HRF.out
      rw [hr] at hrr
      have hrb : framedB x = true ∧ rightV x.val = true := by simpa using hrr.symm
      obtain ⟨hfr, hrv⟩ := hrb
      have HENC := hide (HENY.out hrv)
      have HALL2 := hide (HALL.out hr)
      have hkk := HK.out HALL2.out
      rw [HFL.out] at hkk
      have HFLE := hide HFL.out
      clear HALL HK HFL HRF HN hr hrr hrv HENY
      generalize hbs : uvarint l.length ++ (List.map encE (List.take k l)).flatten = bs at *
      by_cases hk1x : x.kind = 1
      · skip
        obtain ⟨xk, xp, xo, xq, xv, xf, xl, xc⟩ := x
        simp only at *
        subst hk1x
        clear hfr
        have hee : encE ⟨1, xp, xo, xq, xv, xf, xl, xc⟩ = UInt8.ofNat 1 :: (txt (bsN xp) ++ ((txt (bsN xo) ++ txt (bsN xq)) ++ encV xv)) := by unfold encE; simp
        rw [hee] at hkk HFLE
        have hkk2 : bs.length + (UInt8.ofNat 1 :: (txt (bsN xp) ++ ((txt (bsN xo) ++ txt (bsN xq)) ++ encV xv))).length ≤ 900000000000 := by have h := hkk; rw [← List.append_assoc, hbs, List.length_append] at h; exact h
        simp only [List.length_cons, List.length_append] at hkk2
        have HREL := hide (show ∀ b, b = bs ++ (UInt8.ofNat 1 :: (txt (bsN xp) ++ ((txt (bsN xo) ++ txt (bsN xq)) ++ encV xv))) → b = uvarint l.length ++ (List.map encE (List.take (k + 1) l)).flatten from fun b hb => by rw [hb, HFLE.out, ← hbs, List.append_assoc])
        have hsp := HP.out.proc
        have hso := HP.out.obj
        have hsq := HP.out.op
        simp only at hsp hso hsq
        clear hkk HFLE hee hbs
        have HLB := hide hkk2
        have hw8a : IntKind.u8.wrap 1 = 1 := by decide
        have hw8b : IntKind.u8.wrap 2 = 2 := by decide
        clear hkk2
        go_wp2_with (go_at_call 27; refine HRG1.out.mono ?_; clear HRG1; rintro e w2 ⟨rfl, b2⟩; have R2 := (HRE.out.keep b2).keep (show Below w2.heap.size w2 w2.drew from ⟨rfl, rfl, rfl, Nat.le_refl _, fun _ _ => rfl⟩); obtain ⟨a3, m3, n3, w3, hr3, R3⟩ := R2.byte (UInt8.ofNat 1) 1 rfl (by have := HLB.out; omega) 33; have d0 := cells_at R2.ev 0 _ rfl; have d1 := cells_at R2.ev 1 _ rfl; have d1a := fun ob : Obj => (World.cell?_alloc_some w2.drew ⟨wr.heap.size, 1, none⟩ ob (by rw [d1]; rfl)).trans d1; have d1e : w2.cell? ⟨wr.heap.size, 1, none⟩ = some (.string (bsN xp)) := d1; have d1b := fun ob : Obj => (World.cell?_alloc_some w2 ⟨wr.heap.size, 1, none⟩ ob (by rw [d1e]; rfl)).trans d1e; have d3 := cells_at R3.ev 1 _ rfl; have HR3 := hide hr3; have HN4 := hide (R3.name (bsN xp) (by rw [bsN_size]; omega) (by have := HLB.out; simp only [List.length_append, List.length_cons, List.length_nil]; omega)); clear b2 R2 R3 hr3 HRE f0 f1 f2 f3 f4 f5 f6 f7 f8 f9 f10 f11 hW1)
        go_region_law
          (first
            | ((refine step_runV _ (by rfl) (.tmp 25) (.tmp 29) 33 (by rfl) _ _ (by rfl) (by rfl) _ w3 HR3.out ?_))
            | (go_simp; go_at_call 35; refine HN4.out.mono ?_; clear HN4; rintro e w4 ⟨a4, m4, n4, rfl, R4⟩; have q0 := cells_at R4.ev 0 _ rfl; have RR4 := hide R4; clear R4 HR3 d0 d1 d1a d1b d1e))
        all_goals
          have RD := hide (RR4.out.keep (show Below w4.heap.size w4 w4.drew from ⟨rfl, rfl, rfl, Nat.le_refl _, fun _ _ => rfl⟩))
          have x2 := cells_at RD.out.ev 2 _ rfl
          have x3 := cells_at RD.out.ev 3 _ rfl
          have HN5 := hide (RD.out.name (bsN xo) (by rw [bsN_size]; omega) (by have := HLB.out; simp only [List.length_append, List.length_cons, List.length_nil]; omega))
          go_wp2
          go_region_law
            (first
              | (go_simp; go_at_call 35; with_reducible refine HN5.out.mono ?_; clear HN5; rintro e w5 ⟨a5, m5, n5, rfl, R5⟩; have y3 := cells_at R5.ev 3 _ rfl; have HN6 := hide (R5.name (bsN xq) (by rw [bsN_size]; omega) (by have := HLB.out; simp only [List.length_append, List.length_cons, List.length_nil]; omega)); clear R5 x2 x3)
              | (go_simp; go_at_call 35; with_reducible refine HN6.out.mono ?_; clear HN6; rintro e w6 ⟨a6, m6, n6, rfl, R6⟩; have t4 := cells_at R6.ev 4 _ rfl; have t5 := cells_at R6.ev 5 _ rfl; have t6 := cells_at R6.ev 6 _ rfl; have t7 := cells_at R6.ev 7 _ rfl; have t8 := cells_at R6.ev 8 _ rfl; have RR6 := hide R6; clear R6))
          all_goals
          go_wp2_with (first
              | (go_at_call 36; refine (HENC.out _ RR6.out.bel).mono ?_; clear HENC; rintro e w7 ⟨bv, rfl, o7, b7⟩; obtain ⟨ba, bc, rfl, _⟩ := (ownsRow_bytes o7).2; obtain ⟨a8, m8, n8, w8, hr8, R8⟩ := RR6.out.bytes o7 b7 (enc_pos6 _) (by have := HLB.out; simp only [List.length_append, List.length_cons, List.length_nil]; omega) 33; have HR8 := hide hr8; have RR8 := hide R8; clear hr8 R8 o7 b7)
              | (at_builtin; refine Lib.wpList_append_run _ rfl (.tmp 50) (.tmp 51) 33 33 rfl _ _ rfl rfl _ _ HR8.out ?_; clear HR8))
          go_roundw
          case rel => exact ⟨k + 1, by omega, by go_num, by rw [← HREL.out _ rfl]; simpa using RR8.out.row, RR8.out.bel, HALL2.out⟩
          case measure => simp [intOf]; omega
      · skip
        obtain ⟨xk, xp, xo, xq, xv, xf, xl, xc⟩ := x
        simp only at *
        have hk2x : xk = 2 := by
          have h := hfr
          unfold framedB at h
          simp only at h
          rw [if_neg hk1x] at h
          split at h
          · assumption
          · cases h
        subst hk2x
        clear hk1x
        clear hfr
        have hee : encE ⟨2, xp, xo, xq, xv, xf, xl, xc⟩ = UInt8.ofNat 2 :: (txt (bsN xp) ++ encV xv) := by unfold encE; simp
        rw [hee] at hkk HFLE
        have hkk2 : bs.length + (UInt8.ofNat 2 :: (txt (bsN xp) ++ encV xv)).length ≤ 900000000000 := by have h := hkk; rw [← List.append_assoc, hbs, List.length_append] at h; exact h
        simp only [List.length_cons, List.length_append] at hkk2
        have HREL := hide (show ∀ b, b = bs ++ (UInt8.ofNat 2 :: (txt (bsN xp) ++ encV xv)) → b = uvarint l.length ++ (List.map encE (List.take (k + 1) l)).flatten from fun b hb => by rw [hb, HFLE.out, ← hbs, List.append_assoc])
        have hsp := HP.out.proc
        have hso := HP.out.obj
        have hsq := HP.out.op
        simp only at hsp hso hsq
        clear hkk HFLE hee hbs
        have HLB := hide hkk2
        have hw8a : IntKind.u8.wrap 1 = 1 := by decide
        have hw8b : IntKind.u8.wrap 2 = 2 := by decide
        clear hkk2
        go_wp2_with (go_at_call 27; refine HRG1.out.mono ?_; clear HRG1; rintro e w2 ⟨rfl, b2⟩; have R2 := (HRE.out.keep b2).keep (show Below w2.heap.size w2 w2.drew from ⟨rfl, rfl, rfl, Nat.le_refl _, fun _ _ => rfl⟩); obtain ⟨a3, m3, n3, w3, hr3, R3⟩ := R2.byte (UInt8.ofNat 2) 2 rfl (by have := HLB.out; omega) 33; have d0 := cells_at R2.ev 0 _ rfl; have d1 := cells_at R2.ev 1 _ rfl; have d1a := fun ob : Obj => (World.cell?_alloc_some w2.drew ⟨wr.heap.size, 1, none⟩ ob (by rw [d1]; rfl)).trans d1; have d1e : w2.cell? ⟨wr.heap.size, 1, none⟩ = some (.string (bsN xp)) := d1; have d1b := fun ob : Obj => (World.cell?_alloc_some w2 ⟨wr.heap.size, 1, none⟩ ob (by rw [d1e]; rfl)).trans d1e; have d3 := cells_at R3.ev 1 _ rfl; have HR3 := hide hr3; have HN4 := hide (R3.name (bsN xp) (by rw [bsN_size]; omega) (by have := HLB.out; simp only [List.length_append, List.length_cons, List.length_nil]; omega)); clear b2 R2 R3 hr3 HRE f0 f1 f2 f3 f4 f5 f6 f7 f8 f9 f10 f11 hW1)
        go_region_law
          (first
            | ((refine step_runV _ (by rfl) (.tmp 25) (.tmp 29) 33 (by rfl) _ _ (by rfl) (by rfl) _ w3 HR3.out ?_))
            | (go_simp; go_at_call 35; refine HN4.out.mono ?_; clear HN4; rintro e w4 ⟨a4, m4, n4, rfl, R4⟩; have q0 := cells_at R4.ev 0 _ rfl; have t4 := cells_at R4.ev 4 _ rfl; have t5 := cells_at R4.ev 5 _ rfl; have t6 := cells_at R4.ev 6 _ rfl; have t7 := cells_at R4.ev 7 _ rfl; have t8 := cells_at R4.ev 8 _ rfl; have RR4 := hide R4; clear R4 HR3 d0 d1 d1a d1b d1e))
        all_goals
          go_wp2_with (first
              | (go_at_call 36; refine (HENC.out _ RR4.out.bel).mono ?_; clear HENC; rintro e w7 ⟨bv, rfl, o7, b7⟩; obtain ⟨ba, bc, rfl, _⟩ := (ownsRow_bytes o7).2; obtain ⟨a8, m8, n8, w8, hr8, R8⟩ := RR4.out.bytes o7 b7 (enc_pos6 _) (by have := HLB.out; simp only [List.length_append, List.length_cons, List.length_nil]; omega) 33; have HR8 := hide hr8; have RR8 := hide R8; clear hr8 R8 o7 b7)
              | (at_builtin; refine Lib.wpList_append_run _ rfl (.tmp 50) (.tmp 51) 33 33 rfl _ _ rfl rfl _ _ HR8.out ?_; clear HR8))
          go_roundw
          case rel => exact ⟨k + 1, by omega, by go_num, by rw [← HREL.out _ rfl]; simpa using RR8.out.row, RR8.out.bel, HALL2.out⟩
          case measure => simp [intOf]; omega
    · have hke : k = l.length := by omega
      have HEND := hide (show EncR w l (.returned (.tuple #[.slice va0 (uvarint l.length ++ ((l.take k).map encE).flatten).length vc0, .int .i64 0])) wr from by
        subst hke
        unfold EncR
        rw [if_pos (List.all_eq_true.2 fun x hx => by obtain ⟨j, hj, rfl⟩ := List.getElem_of_mem hx; exact hall j hj hj)]
        have e : uvarint l.length ++ ((l.take l.length).map encE).flatten = encL l := by rw [List.take_length]; rfl
        have hrow := hR
        rw [e] at hrow ⊢
        exact ⟨_, _, rfl, hrow, hbel⟩)
      clear hR hbel hall
      go_wp2
      go_ret2
      exact HEND.out
end Go.Proofs.YtcedpdneanjbkaaGreatDoor
