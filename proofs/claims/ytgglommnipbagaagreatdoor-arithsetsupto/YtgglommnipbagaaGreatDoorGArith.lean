/- Arithmetic: what all of it calls. -/
import Derived.Test.YtgglommnipbagaaGreatDoorZALet
import Derived.Test.YtgglommnipbagaaGreatDoorZAFloat
import Derived.WalkLawsBesides
import Derived.Test.YtgglommnipbagaaGreatDoorGOpens
namespace Go.Proofs.YtgglommnipbagaaGreatDoor
open Go.RowKit

set_option maxRecDepth 100000 in
set_option maxHeartbeats 1000000 in
/-- Whether all items of a row are right. -/
theorem aright_k (its : List Vl) (w : World) (n : Nat) (sl : Value) (hT : TabL w) (hi : ItemsAt w w.heap.size (n + 2) sl its) :
    Calls Tryz.prog 66 #[sl] w fun e w' => e = .returned (.bool (its.all rightV)) ∧ Below w.heap.size w w' := by
  have HV := hide hi
  have HT := hide hT
  obtain ⟨a, c, rfl, hla⟩ := hi.len
  unfold maxLen at hla
  clear hi hT
  go_enter Tryz.func66, Tryz.ntmps66
  go_wp2
  go_loopw [7] (fun i wr => ∃ k : Nat, k ≤ its.length ∧ i = .int .i64 k ∧ (∀ j (h : j < its.length), j < k → rightV its[j] = true) ∧ Below w.heap.size w wr) (fun i _ => its.length - (intOf i).toNat)
  case atStart => exact ⟨0, Nat.zero_le _, rfl, fun j _ h => by omega, Below.refl _ _⟩
  case round =>
    obtain ⟨k, hk, rfl, hz, hbel⟩ := hrel
    by_cases hlt : k < its.length
    · obtain ⟨b1, o1, s1, rfl, g1, p0, p1, p2, p3, p4, p5, p6⟩ := (HV.out.below hbel).item k hlt
      have l1 : b1 < wr.heap.size := by have := hbel.size; omega
      have HC := hide (fun (U : World) (b : Below wr.heap.size wr U) => checkL_k its[k] U (n + 1) s1 (HT.out.below (trans_v hbel b)) p6.1 ((p5.below (b.mono (by have := hbel.size; omega))).up (by have := hbel.size; have := b.size; omega)))
      have HN := hide (fun (h : rightV its[k] = true) => (show ∀ j (h : j < its.length), j < k + 1 → rightV its[j] = true from fun j hj hjk => by
        by_cases e : j = k
        · subst e; exact h
        · exact hz j hj (by omega)))
      have HNO := hide (fun (h : rightV its[k] = false) => (show its.all rightV = false from List.all_eq_false.2 ⟨_, List.getElem_mem hlt, by rw [h]; simp⟩))
      obtain ⟨xx1, yy1, rfl, _⟩ := p5.len
      have HB2 := hide hbel
      clear hz p5 p6 hbel g1
      generalize hx : rightV its[k] = x at *
      clear hx
      generalize its[k].items = xi at *
      generalize its[k] = y at *
      cases x
      · go_wp2_with (go_at_call 52; refine (HC.out _ (alloc_v (Below.refl _ _) _)).mono ?_; clear HC; rintro e w2 ⟨rfl, b2⟩; have B2 := hide b2; clear b2)
        go_ret
        rw [HNO.out trivial]
        exact ⟨rfl, trans_v HB2.out (trans_v (alloc_v (Below.refl _ _) _) B2.out)⟩
      · go_wp2_with (go_at_call 52; refine (HC.out _ (alloc_v (Below.refl _ _) _)).mono ?_; clear HC; rintro e w2 ⟨rfl, b2⟩; have B2 := hide b2; clear b2)
        go_roundw
        case rel => exact ⟨k + 1, by omega, by go_num, HN.out trivial, trans_v HB2.out (trans_v (alloc_v (Below.refl _ _) _) B2.out)⟩
        case measure => simp [intOf]; omega
    · have hall : its.all rightV = true := List.all_eq_true.2 fun x hx => by
        obtain ⟨j, hj, rfl⟩ := List.getElem_of_mem hx
        exact hz j hj (by omega)
      have HB2 := hide hbel
      clear hz hbel
      go_wp2
      go_ret
      rw [hall]
      exact ⟨rfl, HB2.out⟩
theorem two_below (w : World) (o o' : Obj) : Below w.heap.size w ((w.alloc o).alloc o') := alloc_v (alloc_v (Below.refl _ _) _) _
theorem two_first (w : World) (o o' : Obj) : ((w.alloc o).alloc o').heap[w.heap.size]? = some o := (Below.heap_alloc _ _ _ (by simp)).trans (World.alloc_heap_new w _)
theorem two_second (w : World) (o o' : Obj) : ((w.alloc o).alloc o').heap[w.heap.size + 1]? = some o' := by
  have := World.alloc_heap_new (w.alloc o) o'
  rwa [World.size_alloc] at this
set_option maxRecDepth 100000 in
/-- What layer 4 refuses is stuck. -/
theorem limited_k (v : Vl) (a : Option Addr) (l c : Nat) (x : Int) (w : World) :
    Calls Tryz.prog 118 #[.agg (vcells v (.slice a l c)), .int .i64 x] w fun e w' => e = .returned (.tuple #[.agg (bif x == 0 then vcells v (.slice a l c) else zcells), .int .i64 (bif x == 0 then 0 else 50)]) ∧ Below w.heap.size w w' := by
  obtain ⟨W, hW⟩ : ∃ W, (w.alloc (.cells (vcells v (.slice a l c)) 25)).alloc (.cells zcells 25) = W := ⟨_, rfl⟩
  have bW : Below w.heap.size w W := by rw [← hW]; exact two_below _ _ _
  have e1 : W.heap[w.heap.size]? = some (.cells (vcells v (.slice a l c)) 25 (0, 0)) := by rw [← hW]; exact two_first _ _ _
  have e2 : W.heap[w.heap.size + 1]? = some (.cells zcells 25 (0, 0)) := by rw [← hW]; exact two_second _ _ _
  have x0 := cells_at e1 0 _ rfl
  have x1 := cells_at e1 1 _ rfl
  have x2 := cells_at e1 2 _ rfl
  have x3 := cells_at e1 3 _ rfl
  have x4 := cells_at e1 4 _ rfl
  have y0 := cells_at e2 0 _ rfl
  have y1 := cells_at e2 1 _ rfl
  have y2 := cells_at e2 2 _ rfl
  have y3 := cells_at e2 3 _ rfl
  have y4 := cells_at e2 4 _ rfl
  have q0 := frozen_at e2 0
  have q1 := frozen_at e2 1
  have q2 := frozen_at e2 2
  have q3 := frozen_at e2 3
  have q4 := frozen_at e2 4
  have E := hide e2
  clear e1 e2
  by_cases hx : x = 0
  · subst hx
    go_enter Tryz.func118, Tryz.ntmps118
    go_wp2
    have g := stored w W v.kind v.int v.im v.text (.slice a l c) zcells (w.heap.size + 1) (by omega) bW rfl E.out
    refine bodyPost_ret (results_struct_tmp rfl _ _ (w.heap.size + 1) _ _ _ _ rfl g.1 Tryz.underlying25 rfl infoVal5) rfl ?_
    exact ⟨rfl, g.2⟩
  · have hx1 : (x == 0) = false := by simpa using hx
    have hx2 : (x != 0) = true := by simpa using hx
    rw [hx1]
    go_enter Tryz.func118, Tryz.ntmps118
    go_wp2
    have g := stored w W 0 0 0 ⟨#[]⟩ (.slice none 0 0) zcells (w.heap.size + 1) (by omega) bW rfl E.out
    refine bodyPost_ret (results_struct_tmp rfl _ _ (w.heap.size + 1) _ _ _ _ rfl g.1 Tryz.underlying25 rfl infoVal5) rfl ?_
    exact ⟨rfl, g.2⟩
set_option maxRecDepth 100000 in
/-- A Gaussian number as a complex one. -/
theorem toComplex_k (v : Vl) (a : Option Addr) (l c : Nat) (w : World) :
    Calls Tryz.prog 72 #[.agg (vcells v (.slice a l c))] w fun e w' => e = .returned (.complex .f64 (floatOfInt .f64 v.int) (floatOfInt .f64 v.im)) ∧ Below w.heap.size w w' := by
  obtain ⟨W, hW⟩ : ∃ W, w.alloc (.cells (vcells v (.slice a l c)) 25) = W := ⟨_, rfl⟩
  have bW : Below w.heap.size w W := by rw [← hW]; exact alloc_v (Below.refl _ _) _
  have e1 : W.heap[w.heap.size]? = some (.cells (vcells v (.slice a l c)) 25 (0, 0)) := by rw [← hW]; exact World.alloc_heap_new w _
  have x1 := cells_at e1 1 _ rfl
  have x2 := cells_at e1 2 _ rfl
  clear e1
  go_enter Tryz.func72, Tryz.ntmps72
  go_wp2
  go_ret
  exact ⟨rfl, bW⟩
set_option maxRecDepth 100000 in
/-- A complex number of whole parts as a Gaussian one. -/
theorem fromComplex_k {x y : Nat} {i m : Int} (hx : Rep x i) (hy : Rep y m) (h1 : -9223372036854775808 ≤ i) (h2 : i ≤ 9223372036854775807) (h3 : -9223372036854775808 ≤ m) (h4 : m ≤ 9223372036854775807) (w : World) :
    Calls Tryz.prog 117 #[.complex .f64 x y] w fun e w' => e = .returned (.tuple #[.agg (bif gaussB i m then vcells ⟨3, i, m, ⟨#[]⟩, []⟩ (.slice none 0 0) else zcells), .int .i64 (bif gaussB i m then 0 else 50)]) ∧ Below w.heap.size w w' := by
  have c1 : ∀ U : World, (convert 144 2 (.float .f64 x)).run Tryz.prog U = .ok (.int .i64 i) U := fun U => run_convert_float_int U _ _ .f64 .i64 x i (by rw [Tryz.underlying144]; rfl) Tryz.underlying2 (int_rep hx h1 h2)
  have c2 : ∀ U : World, (convert 144 2 (.float .f64 y)).run Tryz.prog U = .ok (.int .i64 m) U := fun U => run_convert_float_int U _ _ .f64 .i64 y m (by rw [Tryz.underlying144]; rfl) Tryz.underlying2 (int_rep hy h3 h4)
  obtain ⟨W, hW⟩ : ∃ W, w.alloc (.cells zcells 25) = W := ⟨_, rfl⟩
  have bW : Below w.heap.size w W := by rw [← hW]; exact alloc_v (Below.refl _ _) _
  have e1 : W.heap[w.heap.size]? = some (.cells zcells 25 (0, 0)) := by rw [← hW]; exact World.alloc_heap_new w _
  have zW : w.heap.size < W.heap.size := (Array.getElem?_eq_some_iff.1 e1).1
  have E := hide e1
  have HG := hide (gauss_k i m W)
  have HL := hide (fun (U : World) => limited_k ⟨3, i, m, ⟨#[]⟩, []⟩ none 0 0 0 U)
  have HL0 := hide (fun (U : World) => limited_k ⟨0, 0, 0, ⟨#[]⟩, []⟩ none 0 0 42 U)
  clear e1 hx hy h1 h2 h3 h4
  generalize gaussB i m = u at *
  cases u
  · go_enter Tryz.func117, Tryz.ntmps117
    go_wp2_with (first
      | (go_at_call 11; refine HG.out.mono ?_; clear HG; rintro e w2 ⟨rfl, b2⟩)
      | (go_at_call 118; refine (HL0.out _).mono ?_; clear HL0; rintro e w3 ⟨rfl, b3⟩; have e3 := (b3.block _ (Nat.lt_of_lt_of_le zW b2.size)).trans ((b2.block _ zW).trans E.out); have E3 := hide e3; have y0 := cells_at e3 0 _ rfl; have y1 := cells_at e3 1 _ rfl; have y2 := cells_at e3 2 _ rfl; have y3 := cells_at e3 3 _ rfl; have y4 := cells_at e3 4 _ rfl; have p0 := frozen_at e3 0; have p1 := frozen_at e3 1; have p2 := frozen_at e3 2; have p3 := frozen_at e3 3; have p4 := frozen_at e3 4; clear e3))
    have g := stored w w3 0 0 0 ⟨#[]⟩ (.slice none 0 0) zcells w.heap.size (Nat.le_refl _) (trans_v (trans_v bW b2) b3) rfl E3.out
    refine bodyPost_ret (results_struct_tmp rfl _ _ w.heap.size _ _ _ _ rfl g.1 Tryz.underlying25 rfl infoVal5) rfl ?_
    exact ⟨rfl, g.2⟩
  · go_enter Tryz.func117, Tryz.ntmps117
    go_wp2_with (first
      | (go_at_call 11; refine HG.out.mono ?_; clear HG; rintro e w2 ⟨rfl, b2⟩)
      | (go_at_call 118; refine (HL.out _).mono ?_; clear HL; rintro e w3 ⟨rfl, b3⟩; have e3 := (b3.block _ (Nat.lt_of_lt_of_le zW b2.size)).trans ((b2.block _ zW).trans E.out); have E3 := hide e3; have y0 := cells_at e3 0 _ rfl; have y1 := cells_at e3 1 _ rfl; have y2 := cells_at e3 2 _ rfl; have y3 := cells_at e3 3 _ rfl; have y4 := cells_at e3 4 _ rfl; have p0 := frozen_at e3 0; have p1 := frozen_at e3 1; have p2 := frozen_at e3 2; have p3 := frozen_at e3 3; have p4 := frozen_at e3 4; clear e3))
    have g := stored w w3 3 i m ⟨#[]⟩ (.slice none 0 0) zcells w.heap.size (Nat.le_refl _) (trans_v (trans_v bW b2) b3) rfl E3.out
    refine bodyPost_ret (results_struct_tmp rfl _ _ w.heap.size _ _ _ _ rfl g.1 Tryz.underlying25 rfl infoVal5) rfl ?_
    exact ⟨rfl, g.2⟩
end Go.Proofs.YtgglommnipbagaaGreatDoor

/- Arithmetic: the operations of one value. -/
namespace Go.Proofs.YtgglommnipbagaaGreatDoor
open Go.RowKit

abbrev zeroV : Vl := ⟨0, 0, 0, ⟨#[]⟩, []⟩
/-- A row of one value that was just made. -/
theorem items_one {W : World} {n : Nat} {v : Vl} {sl : Value} (hs : ItemsAt W W.heap.size n sl v.items) (hok : v.ok) : ItemsAt (W.alloc (.cells (vcells v sl) 25)) (W.alloc (.cells (vcells v sl) 25)).heap.size (n + 1) (.slice (some ⟨W.heap.size, 0, none⟩) 1 1) [v] := by
  have e1 := World.alloc_heap_new W (.cells (vcells v sl) 25)
  refine ⟨_, _, rfl, by simp [maxLen], fun j hj => ?_⟩
  obtain rfl : j = 0 := by simpa using hj
  exact ⟨W.heap.size, 0, sl, rfl, by simp, cells_at e1 0 _ rfl, cells_at e1 1 _ rfl, cells_at e1 2 _ rfl, cells_at e1 3 _ rfl, cells_at e1 4 _ rfl, (hs.below (alloc_v (Below.refl _ _) _)).up (by simp), hok⟩
/-- A row of two values that was just made. -/
theorem items_two {W : World} {n : Nat} {a b : Vl} {sa sb : Value} (ha : ItemsAt W W.heap.size n sa a.items) (hb : ItemsAt W W.heap.size n sb b.items) (oa : a.ok) (ob : b.ok) :
    ItemsAt (W.alloc (.cells #[.int .i64 a.kind, .int .i64 a.int, .int .i64 a.im, .string a.text, sa, .int .i64 b.kind, .int .i64 b.int, .int .i64 b.im, .string b.text, sb] 25)) (W.heap.size + 1) (n + 1) (.slice (some ⟨W.heap.size, 0, none⟩) 2 2) [a, b] := by
  obtain ⟨U, hU⟩ : ∃ U, W.alloc (.cells #[.int .i64 a.kind, .int .i64 a.int, .int .i64 a.im, .string a.text, sa, .int .i64 b.kind, .int .i64 b.int, .int .i64 b.im, .string b.text, sb] 25) = U := ⟨_, rfl⟩
  have e1 : U.heap[W.heap.size]? = some (.cells #[.int .i64 a.kind, .int .i64 a.int, .int .i64 a.im, .string a.text, sa, .int .i64 b.kind, .int .i64 b.int, .int .i64 b.im, .string b.text, sb] 25 (0, 0)) := by rw [← hU]; exact World.alloc_heap_new W _
  have bU : Below W.heap.size W U := by rw [← hU]; exact alloc_v (Below.refl _ _) _
  rw [hU]
  refine ⟨_, _, rfl, by simp [maxLen], fun j hj => ?_⟩
  have hj' : j = 0 ∨ j = 1 := by simp at hj; omega
  rcases hj' with rfl | rfl
  · exact ⟨W.heap.size, 0, sa, rfl, by simp, cells_at e1 0 _ rfl, cells_at e1 1 _ rfl, cells_at e1 2 _ rfl, cells_at e1 3 _ rfl, cells_at e1 4 _ rfl, (ha.below bU).up (by simp), oa⟩
  · exact ⟨W.heap.size, 0, sb, rfl, by simp, cells_at e1 5 _ rfl, cells_at e1 6 _ rfl, cells_at e1 7 _ rfl, cells_at e1 8 _ rfl, cells_at e1 9 _ rfl, (hb.below bU).up (by simp), ob⟩
/-- What an operation of one value answers, and its error. -/
def unV (op : ByteArray) (v : Vl) : Vl × Int :=
  bif rightV v then
    bif (op.toList == [45]) then (if v.kind = 2 then (⟨2, wrap64 (-v.int), 0, ⟨#[]⟩, []⟩, 0) else if v.kind = 3 then (⟨3, -v.int, -v.im, ⟨#[]⟩, []⟩, 0) else (zeroV, 51))
    else bif (op.toList == [110, 111, 116]) then (if v.kind = 1 then (⟨1, bif v.int == 0 then 1 else 0, 0, ⟨#[]⟩, []⟩, 0) else (zeroV, 51))
    else (zeroV, 51)
  else (zeroV, 2)
theorem right_gauss {i m : Int} {t : ByteArray} {l : List Vl} (h : rightV ⟨3, i, m, t, l⟩ = true) : (-1048576 ≤ i ∧ i ≤ 1048576) ∧ (-1048576 ≤ m ∧ m ≤ 1048576) := by
  have := (form_parts (form_right h)).1.2
  unfold goodB at this
  simpa using this
theorem gaussB_neg {i m : Int} (h : (-1048576 ≤ i ∧ i ≤ 1048576) ∧ (-1048576 ≤ m ∧ m ≤ 1048576)) : gaussB (-i) (-m) = true := by
  unfold gaussB
  simp only [Bool.and_eq_true, decide_eq_true_eq]
  omega
set_option maxRecDepth 100000 in
set_option maxHeartbeats 1000000 in
theorem unary_k (op : ByteArray) (v : Vl) (w : World) (n : Nat) (sl : Value) (hT : TabL w) (hok : v.ok) (hs : ItemsAt w w.heap.size n sl v.items) :
    Calls Tryz.prog 88 #[.string op, .agg (vcells v sl)] w fun e w' => e = .returned (.tuple #[.agg (vcells (unV op v).1 (.slice none 0 0)), .int .i64 (unV op v).2]) ∧ Below w.heap.size w w' := by
  obtain ⟨W, hW⟩ : ∃ W, (w.alloc (.cells (vcells v sl) 25)).alloc (.cells zcells 25) = W := ⟨_, rfl⟩
  have bW : Below w.heap.size w W := by rw [← hW]; exact two_below _ _ _
  have e1 : W.heap[w.heap.size]? = some (.cells (vcells v sl) 25 (0, 0)) := by rw [← hW]; exact two_first _ _ _
  have e2 : W.heap[w.heap.size + 1]? = some (.cells zcells 25 (0, 0)) := by rw [← hW]; exact two_second _ _ _
  have zW : w.heap.size + 1 < W.heap.size := (Array.getElem?_eq_some_iff.1 e2).1
  have x0 := cells_at e1 0 _ rfl
  have x1 := cells_at e1 1 _ rfl
  have x2 := cells_at e1 2 _ rfl
  have x3 := cells_at e1 3 _ rfl
  have x4 := cells_at e1 4 _ rfl
  have E1 := hide e1
  have E2 := hide e2
  have hs' := ((hs.below bW).up bW.size).more
  have HR := hide (aright_k [v] (W.alloc (.cells (vcells v sl) 25)) n (.slice (some ⟨W.heap.size, 0, none⟩) 1 1) (hT.below (alloc_v bW _)) (items_one hs' hok))
  obtain ⟨a, c, rfl, _⟩ := hs.len
  obtain ⟨k, i, m, t, l⟩ := v
  clear hs hs' e1 e2 hT
  have hall : [(⟨k, i, m, t, l⟩ : Vl)].all rightV = rightV ⟨k, i, m, t, l⟩ := by simp
  rw [hall] at HR
  clear hall
  unfold unV
  simp only
  cases hr : rightV ⟨k, i, m, t, l⟩
  · rw [hr] at HR
    clear hr
    simp only [cond_false]
    go_enter Tryz.func88, Tryz.ntmps88
    go_wp2_with (go_at_call 66; refine HR.out.mono ?_; clear HR; rintro e w2 ⟨rfl, b2⟩; have b3 := trans_v (alloc_v (Below.refl _ _) _) b2; have f2 := (b3.block _ zW).trans E2.out; have F2 := hide f2; have y0 := cells_at f2 0 _ rfl; have y1 := cells_at f2 1 _ rfl; have y2 := cells_at f2 2 _ rfl; have y3 := cells_at f2 3 _ rfl; have y4 := cells_at f2 4 _ rfl; have q0 := frozen_at f2 0; have q1 := frozen_at f2 1; have q2 := frozen_at f2 2; have q3 := frozen_at f2 3; have q4 := frozen_at f2 4; clear f2)
    have g := stored w w2 0 0 0 ⟨#[]⟩ (.slice none 0 0) zcells (w.heap.size + 1) (by omega) (trans_v bW b3) rfl F2.out
    refine bodyPost_ret (results_struct_tmp rfl _ _ (w.heap.size + 1) _ _ _ _ rfl g.1 Tryz.underlying25 rfl infoVal5) rfl ?_
    exact ⟨rfl, g.2⟩
  · rw [hr] at HR
    have HG := hide (fun (h : k = 3) => right_gauss (h ▸ hr))
    clear hr
    cases hd : (op.toList == [45])
    · cases hn : (op.toList == [110, 111, 116])
      · simp only [cond_true, cond_false]
        go_enter Tryz.func88, Tryz.ntmps88
        go_wp2_with (go_at_call 66; refine HR.out.mono ?_; clear HR; rintro e w2 ⟨rfl, b2⟩; have b3 := trans_v (alloc_v (Below.refl _ _) _) b2; have f1 := (b3.block _ (Nat.lt_trans (Nat.lt_succ_self _) zW)).trans E1.out; have f2 := (b3.block _ zW).trans E2.out; have F2 := hide f2; have z0 := cells_at f1 0 _ rfl; have z1 := cells_at f1 1 _ rfl; have z2 := cells_at f1 2 _ rfl; have z3 := cells_at f1 3 _ rfl; have z4 := cells_at f1 4 _ rfl; have y0 := cells_at f2 0 _ rfl; have y1 := cells_at f2 1 _ rfl; have y2 := cells_at f2 2 _ rfl; have y3 := cells_at f2 3 _ rfl; have y4 := cells_at f2 4 _ rfl; have q0 := frozen_at f2 0; have q1 := frozen_at f2 1; have q2 := frozen_at f2 2; have q3 := frozen_at f2 3; have q4 := frozen_at f2 4; clear f1 f2)
        have g := stored w w2 0 0 0 ⟨#[]⟩ (.slice none 0 0) zcells (w.heap.size + 1) (by omega) (trans_v bW b3) rfl F2.out
        refine bodyPost_ret (results_struct_tmp rfl _ _ (w.heap.size + 1) _ _ _ _ rfl g.1 Tryz.underlying25 rfl infoVal5) rfl ?_
        exact ⟨rfl, g.2⟩
      · by_cases h1 : k = 1
        · subst h1
          simp only [cond_true, cond_false, if_true]
          cases hz : (i == 0)
          · have HB := hide (fun (U : World) => bool_k false U)
            go_enter Tryz.func88, Tryz.ntmps88
            go_wp2_with (first | (go_at_call 66; refine HR.out.mono ?_; clear HR; rintro e w2 ⟨rfl, b2⟩; have b3 := trans_v (alloc_v (Below.refl _ _) _) b2; have f1 := (b3.block _ (Nat.lt_trans (Nat.lt_succ_self _) zW)).trans E1.out; have f2 := (b3.block _ zW).trans E2.out; have F2 := hide f2; have z0 := cells_at f1 0 _ rfl; have z1 := cells_at f1 1 _ rfl; have z2 := cells_at f1 2 _ rfl; have z3 := cells_at f1 3 _ rfl; have z4 := cells_at f1 4 _ rfl; have y0 := cells_at f2 0 _ rfl; have y1 := cells_at f2 1 _ rfl; have y2 := cells_at f2 2 _ rfl; have y3 := cells_at f2 3 _ rfl; have y4 := cells_at f2 4 _ rfl; have q0 := frozen_at f2 0; have q1 := frozen_at f2 1; have q2 := frozen_at f2 2; have q3 := frozen_at f2 3; have q4 := frozen_at f2 4; clear f1 f2) | (go_at_call 16; refine (HB.out _).mono ?_; clear HB; rintro e w4 ⟨rfl, b4⟩; have g2 := (b4.block _ (Nat.lt_of_lt_of_le zW b3.size)).trans F2.out; have G2 := hide g2; have u0 := cells_at g2 0 _ rfl; have u1 := cells_at g2 1 _ rfl; have u2 := cells_at g2 2 _ rfl; have u3 := cells_at g2 3 _ rfl; have u4 := cells_at g2 4 _ rfl; have p0 := frozen_at g2 0; have p1 := frozen_at g2 1; have p2 := frozen_at g2 2; have p3 := frozen_at g2 3; have p4 := frozen_at g2 4; clear g2))
            have g := stored w w4 1 0 0 ⟨#[]⟩ (.slice none 0 0) zcells (w.heap.size + 1) (by omega) (trans_v (trans_v bW b3) b4) rfl G2.out
            refine bodyPost_ret (results_struct_tmp rfl _ _ (w.heap.size + 1) _ _ _ _ rfl g.1 Tryz.underlying25 rfl infoVal5) rfl ?_
            exact ⟨rfl, g.2⟩
          · have HB := hide (fun (U : World) => bool_k true U)
            go_enter Tryz.func88, Tryz.ntmps88
            go_wp2_with (first | (go_at_call 66; refine HR.out.mono ?_; clear HR; rintro e w2 ⟨rfl, b2⟩; have b3 := trans_v (alloc_v (Below.refl _ _) _) b2; have f1 := (b3.block _ (Nat.lt_trans (Nat.lt_succ_self _) zW)).trans E1.out; have f2 := (b3.block _ zW).trans E2.out; have F2 := hide f2; have z0 := cells_at f1 0 _ rfl; have z1 := cells_at f1 1 _ rfl; have z2 := cells_at f1 2 _ rfl; have z3 := cells_at f1 3 _ rfl; have z4 := cells_at f1 4 _ rfl; have y0 := cells_at f2 0 _ rfl; have y1 := cells_at f2 1 _ rfl; have y2 := cells_at f2 2 _ rfl; have y3 := cells_at f2 3 _ rfl; have y4 := cells_at f2 4 _ rfl; have q0 := frozen_at f2 0; have q1 := frozen_at f2 1; have q2 := frozen_at f2 2; have q3 := frozen_at f2 3; have q4 := frozen_at f2 4; clear f1 f2) | (go_at_call 16; refine (HB.out _).mono ?_; clear HB; rintro e w4 ⟨rfl, b4⟩; have g2 := (b4.block _ (Nat.lt_of_lt_of_le zW b3.size)).trans F2.out; have G2 := hide g2; have u0 := cells_at g2 0 _ rfl; have u1 := cells_at g2 1 _ rfl; have u2 := cells_at g2 2 _ rfl; have u3 := cells_at g2 3 _ rfl; have u4 := cells_at g2 4 _ rfl; have p0 := frozen_at g2 0; have p1 := frozen_at g2 1; have p2 := frozen_at g2 2; have p3 := frozen_at g2 3; have p4 := frozen_at g2 4; clear g2))
            have g := stored w w4 1 1 0 ⟨#[]⟩ (.slice none 0 0) zcells (w.heap.size + 1) (by omega) (trans_v (trans_v bW b3) b4) rfl G2.out
            refine bodyPost_ret (results_struct_tmp rfl _ _ (w.heap.size + 1) _ _ _ _ rfl g.1 Tryz.underlying25 rfl infoVal5) rfl ?_
            exact ⟨rfl, g.2⟩
        · have h1' : (k == 1) = false := by simpa using h1
          simp only [cond_true, cond_false, if_neg h1]
          go_enter Tryz.func88, Tryz.ntmps88
          go_wp2_with (go_at_call 66; refine HR.out.mono ?_; clear HR; rintro e w2 ⟨rfl, b2⟩; have b3 := trans_v (alloc_v (Below.refl _ _) _) b2; have f1 := (b3.block _ (Nat.lt_trans (Nat.lt_succ_self _) zW)).trans E1.out; have f2 := (b3.block _ zW).trans E2.out; have F2 := hide f2; have z0 := cells_at f1 0 _ rfl; have z1 := cells_at f1 1 _ rfl; have z2 := cells_at f1 2 _ rfl; have z3 := cells_at f1 3 _ rfl; have z4 := cells_at f1 4 _ rfl; have y0 := cells_at f2 0 _ rfl; have y1 := cells_at f2 1 _ rfl; have y2 := cells_at f2 2 _ rfl; have y3 := cells_at f2 3 _ rfl; have y4 := cells_at f2 4 _ rfl; have q0 := frozen_at f2 0; have q1 := frozen_at f2 1; have q2 := frozen_at f2 2; have q3 := frozen_at f2 3; have q4 := frozen_at f2 4; clear f1 f2)
          have g := stored w w2 0 0 0 ⟨#[]⟩ (.slice none 0 0) zcells (w.heap.size + 1) (by omega) (trans_v bW b3) rfl F2.out
          refine bodyPost_ret (results_struct_tmp rfl _ _ (w.heap.size + 1) _ _ _ _ rfl g.1 Tryz.underlying25 rfl infoVal5) rfl ?_
          exact ⟨rfl, g.2⟩
    · have hn : (op.toList == [110, 111, 116]) = false := by
        rw [beq_iff_eq] at hd
        rw [hd]
        rfl
      by_cases h2 : k = 2
      · subst h2
        have HI := hide (fun (U : World) => int_k (wrap64 (-i)) U)
        simp only [cond_true, if_true]
        go_enter Tryz.func88, Tryz.ntmps88
        go_wp2_with (first | (go_at_call 66; refine HR.out.mono ?_; clear HR; rintro e w2 ⟨rfl, b2⟩; have b3 := trans_v (alloc_v (Below.refl _ _) _) b2; have f1 := (b3.block _ (Nat.lt_trans (Nat.lt_succ_self _) zW)).trans E1.out; have f2 := (b3.block _ zW).trans E2.out; have F2 := hide f2; have z0 := cells_at f1 0 _ rfl; have z1 := cells_at f1 1 _ rfl; have z2 := cells_at f1 2 _ rfl; have z3 := cells_at f1 3 _ rfl; have z4 := cells_at f1 4 _ rfl; have y0 := cells_at f2 0 _ rfl; have y1 := cells_at f2 1 _ rfl; have y2 := cells_at f2 2 _ rfl; have y3 := cells_at f2 3 _ rfl; have y4 := cells_at f2 4 _ rfl; have q0 := frozen_at f2 0; have q1 := frozen_at f2 1; have q2 := frozen_at f2 2; have q3 := frozen_at f2 3; have q4 := frozen_at f2 4; clear f1 f2) | (go_at_call 14; refine (HI.out _).mono ?_; clear HI; rintro e w4 ⟨rfl, b4⟩; have g2 := (b4.block _ (Nat.lt_of_lt_of_le zW b3.size)).trans F2.out; have G2 := hide g2; have u0 := cells_at g2 0 _ rfl; have u1 := cells_at g2 1 _ rfl; have u2 := cells_at g2 2 _ rfl; have u3 := cells_at g2 3 _ rfl; have u4 := cells_at g2 4 _ rfl; have p0 := frozen_at g2 0; have p1 := frozen_at g2 1; have p2 := frozen_at g2 2; have p3 := frozen_at g2 3; have p4 := frozen_at g2 4; clear g2))
        have g := stored w w4 2 (wrap64 (-i)) 0 ⟨#[]⟩ (.slice none 0 0) zcells (w.heap.size + 1) (by omega) (trans_v (trans_v bW b3) b4) rfl G2.out
        refine bodyPost_ret (results_struct_tmp rfl _ _ (w.heap.size + 1) _ _ _ _ rfl g.1 Tryz.underlying25 rfl infoVal5) rfl ?_
        exact ⟨rfl, g.2⟩
      · have h2' : (k == 2) = false := by simpa using h2
        by_cases h3 : k = 3
        · subst h3
          have hg := HG.out rfl
          have HC := hide (fun (U : World) => toComplex_k ⟨3, i, m, t, l⟩ a l.length c U)
          have HF := hide (fun (U : World) => fromComplex_k (neg_rep (rep_int i (by omega))) (neg_rep (rep_int m (by omega))) (by omega) (by omega) (by omega) (by omega) U)
          rw [gaussB_neg hg] at HF
          have hneg : ∀ (x y : Nat) (U : World), (Op.unary .neg (.complex .f64 x y)).run Tryz.prog U = .ok (.complex .f64 (Op.negFloat .f64 x) (Op.negFloat .f64 y)) U := fun _ _ _ => rfl
          simp only [cond_true, if_neg h2, if_true]
          clear HG hg
          go_enter Tryz.func88, Tryz.ntmps88
          go_wp2_with (first | (go_at_call 66; refine HR.out.mono ?_; clear HR; rintro e w2 ⟨rfl, b2⟩; have b3 := trans_v (alloc_v (Below.refl _ _) _) b2; have f1 := (b3.block _ (Nat.lt_trans (Nat.lt_succ_self _) zW)).trans E1.out; have f2 := (b3.block _ zW).trans E2.out; have F2 := hide f2; have z0 := cells_at f1 0 _ rfl; have z1 := cells_at f1 1 _ rfl; have z2 := cells_at f1 2 _ rfl; have z3 := cells_at f1 3 _ rfl; have z4 := cells_at f1 4 _ rfl; have y0 := cells_at f2 0 _ rfl; have y1 := cells_at f2 1 _ rfl; have y2 := cells_at f2 2 _ rfl; have y3 := cells_at f2 3 _ rfl; have y4 := cells_at f2 4 _ rfl; have q0 := frozen_at f2 0; have q1 := frozen_at f2 1; have q2 := frozen_at f2 2; have q3 := frozen_at f2 3; have q4 := frozen_at f2 4; clear f1 f2) | (go_at_call 72; refine (HC.out _).mono ?_; clear HC; rintro e w4 ⟨rfl, b4⟩; have b5 := trans_v b3 b4) | (go_at_call 117; refine (HF.out _).mono ?_; clear HF; rintro e w6 ⟨rfl, b6⟩; have b7 := trans_v b4 b6; have g2 := (b7.block _ (Nat.lt_of_lt_of_le zW b3.size)).trans F2.out; have G2 := hide g2; have u0 := cells_at g2 0 _ rfl; have u1 := cells_at g2 1 _ rfl; have u2 := cells_at g2 2 _ rfl; have u3 := cells_at g2 3 _ rfl; have u4 := cells_at g2 4 _ rfl; have p0 := frozen_at g2 0; have p1 := frozen_at g2 1; have p2 := frozen_at g2 2; have p3 := frozen_at g2 3; have p4 := frozen_at g2 4; clear g2))
          have g := stored w w6 3 (-i) (-m) ⟨#[]⟩ (.slice none 0 0) zcells (w.heap.size + 1) (by omega) (trans_v (trans_v bW b3) b7) rfl G2.out
          refine bodyPost_ret (results_struct_tmp rfl _ _ (w.heap.size + 1) _ _ _ _ rfl g.1 Tryz.underlying25 rfl infoVal5) rfl ?_
          exact ⟨rfl, g.2⟩
        · have h3' : (k == 3) = false := by simpa using h3
          simp only [cond_true, if_neg h2, if_neg h3]
          go_enter Tryz.func88, Tryz.ntmps88
          go_wp2_with (go_at_call 66; refine HR.out.mono ?_; clear HR; rintro e w2 ⟨rfl, b2⟩; have b3 := trans_v (alloc_v (Below.refl _ _) _) b2; have f1 := (b3.block _ (Nat.lt_trans (Nat.lt_succ_self _) zW)).trans E1.out; have f2 := (b3.block _ zW).trans E2.out; have F2 := hide f2; have z0 := cells_at f1 0 _ rfl; have z1 := cells_at f1 1 _ rfl; have z2 := cells_at f1 2 _ rfl; have z3 := cells_at f1 3 _ rfl; have z4 := cells_at f1 4 _ rfl; have y0 := cells_at f2 0 _ rfl; have y1 := cells_at f2 1 _ rfl; have y2 := cells_at f2 2 _ rfl; have y3 := cells_at f2 3 _ rfl; have y4 := cells_at f2 4 _ rfl; have q0 := frozen_at f2 0; have q1 := frozen_at f2 1; have q2 := frozen_at f2 2; have q3 := frozen_at f2 3; have q4 := frozen_at f2 4; clear f1 f2)
          have g := stored w w2 0 0 0 ⟨#[]⟩ (.slice none 0 0) zcells (w.heap.size + 1) (by omega) (trans_v bW b3) rfl F2.out
          refine bodyPost_ret (results_struct_tmp rfl _ _ (w.heap.size + 1) _ _ _ _ rfl g.1 Tryz.underlying25 rfl infoVal5) rfl ?_
          exact ⟨rfl, g.2⟩
end Go.Proofs.YtgglommnipbagaaGreatDoor

/- Arithmetic: two numbers, two Gaussian numbers. -/
namespace Go.Proofs.YtgglommnipbagaaGreatDoor
open Go.RowKit

abbrev intV (i : Int) : Vl := ⟨2, i, 0, ⟨#[]⟩, []⟩
/-- Quotient and remainder. -/
def divV (op : ByteArray) (a b : Int) : Vl × Int := bif b == 0 then (zeroV, 50) else bif (op.toList == [47]) then (intV (wrap64 (a.tdiv b)), 0) else (intV (a.tmod b), 0)
/-- What an operation of two numbers answers, and its error. -/
def intsV (op : ByteArray) (a b : Int) : Vl × Int :=
  bif (op.toList == [43]) then (intV (wrap64 (a + b)), 0) else bif (op.toList == [45]) then (intV (wrap64 (a - b)), 0) else bif (op.toList == [42]) then (intV (wrap64 (a * b)), 0)
  else bif (op.toList == [47]) then divV op a b else bif (op.toList == [37]) then divV op a b else (zeroV, 51)
/-- A Gaussian number within its range. -/
def gR (i m : Int) : Vl × Int := bif gaussB i m then (⟨3, i, m, ⟨#[]⟩, []⟩, 0) else (zeroV, 50)
/-- What an operation of two Gaussian numbers answers, and its error. -/
def gsV (op : ByteArray) (a b c d : Int) : Vl × Int :=
  bif (op.toList == [43]) then gR (a + c) (b + d) else bif (op.toList == [45]) then gR (a - c) (b - d) else bif (op.toList == [42]) then gR (a * c - b * d) (a * d + b * c) else (zeroV, 51)
/-- A pair as results. -/
abbrev outV (r : Vl × Int) : Value := .tuple #[.agg (vcells r.1 (.slice none 0 0)), .int .i64 r.2]
set_option maxRecDepth 100000 in
theorem divided_k (op : ByteArray) (a b : Int) (w : World) : Calls Tryz.prog 116 #[.string op, .int .i64 a, .int .i64 b] w fun e w' => e = .returned (outV (divV op a b)) ∧ Below w.heap.size w w' := by
  obtain ⟨W, hW⟩ : ∃ W, w.alloc (.cells zcells 25) = W := ⟨_, rfl⟩
  have bW : Below w.heap.size w W := by rw [← hW]; exact alloc_v (Below.refl _ _) _
  have e1 : W.heap[w.heap.size]? = some (.cells zcells 25 (0, 0)) := by rw [← hW]; exact World.alloc_heap_new w _
  have zW : w.heap.size < W.heap.size := (Array.getElem?_eq_some_iff.1 e1).1
  have E := hide e1
  have x0 := cells_at e1 0 _ rfl
  have x1 := cells_at e1 1 _ rfl
  have x2 := cells_at e1 2 _ rfl
  have x3 := cells_at e1 3 _ rfl
  have x4 := cells_at e1 4 _ rfl
  have q0 := frozen_at e1 0
  have q1 := frozen_at e1 1
  have q2 := frozen_at e1 2
  have q3 := frozen_at e1 3
  have q4 := frozen_at e1 4
  clear e1
  have HQ := hide (fun (U : World) => int_k (wrap64 (a.tdiv b)) U)
  have HM := hide (fun (U : World) => int_k (a.tmod b) U)
  unfold divV
  by_cases hb : b = 0
  · subst hb
    simp only [beq_self_eq_true, cond_true]
    go_enter Tryz.func116, Tryz.ntmps116
    go_wp2
    have g := stored w W 0 0 0 ⟨#[]⟩ (.slice none 0 0) zcells w.heap.size (Nat.le_refl _) (bW) rfl E.out
    refine bodyPost_ret (results_struct_tmp rfl _ _ w.heap.size _ _ _ _ rfl g.1 Tryz.underlying25 rfl infoVal5) rfl ?_
    exact ⟨rfl, g.2⟩
  · have hb' : (b == 0) = false := by simpa using hb
    rw [hb', cond_false]
    cases hq : (op.toList == [47])
    · simp only [cond_false]
      go_enter Tryz.func116, Tryz.ntmps116
      go_wp2_with (go_at_call 14; refine (HM.out _).mono ?_; clear HM; rintro e w2 ⟨rfl, b2⟩; have f2 := (b2.block _ zW).trans E.out; have F2 := hide f2; have y0 := cells_at f2 0 _ rfl; have y1 := cells_at f2 1 _ rfl; have y2 := cells_at f2 2 _ rfl; have y3 := cells_at f2 3 _ rfl; have y4 := cells_at f2 4 _ rfl; have p0 := frozen_at f2 0; have p1 := frozen_at f2 1; have p2 := frozen_at f2 2; have p3 := frozen_at f2 3; have p4 := frozen_at f2 4; clear f2)
      have g := stored w w2 2 (a.tmod b) 0 ⟨#[]⟩ (.slice none 0 0) zcells w.heap.size (Nat.le_refl _) (trans_v bW b2) rfl F2.out
      refine bodyPost_ret (results_struct_tmp rfl _ _ w.heap.size _ _ _ _ rfl g.1 Tryz.underlying25 rfl infoVal5) rfl ?_
      exact ⟨rfl, g.2⟩
    · simp only [cond_true]
      go_enter Tryz.func116, Tryz.ntmps116
      go_wp2_with (go_at_call 14; refine (HQ.out _).mono ?_; clear HQ; rintro e w2 ⟨rfl, b2⟩; have f2 := (b2.block _ zW).trans E.out; have F2 := hide f2; have y0 := cells_at f2 0 _ rfl; have y1 := cells_at f2 1 _ rfl; have y2 := cells_at f2 2 _ rfl; have y3 := cells_at f2 3 _ rfl; have y4 := cells_at f2 4 _ rfl; have p0 := frozen_at f2 0; have p1 := frozen_at f2 1; have p2 := frozen_at f2 2; have p3 := frozen_at f2 3; have p4 := frozen_at f2 4; clear f2)
      have g := stored w w2 2 (wrap64 (a.tdiv b)) 0 ⟨#[]⟩ (.slice none 0 0) zcells w.heap.size (Nat.le_refl _) (trans_v bW b2) rfl F2.out
      refine bodyPost_ret (results_struct_tmp rfl _ _ w.heap.size _ _ _ _ rfl g.1 Tryz.underlying25 rfl infoVal5) rfl ?_
      exact ⟨rfl, g.2⟩
set_option maxRecDepth 100000 in
set_option maxHeartbeats 1000000 in
theorem ofInts_k (op : ByteArray) (a b : Int) (w : World) : Calls Tryz.prog 70 #[.string op, .int .i64 a, .int .i64 b] w fun e w' => e = .returned (outV (intsV op a b)) ∧ Below w.heap.size w w' := by
  obtain ⟨W, hW⟩ : ∃ W, w.alloc (.cells zcells 25) = W := ⟨_, rfl⟩
  have bW : Below w.heap.size w W := by rw [← hW]; exact alloc_v (Below.refl _ _) _
  have e1 : W.heap[w.heap.size]? = some (.cells zcells 25 (0, 0)) := by rw [← hW]; exact World.alloc_heap_new w _
  have zW : w.heap.size < W.heap.size := (Array.getElem?_eq_some_iff.1 e1).1
  have E := hide e1
  have x0 := cells_at e1 0 _ rfl
  have x1 := cells_at e1 1 _ rfl
  have x2 := cells_at e1 2 _ rfl
  have x3 := cells_at e1 3 _ rfl
  have x4 := cells_at e1 4 _ rfl
  have q0 := frozen_at e1 0
  have q1 := frozen_at e1 1
  have q2 := frozen_at e1 2
  have q3 := frozen_at e1 3
  have q4 := frozen_at e1 4
  clear e1
  have HA := hide (fun (U : World) => int_k (wrap64 (a + b)) U)
  have HS := hide (fun (U : World) => int_k (wrap64 (a - b)) U)
  have HM := hide (fun (U : World) => int_k (wrap64 (a * b)) U)
  have HD := hide (fun (U : World) => divided_k op a b U)
  unfold intsV
  generalize divV op a b = dv at *
  obtain ⟨⟨k1, k2, k3, k4, k5⟩, ke⟩ := dv
  cases h0 : (op.toList == [43])
  rotate_left
  · simp only [cond_true]
    go_enter Tryz.func70, Tryz.ntmps70
    go_wp2_with (go_at_call 14; refine (HA.out _).mono ?_; clear HA; rintro e w2 ⟨rfl, b2⟩; have f2 := (b2.block _ zW).trans E.out; have F2 := hide f2; have y0 := cells_at f2 0 _ rfl; have y1 := cells_at f2 1 _ rfl; have y2 := cells_at f2 2 _ rfl; have y3 := cells_at f2 3 _ rfl; have y4 := cells_at f2 4 _ rfl; have p0 := frozen_at f2 0; have p1 := frozen_at f2 1; have p2 := frozen_at f2 2; have p3 := frozen_at f2 3; have p4 := frozen_at f2 4; clear f2)
    have g := stored w w2 2 (wrap64 (a + b)) 0 ⟨#[]⟩ (.slice none 0 0) zcells w.heap.size (Nat.le_refl _) (trans_v bW b2) rfl F2.out
    refine bodyPost_ret (results_struct_tmp rfl _ _ w.heap.size _ _ _ _ rfl g.1 Tryz.underlying25 rfl infoVal5) rfl ?_
    exact ⟨rfl, g.2⟩
  cases h1 : (op.toList == [45])
  rotate_left
  · simp only [cond_true, cond_false]
    go_enter Tryz.func70, Tryz.ntmps70
    go_wp2_with (go_at_call 14; refine (HS.out _).mono ?_; clear HS; rintro e w2 ⟨rfl, b2⟩; have f2 := (b2.block _ zW).trans E.out; have F2 := hide f2; have y0 := cells_at f2 0 _ rfl; have y1 := cells_at f2 1 _ rfl; have y2 := cells_at f2 2 _ rfl; have y3 := cells_at f2 3 _ rfl; have y4 := cells_at f2 4 _ rfl; have p0 := frozen_at f2 0; have p1 := frozen_at f2 1; have p2 := frozen_at f2 2; have p3 := frozen_at f2 3; have p4 := frozen_at f2 4; clear f2)
    have g := stored w w2 2 (wrap64 (a - b)) 0 ⟨#[]⟩ (.slice none 0 0) zcells w.heap.size (Nat.le_refl _) (trans_v bW b2) rfl F2.out
    refine bodyPost_ret (results_struct_tmp rfl _ _ w.heap.size _ _ _ _ rfl g.1 Tryz.underlying25 rfl infoVal5) rfl ?_
    exact ⟨rfl, g.2⟩
  cases h2 : (op.toList == [42])
  rotate_left
  · simp only [cond_true, cond_false]
    go_enter Tryz.func70, Tryz.ntmps70
    go_wp2_with (go_at_call 14; refine (HM.out _).mono ?_; clear HM; rintro e w2 ⟨rfl, b2⟩; have f2 := (b2.block _ zW).trans E.out; have F2 := hide f2; have y0 := cells_at f2 0 _ rfl; have y1 := cells_at f2 1 _ rfl; have y2 := cells_at f2 2 _ rfl; have y3 := cells_at f2 3 _ rfl; have y4 := cells_at f2 4 _ rfl; have p0 := frozen_at f2 0; have p1 := frozen_at f2 1; have p2 := frozen_at f2 2; have p3 := frozen_at f2 3; have p4 := frozen_at f2 4; clear f2)
    have g := stored w w2 2 (wrap64 (a * b)) 0 ⟨#[]⟩ (.slice none 0 0) zcells w.heap.size (Nat.le_refl _) (trans_v bW b2) rfl F2.out
    refine bodyPost_ret (results_struct_tmp rfl _ _ w.heap.size _ _ _ _ rfl g.1 Tryz.underlying25 rfl infoVal5) rfl ?_
    exact ⟨rfl, g.2⟩
  cases h3 : (op.toList == [47])
  rotate_left
  · simp only [cond_true, cond_false]
    go_enter Tryz.func70, Tryz.ntmps70
    go_wp2_with (go_at_call 116; refine (HD.out _).mono ?_; clear HD; rintro e w2 ⟨rfl, b2⟩; have f2 := (b2.block _ zW).trans E.out; have F2 := hide f2; have y0 := cells_at f2 0 _ rfl; have y1 := cells_at f2 1 _ rfl; have y2 := cells_at f2 2 _ rfl; have y3 := cells_at f2 3 _ rfl; have y4 := cells_at f2 4 _ rfl; have p0 := frozen_at f2 0; have p1 := frozen_at f2 1; have p2 := frozen_at f2 2; have p3 := frozen_at f2 3; have p4 := frozen_at f2 4; clear f2)
    have g := stored w w2 k1 k2 k3 k4 (.slice none 0 0) zcells w.heap.size (Nat.le_refl _) (trans_v bW b2) rfl F2.out
    refine bodyPost_ret (results_struct_tmp rfl _ _ w.heap.size _ _ _ _ rfl g.1 Tryz.underlying25 rfl infoVal5) rfl ?_
    exact ⟨rfl, g.2⟩
  cases h4 : (op.toList == [37])
  rotate_left
  · simp only [cond_true, cond_false]
    go_enter Tryz.func70, Tryz.ntmps70
    go_wp2_with (go_at_call 116; refine (HD.out _).mono ?_; clear HD; rintro e w2 ⟨rfl, b2⟩; have f2 := (b2.block _ zW).trans E.out; have F2 := hide f2; have y0 := cells_at f2 0 _ rfl; have y1 := cells_at f2 1 _ rfl; have y2 := cells_at f2 2 _ rfl; have y3 := cells_at f2 3 _ rfl; have y4 := cells_at f2 4 _ rfl; have p0 := frozen_at f2 0; have p1 := frozen_at f2 1; have p2 := frozen_at f2 2; have p3 := frozen_at f2 3; have p4 := frozen_at f2 4; clear f2)
    have g := stored w w2 k1 k2 k3 k4 (.slice none 0 0) zcells w.heap.size (Nat.le_refl _) (trans_v bW b2) rfl F2.out
    refine bodyPost_ret (results_struct_tmp rfl _ _ w.heap.size _ _ _ _ rfl g.1 Tryz.underlying25 rfl infoVal5) rfl ?_
    exact ⟨rfl, g.2⟩
  simp only [cond_false]
  go_enter Tryz.func70, Tryz.ntmps70
  go_wp2
  have g := stored w W 0 0 0 ⟨#[]⟩ (.slice none 0 0) zcells w.heap.size (Nat.le_refl _) (bW) rfl E.out
  refine bodyPost_ret (results_struct_tmp rfl _ _ w.heap.size _ _ _ _ rfl g.1 Tryz.underlying25 rfl infoVal5) rfl ?_
  exact ⟨rfl, g.2⟩
theorem mul_small {a b : Int} (h1 : -1048576 ≤ a) (h2 : a ≤ 1048576) (h3 : -1048576 ≤ b) (h4 : b ≤ 1048576) : -1099511627776 ≤ a * b ∧ a * b ≤ 1099511627776 := by
  have ha : a.natAbs ≤ 1048576 := by omega
  have hb : b.natAbs ≤ 1048576 := by omega
  have h := Nat.mul_le_mul ha hb
  rw [← Int.natAbs_mul] at h
  generalize a * b = c at *
  omega
set_option maxRecDepth 100000 in
set_option maxHeartbeats 1000000 in
theorem ofGauss_k (op : ByteArray) {x y p q : Nat} {a b c d : Int} (hx : Rep x a) (hy : Rep y b) (hp : Rep p c) (hq : Rep q d) (h1 : (-1048576 ≤ a ∧ a ≤ 1048576) ∧ (-1048576 ≤ b ∧ b ≤ 1048576)) (h2 : (-1048576 ≤ c ∧ c ≤ 1048576) ∧ (-1048576 ≤ d ∧ d ≤ 1048576)) (w : World) :
    Calls Tryz.prog 71 #[.string op, .complex .f64 x y, .complex .f64 p q] w fun e w' => e = .returned (outV (gsV op a b c d)) ∧ Below w.heap.size w w' := by
  obtain ⟨W, hW⟩ : ∃ W, w.alloc (.cells zcells 25) = W := ⟨_, rfl⟩
  have bW : Below w.heap.size w W := by rw [← hW]; exact alloc_v (Below.refl _ _) _
  have e1 : W.heap[w.heap.size]? = some (.cells zcells 25 (0, 0)) := by rw [← hW]; exact World.alloc_heap_new w _
  have zW : w.heap.size < W.heap.size := (Array.getElem?_eq_some_iff.1 e1).1
  have E := hide e1
  have x0 := cells_at e1 0 _ rfl
  have x1 := cells_at e1 1 _ rfl
  have x2 := cells_at e1 2 _ rfl
  have x3 := cells_at e1 3 _ rfl
  have x4 := cells_at e1 4 _ rfl
  have q0 := frozen_at e1 0
  have q1 := frozen_at e1 1
  have q2 := frozen_at e1 2
  have q3 := frozen_at e1 3
  have q4 := frozen_at e1 4
  clear e1
  have m1 := mul_small h1.1.1 h1.1.2 h2.1.1 h2.1.2
  have m2 := mul_small h1.2.1 h1.2.2 h2.2.1 h2.2.2
  have m3 := mul_small h1.1.1 h1.1.2 h2.2.1 h2.2.2
  have m4 := mul_small h1.2.1 h1.2.2 h2.1.1 h2.1.2
  obtain ⟨r1, s1, A1, A2, A3⟩ := cadd_rep hx hy hp hq (by omega) (by omega)
  obtain ⟨r2, s2, B1, B2, B3⟩ := csub_rep hx hy hp hq (by omega) (by omega)
  obtain ⟨r3, s3, C1, C2, C3⟩ := cmul_rep hx hy hp hq (by omega) (by omega) (by omega) (by omega)
  have o1 := fun (t : TypeId) (U : World) => run_complex_sum (P := Tryz.prog) U .add (Or.inl rfl) t .f64 x y p q r1 s1 A1
  have o2 := fun (t : TypeId) (U : World) => run_complex_sum (P := Tryz.prog) U .sub (Or.inr rfl) t .f64 x y p q r2 s2 B1
  have o3 := fun (t : TypeId) (U : World) => run_complex_mul (P := Tryz.prog) U t x y p q r3 s3 C1
  have HA := hide (fun (U : World) => fromComplex_k A2 A3 (by omega) (by omega) (by omega) (by omega) U)
  have HS := hide (fun (U : World) => fromComplex_k B2 B3 (by omega) (by omega) (by omega) (by omega) U)
  have HM := hide (fun (U : World) => fromComplex_k C2 C3 (by omega) (by omega) (by omega) (by omega) U)
  clear m1 m2 m3 m4 A1 A2 A3 B1 B2 B3 C1 C2 C3 hx hy hp hq h1 h2
  unfold gsV gR
  generalize a + c = u1 at *
  generalize b + d = u2 at *
  generalize a - c = u3 at *
  generalize b - d = u4 at *
  generalize a * c - b * d = u5 at *
  generalize a * d + b * c = u6 at *
  cases h0 : (op.toList == [43])
  rotate_left
  · simp only [cond_true]
    generalize gaussB u1 u2 = g at *
    cases g
    · simp only [cond_false]
      go_enter Tryz.func71, Tryz.ntmps71
      go_wp2_with (first | (go_at_call 117; refine (HA.out _).mono ?_; clear HA; rintro e w2 ⟨rfl, b2⟩; have f2 := (b2.block _ zW).trans E.out; have F2 := hide f2; have y0 := cells_at f2 0 _ rfl; have y1 := cells_at f2 1 _ rfl; have y2 := cells_at f2 2 _ rfl; have y3 := cells_at f2 3 _ rfl; have y4 := cells_at f2 4 _ rfl; have p0 := frozen_at f2 0; have p1 := frozen_at f2 1; have p2 := frozen_at f2 2; have p3 := frozen_at f2 3; have p4 := frozen_at f2 4; clear f2))
      have g := stored w w2 0 0 0 ⟨#[]⟩ (.slice none 0 0) zcells w.heap.size (Nat.le_refl _) (trans_v bW b2) rfl F2.out
      refine bodyPost_ret (results_struct_tmp rfl _ _ w.heap.size _ _ _ _ rfl g.1 Tryz.underlying25 rfl infoVal5) rfl ?_
      exact ⟨rfl, g.2⟩
    · simp only [cond_true]
      go_enter Tryz.func71, Tryz.ntmps71
      go_wp2_with (first | (go_at_call 117; refine (HA.out _).mono ?_; clear HA; rintro e w2 ⟨rfl, b2⟩; have f2 := (b2.block _ zW).trans E.out; have F2 := hide f2; have y0 := cells_at f2 0 _ rfl; have y1 := cells_at f2 1 _ rfl; have y2 := cells_at f2 2 _ rfl; have y3 := cells_at f2 3 _ rfl; have y4 := cells_at f2 4 _ rfl; have p0 := frozen_at f2 0; have p1 := frozen_at f2 1; have p2 := frozen_at f2 2; have p3 := frozen_at f2 3; have p4 := frozen_at f2 4; clear f2))
      have g := stored w w2 3 u1 u2 ⟨#[]⟩ (.slice none 0 0) zcells w.heap.size (Nat.le_refl _) (trans_v bW b2) rfl F2.out
      refine bodyPost_ret (results_struct_tmp rfl _ _ w.heap.size _ _ _ _ rfl g.1 Tryz.underlying25 rfl infoVal5) rfl ?_
      exact ⟨rfl, g.2⟩
  cases h1 : (op.toList == [45])
  rotate_left
  · simp only [cond_true, cond_false]
    generalize gaussB u3 u4 = g at *
    cases g
    · simp only [cond_false]
      go_enter Tryz.func71, Tryz.ntmps71
      go_wp2_with (first | (go_at_call 117; refine (HS.out _).mono ?_; clear HS; rintro e w2 ⟨rfl, b2⟩; have f2 := (b2.block _ zW).trans E.out; have F2 := hide f2; have y0 := cells_at f2 0 _ rfl; have y1 := cells_at f2 1 _ rfl; have y2 := cells_at f2 2 _ rfl; have y3 := cells_at f2 3 _ rfl; have y4 := cells_at f2 4 _ rfl; have p0 := frozen_at f2 0; have p1 := frozen_at f2 1; have p2 := frozen_at f2 2; have p3 := frozen_at f2 3; have p4 := frozen_at f2 4; clear f2))
      have g := stored w w2 0 0 0 ⟨#[]⟩ (.slice none 0 0) zcells w.heap.size (Nat.le_refl _) (trans_v bW b2) rfl F2.out
      refine bodyPost_ret (results_struct_tmp rfl _ _ w.heap.size _ _ _ _ rfl g.1 Tryz.underlying25 rfl infoVal5) rfl ?_
      exact ⟨rfl, g.2⟩
    · simp only [cond_true]
      go_enter Tryz.func71, Tryz.ntmps71
      go_wp2_with (first | (go_at_call 117; refine (HS.out _).mono ?_; clear HS; rintro e w2 ⟨rfl, b2⟩; have f2 := (b2.block _ zW).trans E.out; have F2 := hide f2; have y0 := cells_at f2 0 _ rfl; have y1 := cells_at f2 1 _ rfl; have y2 := cells_at f2 2 _ rfl; have y3 := cells_at f2 3 _ rfl; have y4 := cells_at f2 4 _ rfl; have p0 := frozen_at f2 0; have p1 := frozen_at f2 1; have p2 := frozen_at f2 2; have p3 := frozen_at f2 3; have p4 := frozen_at f2 4; clear f2))
      have g := stored w w2 3 u3 u4 ⟨#[]⟩ (.slice none 0 0) zcells w.heap.size (Nat.le_refl _) (trans_v bW b2) rfl F2.out
      refine bodyPost_ret (results_struct_tmp rfl _ _ w.heap.size _ _ _ _ rfl g.1 Tryz.underlying25 rfl infoVal5) rfl ?_
      exact ⟨rfl, g.2⟩
  cases h2 : (op.toList == [42])
  rotate_left
  · simp only [cond_true, cond_false]
    generalize gaussB u5 u6 = g at *
    cases g
    · simp only [cond_false]
      go_enter Tryz.func71, Tryz.ntmps71
      go_wp2_with (first | (go_at_call 117; refine (HM.out _).mono ?_; clear HM; rintro e w2 ⟨rfl, b2⟩; have f2 := (b2.block _ zW).trans E.out; have F2 := hide f2; have y0 := cells_at f2 0 _ rfl; have y1 := cells_at f2 1 _ rfl; have y2 := cells_at f2 2 _ rfl; have y3 := cells_at f2 3 _ rfl; have y4 := cells_at f2 4 _ rfl; have p0 := frozen_at f2 0; have p1 := frozen_at f2 1; have p2 := frozen_at f2 2; have p3 := frozen_at f2 3; have p4 := frozen_at f2 4; clear f2))
      have g := stored w w2 0 0 0 ⟨#[]⟩ (.slice none 0 0) zcells w.heap.size (Nat.le_refl _) (trans_v bW b2) rfl F2.out
      refine bodyPost_ret (results_struct_tmp rfl _ _ w.heap.size _ _ _ _ rfl g.1 Tryz.underlying25 rfl infoVal5) rfl ?_
      exact ⟨rfl, g.2⟩
    · simp only [cond_true]
      go_enter Tryz.func71, Tryz.ntmps71
      go_wp2_with (first | (go_at_call 117; refine (HM.out _).mono ?_; clear HM; rintro e w2 ⟨rfl, b2⟩; have f2 := (b2.block _ zW).trans E.out; have F2 := hide f2; have y0 := cells_at f2 0 _ rfl; have y1 := cells_at f2 1 _ rfl; have y2 := cells_at f2 2 _ rfl; have y3 := cells_at f2 3 _ rfl; have y4 := cells_at f2 4 _ rfl; have p0 := frozen_at f2 0; have p1 := frozen_at f2 1; have p2 := frozen_at f2 2; have p3 := frozen_at f2 3; have p4 := frozen_at f2 4; clear f2))
      have g := stored w w2 3 u5 u6 ⟨#[]⟩ (.slice none 0 0) zcells w.heap.size (Nat.le_refl _) (trans_v bW b2) rfl F2.out
      refine bodyPost_ret (results_struct_tmp rfl _ _ w.heap.size _ _ _ _ rfl g.1 Tryz.underlying25 rfl infoVal5) rfl ?_
      exact ⟨rfl, g.2⟩
  simp only [cond_false]
  go_enter Tryz.func71, Tryz.ntmps71
  go_wp2
  have g := stored w W 0 0 0 ⟨#[]⟩ (.slice none 0 0) zcells w.heap.size (Nat.le_refl _) (bW) rfl E.out
  refine bodyPost_ret (results_struct_tmp rfl _ _ w.heap.size _ _ _ _ rfl g.1 Tryz.underlying25 rfl infoVal5) rfl ?_
  exact ⟨rfl, g.2⟩
end Go.Proofs.YtgglommnipbagaaGreatDoor

/- Binary of two numbers, of two Gaussian numbers. -/
namespace Go.Proofs.YtgglommnipbagaaGreatDoor
open Go.RowKit

theorem three_first (w : World) (o o' p : Obj) : (((w.alloc o).alloc o').alloc p).heap[w.heap.size]? = some o := (Below.heap_alloc _ _ _ (by simp; omega)).trans (two_first w o o')
theorem three_second (w : World) (o o' p : Obj) : (((w.alloc o).alloc o').alloc p).heap[w.heap.size + 1]? = some o' := (Below.heap_alloc _ _ _ (by simp)).trans (two_second w o o')
theorem three_third (w : World) (o o' p : Obj) : (((w.alloc o).alloc o').alloc p).heap[w.heap.size + 2]? = some p := by
  have := World.alloc_heap_new ((w.alloc o).alloc o') p
  rwa [World.size_alloc, World.size_alloc] at this
/-- Neither in nor a comparison. -/
def noCmp (op : ByteArray) : Prop := (op.toList == [105, 110]) = false ∧ (op.toList == [61, 61]) = false ∧ (op.toList == [33, 61]) = false ∧ (op.toList == [60]) = false ∧ (op.toList == [60, 61]) = false ∧ (op.toList == [62]) = false ∧ (op.toList == [62, 61]) = false
set_option maxRecDepth 100000 in
set_option maxHeartbeats 2000000 in
theorem binInts_k (op : ByteArray) (a b : Vl) (w : World) (n : Nat) (sa sb : Value) (hT : TabL w) (oa : a.ok) (ob : b.ok) (ha : ItemsAt w w.heap.size n sa a.items) (hb : ItemsAt w w.heap.size n sb b.items) (hc : noCmp op) (ka : a.kind = 2) (kb : b.kind = 2) (ra : rightV a = true) (rb : rightV b = true) :
    Calls Tryz.prog 26 #[.string op, .agg (vcells a sa), .agg (vcells b sb)] w fun e w' => e = .returned (outV (intsV op a.int b.int)) ∧ Below w.heap.size w w' := by
  obtain ⟨W, hW⟩ : ∃ W, ((w.alloc (.cells (vcells a sa) 25)).alloc (.cells (vcells b sb) 25)).alloc (.cells zcells 25) = W := ⟨_, rfl⟩
  have bW : Below w.heap.size w W := by rw [← hW]; exact alloc_v (two_below _ _ _) _
  have e1 : W.heap[w.heap.size]? = some (.cells (vcells a sa) 25 (0, 0)) := by rw [← hW]; exact three_first _ _ _ _
  have e2 : W.heap[w.heap.size + 1]? = some (.cells (vcells b sb) 25 (0, 0)) := by rw [← hW]; exact three_second _ _ _ _
  have e3 : W.heap[w.heap.size + 2]? = some (.cells zcells 25 (0, 0)) := by rw [← hW]; exact three_third _ _ _ _
  have zW : w.heap.size + 2 < W.heap.size := (Array.getElem?_eq_some_iff.1 e3).1
  have x0 := cells_at e1 0 _ rfl
  have x1 := cells_at e1 1 _ rfl
  have x2 := cells_at e1 2 _ rfl
  have x3 := cells_at e1 3 _ rfl
  have x4 := cells_at e1 4 _ rfl
  have r0 := cells_at e2 0 _ rfl
  have r1 := cells_at e2 1 _ rfl
  have r2 := cells_at e2 2 _ rfl
  have r3 := cells_at e2 3 _ rfl
  have r4 := cells_at e2 4 _ rfl
  have E1 := hide e1
  have E2 := hide e2
  have E3 := hide e3
  have HR := hide (aright_k [a, b] (W.alloc (.cells #[.int .i64 a.kind, .int .i64 a.int, .int .i64 a.im, .string a.text, sa, .int .i64 b.kind, .int .i64 b.int, .int .i64 b.im, .string b.text, sb] 25)) n (.slice (some ⟨W.heap.size, 0, none⟩) 2 2) (hT.below (alloc_v bW _)) ((items_two ((ha.below bW).up bW.size).more ((hb.below bW).up bW.size).more oa ob).up (by simp)))
  have hall : [a, b].all rightV = (rightV a && rightV b) := by simp
  rw [hall] at HR
  obtain ⟨a1, c1, rfl, _⟩ := ha.len
  obtain ⟨a2, c2, rfl, _⟩ := hb.len
  clear ha hb e1 e2 e3 hT hall
  rw [ra, rb] at HR
  clear ra rb
  obtain ⟨k, i, m, t, l⟩ := a
  obtain ⟨k', i', m', t', l'⟩ := b
  simp only at ka kb
  subst ka kb
  have HI := hide (fun (U : World) => ofInts_k op i i' U)
  obtain ⟨n1, n2, n3, n4, n5, n6, n7⟩ := hc
  simp only
  generalize intsV op i i' = dv at *
  obtain ⟨⟨d1, d2, d3, d4, d5⟩, de⟩ := dv
  go_enter Tryz.func26, Tryz.ntmps26
  go_wp2_with (first | (go_at_call 66; refine HR.out.mono ?_; clear HR; rintro e w2 ⟨rfl, b2⟩; have b3 := trans_v (alloc_v (Below.refl _ _) _) b2; have f1 := (b3.block _ (show w.heap.size < W.heap.size by omega)).trans E1.out; have f2 := (b3.block _ (show w.heap.size + 1 < W.heap.size by omega)).trans E2.out; have f3 := (b3.block _ zW).trans E3.out; have F1 := hide f1; have F2 := hide f2; have F3 := hide f3; have z0 := cells_at f1 0 _ rfl; have z1 := cells_at f1 1 _ rfl; have z2 := cells_at f1 2 _ rfl; have z3 := cells_at f1 3 _ rfl; have z4 := cells_at f1 4 _ rfl; have s0 := cells_at f2 0 _ rfl; have s1 := cells_at f2 1 _ rfl; have s2 := cells_at f2 2 _ rfl; have s3 := cells_at f2 3 _ rfl; have s4 := cells_at f2 4 _ rfl; have y0 := cells_at f3 0 _ rfl; have y1 := cells_at f3 1 _ rfl; have y2 := cells_at f3 2 _ rfl; have y3 := cells_at f3 3 _ rfl; have y4 := cells_at f3 4 _ rfl; have q0 := frozen_at f3 0; have q1 := frozen_at f3 1; have q2 := frozen_at f3 2; have q3 := frozen_at f3 3; have q4 := frozen_at f3 4; clear f1 f2 f3) | (go_at_call 70; refine (HI.out _).mono ?_; clear HI; rintro e w4 ⟨rfl, b4⟩; have g3 := (b4.block _ (Nat.lt_of_lt_of_le zW b3.size)).trans F3.out; have G3 := hide g3; have u0 := cells_at g3 0 _ rfl; have u1 := cells_at g3 1 _ rfl; have u2 := cells_at g3 2 _ rfl; have u3 := cells_at g3 3 _ rfl; have u4 := cells_at g3 4 _ rfl; have p0 := frozen_at g3 0; have p1 := frozen_at g3 1; have p2 := frozen_at g3 2; have p3 := frozen_at g3 3; have p4 := frozen_at g3 4; clear g3))
  have g := stored w w4 d1 d2 d3 d4 (.slice none 0 0) zcells (w.heap.size + 2) (by omega) (trans_v (trans_v bW b3) b4) rfl G3.out
  refine bodyPost_ret (results_struct_tmp rfl _ _ (w.heap.size + 2) _ _ _ _ rfl g.1 Tryz.underlying25 rfl infoVal5) rfl ?_
  exact ⟨rfl, g.2⟩
set_option maxRecDepth 100000 in
set_option maxHeartbeats 2000000 in
theorem binGauss_k (op : ByteArray) (a b : Vl) (w : World) (n : Nat) (sa sb : Value) (hT : TabL w) (oa : a.ok) (ob : b.ok) (ha : ItemsAt w w.heap.size n sa a.items) (hb : ItemsAt w w.heap.size n sb b.items) (hc : noCmp op) (ka : a.kind = 3) (kb : b.kind = 3) (ra : rightV a = true) (rb : rightV b = true) :
    Calls Tryz.prog 26 #[.string op, .agg (vcells a sa), .agg (vcells b sb)] w fun e w' => e = .returned (outV (gsV op a.int a.im b.int b.im)) ∧ Below w.heap.size w w' := by
  obtain ⟨W, hW⟩ : ∃ W, ((w.alloc (.cells (vcells a sa) 25)).alloc (.cells (vcells b sb) 25)).alloc (.cells zcells 25) = W := ⟨_, rfl⟩
  have bW : Below w.heap.size w W := by rw [← hW]; exact alloc_v (two_below _ _ _) _
  have e1 : W.heap[w.heap.size]? = some (.cells (vcells a sa) 25 (0, 0)) := by rw [← hW]; exact three_first _ _ _ _
  have e2 : W.heap[w.heap.size + 1]? = some (.cells (vcells b sb) 25 (0, 0)) := by rw [← hW]; exact three_second _ _ _ _
  have e3 : W.heap[w.heap.size + 2]? = some (.cells zcells 25 (0, 0)) := by rw [← hW]; exact three_third _ _ _ _
  have zW : w.heap.size + 2 < W.heap.size := (Array.getElem?_eq_some_iff.1 e3).1
  have x0 := cells_at e1 0 _ rfl
  have x1 := cells_at e1 1 _ rfl
  have x2 := cells_at e1 2 _ rfl
  have x3 := cells_at e1 3 _ rfl
  have x4 := cells_at e1 4 _ rfl
  have r0 := cells_at e2 0 _ rfl
  have r1 := cells_at e2 1 _ rfl
  have r2 := cells_at e2 2 _ rfl
  have r3 := cells_at e2 3 _ rfl
  have r4 := cells_at e2 4 _ rfl
  have E1 := hide e1
  have E2 := hide e2
  have E3 := hide e3
  have HR := hide (aright_k [a, b] (W.alloc (.cells #[.int .i64 a.kind, .int .i64 a.int, .int .i64 a.im, .string a.text, sa, .int .i64 b.kind, .int .i64 b.int, .int .i64 b.im, .string b.text, sb] 25)) n (.slice (some ⟨W.heap.size, 0, none⟩) 2 2) (hT.below (alloc_v bW _)) ((items_two ((ha.below bW).up bW.size).more ((hb.below bW).up bW.size).more oa ob).up (by simp)))
  have hall : [a, b].all rightV = (rightV a && rightV b) := by simp
  rw [hall] at HR
  obtain ⟨a1, c1, rfl, _⟩ := ha.len
  obtain ⟨a2, c2, rfl, _⟩ := hb.len
  clear ha hb e1 e2 e3 hT hall
  rw [ra, rb] at HR
  obtain ⟨k, i, m, t, l⟩ := a
  obtain ⟨k', i', m', t', l'⟩ := b
  simp only at ka kb
  subst ka kb
  have ga := right_gauss ra
  have gb := right_gauss rb
  have HA := hide (fun (U : World) => toComplex_k ⟨3, i, m, t, l⟩ a1 l.length c1 U)
  have HB := hide (fun (U : World) => toComplex_k ⟨3, i', m', t', l'⟩ a2 l'.length c2 U)
  have HG := hide (fun (U : World) => ofGauss_k op (rep_int i (by omega)) (rep_int m (by omega)) (rep_int i' (by omega)) (rep_int m' (by omega)) ga gb U)
  obtain ⟨n1, n2, n3, n4, n5, n6, n7⟩ := hc
  clear ra rb ga gb
  simp only
  generalize gsV op i m i' m' = dv at *
  obtain ⟨⟨d1, d2, d3, d4, d5⟩, de⟩ := dv
  go_enter Tryz.func26, Tryz.ntmps26
  go_wp2_with (go_at_call 66; refine HR.out.mono ?_; clear HR; rintro e w2 ⟨rfl, b2⟩; have b3 := trans_v (alloc_v (Below.refl _ _) _) b2; have f1 := (b3.block _ (show w.heap.size < W.heap.size by omega)).trans E1.out; have f2 := (b3.block _ (show w.heap.size + 1 < W.heap.size by omega)).trans E2.out; have f3 := (b3.block _ zW).trans E3.out; have F1 := hide f1; have F2 := hide f2; have F3 := hide f3; have z0 := cells_at f1 0 _ rfl; have z1 := cells_at f1 1 _ rfl; have z2 := cells_at f1 2 _ rfl; have z3 := cells_at f1 3 _ rfl; have z4 := cells_at f1 4 _ rfl; have s0 := cells_at f2 0 _ rfl; have s1 := cells_at f2 1 _ rfl; have s2 := cells_at f2 2 _ rfl; have s3 := cells_at f2 3 _ rfl; have s4 := cells_at f2 4 _ rfl; have y0 := cells_at f3 0 _ rfl; have y1 := cells_at f3 1 _ rfl; have y2 := cells_at f3 2 _ rfl; have y3 := cells_at f3 3 _ rfl; have y4 := cells_at f3 4 _ rfl; have q0 := frozen_at f3 0; have q1 := frozen_at f3 1; have q2 := frozen_at f3 2; have q3 := frozen_at f3 3; have q4 := frozen_at f3 4; clear f1 f2 f3)
  have hany := Wv.any w2
  have v0 := fun q : Wv w2 => q.cell z0
  have v1 := fun q : Wv w2 => q.cell z1
  have v2 := fun q : Wv w2 => q.cell z2
  have v3 := fun q : Wv w2 => q.cell z3
  have v4 := fun q : Wv w2 => q.cell z4
  have t0 := fun q : Wv w2 => q.cell s0
  have t1 := fun q : Wv w2 => q.cell s1
  have t2 := fun q : Wv w2 => q.cell s2
  have t3 := fun q : Wv w2 => q.cell s3
  have t4 := fun q : Wv w2 => q.cell s4
  clear x0 x1 x2 x3 x4 r0 r1 r2 r3 r4 hW
  refine wp_region_grown_tail 8 (by kernel_rfl) (by kernel_rfl) ?_
  simp only [List.take_succ_cons, List.take_zero, List.drop_succ_cons, List.drop_zero]
  repeat (go_big_quiet_step ((first
    | (go_at_call 72; with_reducible exact Wv.calls _ (HA.out _))
    | (go_at_call 72; with_reducible exact Wv.calls _ (HB.out _))
    | (go_at_call 71; exact Wv.calls _ (HG.out _)))))
  refine wpQuiet_nil ?_
  intro w3 hw'
  obtain ⟨q, rfl⟩ := hw'
  have g3 := (q.below.block _ (Nat.lt_of_lt_of_le zW b3.size)).trans F3.out
  have u0 := cells_at g3 0 _ rfl
  have u1 := cells_at g3 1 _ rfl
  have u2 := cells_at g3 2 _ rfl
  have u3 := cells_at g3 3 _ rfl
  have u4 := cells_at g3 4 _ rfl
  have p0 := frozen_at g3 0
  have p1 := frozen_at g3 1
  have p2 := frozen_at g3 2
  have p3 := frozen_at g3 3
  have p4 := frozen_at g3 4
  have G3 := hide g3
  clear g3 hany v0 v1 v2 v3 v4 t0 t1 t2 t3 t4 z0 z1 z2 z3 z4 s0 s1 s2 s3 s4
  go_wp2
  have g := stored w q.val d1 d2 d3 d4 (.slice none 0 0) zcells (w.heap.size + 2) (by omega) (trans_v (trans_v bW b3) q.below) rfl G3.out
  refine bodyPost_ret (results_struct_tmp rfl _ _ (w.heap.size + 2) _ _ _ _ rfl g.1 Tryz.underlying25 rfl infoVal5) rfl ?_
  exact ⟨rfl, g.2⟩
end Go.Proofs.YtgglommnipbagaaGreatDoor

/- The reference's arithmetic: what it calls, and the operations of one value; alike. -/
namespace Go.Proofs.YtgglommnipbagaaGreatDoor
open Go.RowKit

theorem refInt5_k (i : Int) (w : World) : Calls Tryz.prog 85 #[.int .i64 i] w fun e w' => e = .returned (.agg (vcells ⟨2, i, 0, ⟨#[]⟩, []⟩ (.slice none 0 0))) ∧ Below w.heap.size w w' := by
  obtain ⟨W, hW⟩ : ∃ W, w.alloc (.cells zcells 25) = W := ⟨_, rfl⟩
  have bW : Below w.heap.size w W := by rw [← hW]; exact alloc_v (Below.refl _ _) _
  have e1 : W.heap[w.heap.size]? = some (.cells zcells 25 (0, 0)) := by rw [← hW]; exact World.alloc_heap_new w _
  have x0 := cells_at e1 0 _ rfl
  have x1 := cells_at e1 1 _ rfl
  have x2 := cells_at e1 2 _ rfl
  have x3 := cells_at e1 3 _ rfl
  have x4 := cells_at e1 4 _ rfl
  have q0 := frozen_at e1 0
  have q1 := frozen_at e1 1
  have q2 := frozen_at e1 2
  have q3 := frozen_at e1 3
  have q4 := frozen_at e1 4
  have E := hide e1
  clear e1
  go_enter Tryz.func85, Tryz.ntmps85
  go_wp2
  have g := stored w W 2 i 0 ⟨#[]⟩ (.slice none 0 0) zcells w.heap.size (Nat.le_refl _) bW rfl E.out
  refine bodyPost_ret (results_cell_row rfl _ _ w.heap.size _ _ _ _ rfl g.1 Tryz.underlying25 rfl infoVal5) rfl ?_
  exact ⟨rfl, g.2⟩
theorem refBool5_k (b : Bool) (w : World) : Calls Tryz.prog 75 #[.bool b] w fun e w' => e = .returned (.agg (vcells ⟨1, bif b then 1 else 0, 0, ⟨#[]⟩, []⟩ (.slice none 0 0))) ∧ Below w.heap.size w w' := by
  obtain ⟨W, hW⟩ : ∃ W, w.alloc (.cells zcells 25) = W := ⟨_, rfl⟩
  have bW : Below w.heap.size w W := by rw [← hW]; exact alloc_v (Below.refl _ _) _
  have e1 : W.heap[w.heap.size]? = some (.cells zcells 25 (0, 0)) := by rw [← hW]; exact World.alloc_heap_new w _
  have x0 := cells_at e1 0 _ rfl
  have x1 := cells_at e1 1 _ rfl
  have x2 := cells_at e1 2 _ rfl
  have x3 := cells_at e1 3 _ rfl
  have x4 := cells_at e1 4 _ rfl
  have q0 := frozen_at e1 0
  have q1 := frozen_at e1 1
  have q2 := frozen_at e1 2
  have q3 := frozen_at e1 3
  have q4 := frozen_at e1 4
  have E := hide e1
  clear e1
  cases b
  · go_enter Tryz.func75, Tryz.ntmps75
    go_wp2
    have g := stored w W 1 0 0 ⟨#[]⟩ (.slice none 0 0) zcells w.heap.size (Nat.le_refl _) bW rfl E.out
    refine bodyPost_ret (results_cell_row rfl _ _ w.heap.size _ _ _ _ rfl g.1 Tryz.underlying25 rfl infoVal5) rfl ?_
    exact ⟨rfl, g.2⟩
  · go_enter Tryz.func75, Tryz.ntmps75
    go_wp2
    have g := stored w W 1 1 0 ⟨#[]⟩ (.slice none 0 0) zcells w.heap.size (Nat.le_refl _) bW rfl E.out
    refine bodyPost_ret (results_cell_row rfl _ _ w.heap.size _ _ _ _ rfl g.1 Tryz.underlying25 rfl infoVal5) rfl ?_
    exact ⟨rfl, g.2⟩
theorem lawGauss_k (i m : Int) (w : World) : Calls Tryz.prog 86 #[.int .i64 i, .int .i64 m] w fun e w' => e = .returned (.agg (vcells ⟨3, i, m, ⟨#[]⟩, []⟩ (.slice none 0 0))) ∧ Below w.heap.size w w' := by
  obtain ⟨W, hW⟩ : ∃ W, w.alloc (.cells zcells 25) = W := ⟨_, rfl⟩
  have bW : Below w.heap.size w W := by rw [← hW]; exact alloc_v (Below.refl _ _) _
  have e1 : W.heap[w.heap.size]? = some (.cells zcells 25 (0, 0)) := by rw [← hW]; exact World.alloc_heap_new w _
  have x0 := cells_at e1 0 _ rfl
  have x1 := cells_at e1 1 _ rfl
  have x2 := cells_at e1 2 _ rfl
  have x3 := cells_at e1 3 _ rfl
  have x4 := cells_at e1 4 _ rfl
  have q0 := frozen_at e1 0
  have q1 := frozen_at e1 1
  have q2 := frozen_at e1 2
  have q3 := frozen_at e1 3
  have q4 := frozen_at e1 4
  have E := hide e1
  clear e1
  go_enter Tryz.func86, Tryz.ntmps86
  go_wp2
  have g := stored w W 3 i m ⟨#[]⟩ (.slice none 0 0) zcells w.heap.size (Nat.le_refl _) bW rfl E.out
  refine bodyPost_ret (results_cell_row rfl _ _ w.heap.size _ _ _ _ rfl g.1 Tryz.underlying25 rfl infoVal5) rfl ?_
  exact ⟨rfl, g.2⟩
theorem right_leaf3 (i m : Int) : rightV ⟨3, i, m, ⟨#[]⟩, []⟩ = gaussB i m := by
  unfold rightV gaussB
  rw [rw]
  simp only [Nat.reduceEqDiff, if_false]
  unfold usedB goodB
  cases h : ((decide (-1048576 ≤ i) && decide (i ≤ 1048576)) && (decide (-1048576 ≤ m) && decide (m ≤ 1048576))) <;> simp_all [rwL]
theorem right_leaf2 (i : Int) : rightV ⟨2, i, 0, ⟨#[]⟩, []⟩ = true := by
  unfold rightV
  rw [rw]
  unfold usedB goodB
  simp [rwL]
theorem right_leaf1 (b : Bool) : rightV ⟨1, bif b then 1 else 0, 0, ⟨#[]⟩, []⟩ = true := by
  unfold rightV
  rw [rw]
  unfold usedB goodB
  cases b <;> simp [rwL]
theorem items_nil (w : World) (B : Nat) : ItemsAt w B 1 (.slice none 0 0) [] := ⟨none, 0, rfl, by simp [maxLen], fun j h => by simp at h⟩
set_option maxRecDepth 100000 in
/-- What is not right is stuck. -/
theorem done_k (v : Vl) (w : World) (n : Nat) (sl : Value) (htx : v.text.size ≤ 1048576) (hs : ItemsAt w w.heap.size n sl v.items) :
    Calls Tryz.prog 81 #[.agg (vcells v sl)] w fun e w' => e = .returned (.tuple #[.agg (bif rightV v then vcells v sl else zcells), .int .i64 (bif rightV v then 0 else 50)]) ∧ Below w.heap.size w w' := by
  obtain ⟨W, hW⟩ : ∃ W, (w.alloc (.cells (vcells v sl) 25)).alloc (.cells zcells 25) = W := ⟨_, rfl⟩
  have bW : Below w.heap.size w W := by rw [← hW]; exact two_below _ _ _
  have e1 : W.heap[w.heap.size]? = some (.cells (vcells v sl) 25 (0, 0)) := by rw [← hW]; exact two_first _ _ _
  have e2 : W.heap[w.heap.size + 1]? = some (.cells zcells 25 (0, 0)) := by rw [← hW]; exact two_second _ _ _
  have zW : w.heap.size + 1 < W.heap.size := (Array.getElem?_eq_some_iff.1 e2).1
  have x0 := cells_at e1 0 _ rfl
  have x1 := cells_at e1 1 _ rfl
  have x2 := cells_at e1 2 _ rfl
  have x3 := cells_at e1 3 _ rfl
  have x4 := cells_at e1 4 _ rfl
  have E1 := hide e1
  have E2 := hide e2
  have HR := hide (refRight_k v W n sl htx ((hs.below bW).up bW.size))
  obtain ⟨a, c, rfl, _⟩ := hs.len
  clear hs e1 e2
  generalize rightV v = x at *
  cases x
  · go_enter Tryz.func81, Tryz.ntmps81
    go_wp2_with (go_at_call 38; refine HR.out.mono ?_; clear HR; rintro e w2 ⟨rfl, b2⟩; have f1 := (b2.block _ (Nat.lt_trans (Nat.lt_succ_self _) zW)).trans E1.out; have f2 := (b2.block _ zW).trans E2.out; have F2 := hide f2; have z0 := cells_at f1 0 _ rfl; have z1 := cells_at f1 1 _ rfl; have z2 := cells_at f1 2 _ rfl; have z3 := cells_at f1 3 _ rfl; have z4 := cells_at f1 4 _ rfl; have y0 := cells_at f2 0 _ rfl; have y1 := cells_at f2 1 _ rfl; have y2 := cells_at f2 2 _ rfl; have y3 := cells_at f2 3 _ rfl; have y4 := cells_at f2 4 _ rfl; have q0 := frozen_at f2 0; have q1 := frozen_at f2 1; have q2 := frozen_at f2 2; have q3 := frozen_at f2 3; have q4 := frozen_at f2 4; clear f1 f2)
    have g := stored w w2 0 0 0 ⟨#[]⟩ (.slice none 0 0) zcells (w.heap.size + 1) (by omega) (trans_v bW b2) rfl F2.out
    refine bodyPost_ret (results_struct_tmp rfl _ _ (w.heap.size + 1) _ _ _ _ rfl g.1 Tryz.underlying25 rfl infoVal5) rfl ?_
    exact ⟨rfl, g.2⟩
  · go_enter Tryz.func81, Tryz.ntmps81
    go_wp2_with (go_at_call 38; refine HR.out.mono ?_; clear HR; rintro e w2 ⟨rfl, b2⟩; have f1 := (b2.block _ (Nat.lt_trans (Nat.lt_succ_self _) zW)).trans E1.out; have f2 := (b2.block _ zW).trans E2.out; have F2 := hide f2; have z0 := cells_at f1 0 _ rfl; have z1 := cells_at f1 1 _ rfl; have z2 := cells_at f1 2 _ rfl; have z3 := cells_at f1 3 _ rfl; have z4 := cells_at f1 4 _ rfl; have y0 := cells_at f2 0 _ rfl; have y1 := cells_at f2 1 _ rfl; have y2 := cells_at f2 2 _ rfl; have y3 := cells_at f2 3 _ rfl; have y4 := cells_at f2 4 _ rfl; have q0 := frozen_at f2 0; have q1 := frozen_at f2 1; have q2 := frozen_at f2 2; have q3 := frozen_at f2 3; have q4 := frozen_at f2 4; clear f1 f2)
    have g := stored w w2 v.kind v.int v.im v.text (.slice a v.items.length c) zcells (w.heap.size + 1) (by omega) (trans_v bW b2) rfl F2.out
    refine bodyPost_ret (results_struct_tmp rfl _ _ (w.heap.size + 1) _ _ _ _ rfl g.1 Tryz.underlying25 rfl infoVal5) rfl ?_
    exact ⟨rfl, g.2⟩
set_option maxRecDepth 100000 in
theorem refGauss5_k (i m : Int) (w : World) : Calls Tryz.prog 121 #[.int .i64 i, .int .i64 m] w fun e w' => e = .returned (.tuple #[.agg (bif gaussB i m then vcells ⟨3, i, m, ⟨#[]⟩, []⟩ (.slice none 0 0) else zcells), .int .i64 (bif gaussB i m then 0 else 50)]) ∧ Below w.heap.size w w' := by
  obtain ⟨W, hW⟩ : ∃ W, w.alloc (.cells zcells 25) = W := ⟨_, rfl⟩
  have bW : Below w.heap.size w W := by rw [← hW]; exact alloc_v (Below.refl _ _) _
  have e1 : W.heap[w.heap.size]? = some (.cells zcells 25 (0, 0)) := by rw [← hW]; exact World.alloc_heap_new w _
  have zW : w.heap.size < W.heap.size := (Array.getElem?_eq_some_iff.1 e1).1
  have E := hide e1
  have HD := hide (done_k ⟨3, i, m, ⟨#[]⟩, []⟩ W 1 (.slice none 0 0) (Nat.zero_le _) (items_nil _ _))
  rw [right_leaf3] at HD
  clear e1
  generalize gaussB i m = u at *
  cases u
  · go_enter Tryz.func121, Tryz.ntmps121
    go_wp2_with (go_at_call 81; refine HD.out.mono ?_; clear HD; rintro e w2 ⟨rfl, b2⟩; have f2 := (b2.block _ zW).trans E.out; have F2 := hide f2; have y0 := cells_at f2 0 _ rfl; have y1 := cells_at f2 1 _ rfl; have y2 := cells_at f2 2 _ rfl; have y3 := cells_at f2 3 _ rfl; have y4 := cells_at f2 4 _ rfl; have q0 := frozen_at f2 0; have q1 := frozen_at f2 1; have q2 := frozen_at f2 2; have q3 := frozen_at f2 3; have q4 := frozen_at f2 4; clear f2)
    have g := stored w w2 0 0 0 ⟨#[]⟩ (.slice none 0 0) zcells w.heap.size (Nat.le_refl _) (trans_v bW b2) rfl F2.out
    refine bodyPost_ret (results_struct_tmp rfl _ _ w.heap.size _ _ _ _ rfl g.1 Tryz.underlying25 rfl infoVal5) rfl ?_
    exact ⟨rfl, g.2⟩
  · go_enter Tryz.func121, Tryz.ntmps121
    go_wp2_with (go_at_call 81; refine HD.out.mono ?_; clear HD; rintro e w2 ⟨rfl, b2⟩; have f2 := (b2.block _ zW).trans E.out; have F2 := hide f2; have y0 := cells_at f2 0 _ rfl; have y1 := cells_at f2 1 _ rfl; have y2 := cells_at f2 2 _ rfl; have y3 := cells_at f2 3 _ rfl; have y4 := cells_at f2 4 _ rfl; have q0 := frozen_at f2 0; have q1 := frozen_at f2 1; have q2 := frozen_at f2 2; have q3 := frozen_at f2 3; have q4 := frozen_at f2 4; clear f2)
    have g := stored w w2 3 i m ⟨#[]⟩ (.slice none 0 0) zcells w.heap.size (Nat.le_refl _) (trans_v bW b2) rfl F2.out
    refine bodyPost_ret (results_struct_tmp rfl _ _ w.heap.size _ _ _ _ rfl g.1 Tryz.underlying25 rfl infoVal5) rfl ?_
    exact ⟨rfl, g.2⟩
set_option maxRecDepth 100000 in
set_option maxHeartbeats 1000000 in
/-- Alike where both answer the same error. -/
theorem alike5_err (f : Int) (hf : f ≠ 0) (b : Vl) (sb : Value) (w : World) :
    Calls Tryz.prog 28 #[.agg zcells, .int .i64 f, .agg (vcells b sb), .int .i64 f] w fun e w' => e = .returned (.bool true) ∧ Below w.heap.size w w' := by
  obtain ⟨W, hW⟩ : ∃ W, (w.alloc (.cells zcells 25)).alloc (.cells (vcells b sb) 25) = W := ⟨_, rfl⟩
  have bW : Below w.heap.size w W := by rw [← hW]; exact two_below _ _ _
  have e1 : W.heap[w.heap.size]? = some (.cells zcells 25 (0, 0)) := by rw [← hW]; exact two_first _ _ _
  have x0 := cells_at e1 0 _ rfl
  have x1 := cells_at e1 1 _ rfl
  have x2 := cells_at e1 2 _ rfl
  have x3 := cells_at e1 3 _ rfl
  have x4 := cells_at e1 4 _ rfl
  have h0 : (f != 0) = true := by simpa using hf
  clear e1
  go_enter Tryz.func28, Tryz.ntmps28
  go_wp2
  go_ret
  exact ⟨rfl, bW⟩
set_option maxRecDepth 100000 in
set_option maxHeartbeats 1000000 in
/-- Alike where both answer the same value. -/
theorem alike5_ok (a b : Vl) (w : World) (n m : Nat) (sa sb : Value) (hta : a.text.size ≤ 1048576) (htb : b.text.size ≤ 1048576) (ha : ItemsAt w w.heap.size n sa a.items) (hb : ItemsAt w w.heap.size m sb b.items) (hr : rightV a = true) (hc : cmpV a b = 0) :
    Calls Tryz.prog 28 #[.agg (vcells a sa), .int .i64 0, .agg (vcells b sb), .int .i64 0] w fun e w' => e = .returned (.bool true) ∧ Below w.heap.size w w' := by
  obtain ⟨W, hW⟩ : ∃ W, (w.alloc (.cells (vcells a sa) 25)).alloc (.cells (vcells b sb) 25) = W := ⟨_, rfl⟩
  have bW : Below w.heap.size w W := by rw [← hW]; exact two_below _ _ _
  have e1 : W.heap[w.heap.size]? = some (.cells (vcells a sa) 25 (0, 0)) := by rw [← hW]; exact two_first _ _ _
  have e2 : W.heap[w.heap.size + 1]? = some (.cells (vcells b sb) 25 (0, 0)) := by rw [← hW]; exact two_second _ _ _
  have zW : w.heap.size + 1 < W.heap.size := (Array.getElem?_eq_some_iff.1 e2).1
  have x0 := cells_at e1 0 _ rfl
  have x1 := cells_at e1 1 _ rfl
  have x2 := cells_at e1 2 _ rfl
  have x3 := cells_at e1 3 _ rfl
  have x4 := cells_at e1 4 _ rfl
  have E1 := hide e1
  have E2 := hide e2
  have HR := hide (refRight_k a W n sa hta ((ha.below bW).up bW.size))
  have HC := hide (fun (U : World) (u : Below W.heap.size W U) => refCompare_k a b U n m sa sb hta htb ((ha.below (trans_v bW u)).up (trans_v bW u).size) ((hb.below (trans_v bW u)).up (trans_v bW u).size))
  rw [hr] at HR
  rw [hc] at HC
  obtain ⟨a1, c1, rfl, _⟩ := ha.len
  obtain ⟨a2, c2, rfl, _⟩ := hb.len
  clear ha hb e1 e2 hr hc
  go_enter Tryz.func28, Tryz.ntmps28
  go_wp2_with (first
    | (go_at_call 38; refine HR.out.mono ?_; clear HR; rintro e w2 ⟨rfl, b2⟩; have f1 := (b2.block _ (Nat.lt_trans (Nat.lt_succ_self _) zW)).trans E1.out; have f2 := (b2.block _ zW).trans E2.out; have z0 := cells_at f1 0 _ rfl; have z1 := cells_at f1 1 _ rfl; have z2 := cells_at f1 2 _ rfl; have z3 := cells_at f1 3 _ rfl; have z4 := cells_at f1 4 _ rfl; have y0 := cells_at f2 0 _ rfl; have y1 := cells_at f2 1 _ rfl; have y2 := cells_at f2 2 _ rfl; have y3 := cells_at f2 3 _ rfl; have y4 := cells_at f2 4 _ rfl; clear f1 f2)
    | (go_at_call 39; refine (HC.out _ b2).mono ?_; clear HC; rintro e w3 ⟨rfl, b3⟩))
  go_ret
  exact ⟨rfl, trans_v (trans_v bW b2) b3⟩
end Go.Proofs.YtgglommnipbagaaGreatDoor
