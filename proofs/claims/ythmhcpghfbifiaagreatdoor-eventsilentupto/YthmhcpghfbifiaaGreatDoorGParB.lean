/- The parser's Gaussian numbers. -/
import Derived.Test.YthmhcpghfbifiaaGreatDoorGParA
import Derived.Test.YthmhcpghfbifiaaGreatDoorGVDcA
import Derived.Test.YthmhcpghfbifiaaGreatDoorGE7
namespace Go.Proofs.YthmhcpghfbifiaaGreatDoor
open Go.RowKit

theorem gaussM_eq (k : Int) (o : Nat) (l : List UInt8) (n : Nat) (hn : numSz l = n) (c : UInt8) (hc : l[n]? = some c) : gaussM ⟨k, o, str l⟩ = if numE (l.take n) ≠ 0 then .error (22, o) else if numE ((l.take (l.length - 1)).drop (n + 1)) ≠ 0 then .error (22, o)
    else if c = 45 then (if numV ((l.take (l.length - 1)).drop (n + 1)) = 0 then .error (22, o) else if gaussB (numV (l.take n)) (wrap64 (-(numV ((l.take (l.length - 1)).drop (n + 1))))) then .ok ⟨3, numV (l.take n), wrap64 (-(numV ((l.take (l.length - 1)).drop (n + 1)))), ⟨#[]⟩, []⟩ else .error (42, o))
    else if gaussB (numV (l.take n)) (numV ((l.take (l.length - 1)).drop (n + 1))) then .ok ⟨3, numV (l.take n), numV ((l.take (l.length - 1)).drop (n + 1)), ⟨#[]⟩, []⟩ else .error (42, o) := by
  unfold gaussM
  simp only [bytes_str, hn, hc, Option.some.injEq]
/-- Where gauss begins. -/
theorem gauss_start (w W : World) (cs : Array Value) (hW : (w.alloc (.cells cs 148)).alloc (.cells zcells 46) = W) : Below w.heap.size w W ∧ W.heap.size = w.heap.size + 2 ∧ W.heap[w.heap.size]? = some (.cells cs 148 (0, 0)) ∧ W.heap[w.heap.size + 1]? = some (.cells zcells 46 (0, 0)) := by
  subst hW
  refine ⟨alloc_v (alloc_v (Below.refl _ _) _) _, by simp, (Below.heap_alloc _ _ _ (by simp)).trans (World.alloc_heap_new w _), ?_⟩
  have := World.alloc_heap_new (w.alloc (.cells cs 148)) (.cells zcells 46)
  rwa [World.size_alloc] at this
set_option maxRecDepth 100000 in
set_option maxHeartbeats 4000000 in
/-- The first number is none. -/
theorem gauss_no1 (w : World) (pb : Nat) (s : List UInt8) (t0 : Tk) (q : Nat) (tk : Int) (to : Nat) (l : List UInt8) (hP : ParAt w pb s t0 q) (hs : s.length ≤ 1048576) (hT : Tabs w) (hl : l.length ≤ 1048576) (hr : numSz l + 2 ≤ l.length) (he : ¬ numE (l.take (numSz l)) = 0) :
    Calls Tryz.prog 123 #[.pointer (some ⟨pb, 0, none⟩), .agg (tcells ⟨tk, to, str l⟩)] w fun e w' => e = gaveIn s 22 to ∧ Below w.heap.size w w' := by
  obtain ⟨W, hW⟩ : ∃ W, (w.alloc (.cells (tcells ⟨tk, to, str l⟩) 148)).alloc (.cells zcells 46) = W := ⟨_, rfl⟩
  obtain ⟨bW, zW, e1, e2⟩ := gauss_start w W _ hW
  have hpb := hP.lt
  have x0 := cells_at e1 0 _ rfl
  have x1 := cells_at e1 1 _ rfl
  have x2 := cells_at e1 2 _ rfl
  have HN := hide (numberSize_k l hl W (hT.below bW))
  have HE := hide e1
  have hsl := sl_hi l (numSz l) (by omega)
  have HX := hide (fun (U : World) (b : Below W.heap.size W U) => num_no U pb s t0 ⟨tk, to, str l⟩ q (str (l.take (numSz l))) (by rw [str_size, List.length_take]; omega) (hP.grownL (trans_v bW b) hpb) hs (hT.below (trans_v bW b)) (by rw [bytes_str]; exact he))
  clear e1 e2 hP hT he
  generalize str (l.take (numSz l)) = sa at *
  generalize numSz l = n at *
  generalize str l = sl at *
  go_enter Tryz.func123, Tryz.ntmps123
  go_wp2_with (go_at_call 114; refine HN.out.mono ?_; clear HN; rintro e w2 ⟨rfl, b2⟩; have e2 := (b2.block w.heap.size (by omega)).trans HE.out; have HX2 := hide (HX.out w2.drew (trans_v b2 (below_drawn _))); have E2 := hide e2; have B2 := hide b2; clear b2 e2 x0 x1 x2 HX)
  refine wp_region_F 7 8 (fun U => U.heap[w.heap.size]? = some (.cells #[.int .i32 tk, .int .i64 to, .string sl] 148 (0, 0))) (by kernel_rfl) (by kernel_rfl) (by kernel_rfl) (by kernel_rfl) (by decide) (by kernel_rfl) ?_
  intro hsk inv
  have HS : Hid (w2.drew.heap[w.heap.size]? = some (.cells #[.int .i32 tk, .int .i64 to, .string sl] 148 (0, 0))) := E2
  refine wpAnyF_take (i := 0) (v := ?v0) hsk inv (by decide) rfl (by kernel_rfl) (by kernel_rfl) (fun _ _ _ h => h) (Or.inl ⟨by rfl, ?hy0⟩) HS.out ?rest0
  case hy0 => intro U hU; (try dsimp only at hU); go_simp; (try with_reducible rfl)
  case rest0 =>
  clear inv
  intro inv
  (try simp only [Act.put, List.setIfInBounds_toArray])
  refine wpAnyF_take (i := 1) (v := ?v1) hsk inv (by decide) rfl (by kernel_rfl) (by kernel_rfl) (fun _ _ _ h => h) (Or.inl ⟨by rfl, ?hy1⟩) HS.out ?rest1
  case hy1 => intro U hU; (try dsimp only at hU); have c0 := cells_at hU 0 _ rfl; have c1 := cells_at hU 1 _ rfl; have c2 := cells_at hU 2 _ rfl; go_simp; (try with_reducible rfl)
  case rest1 =>
  clear inv
  intro inv
  (try simp only [Act.put])
  refine wpAnyF_take (i := 2) (v := ?v2) hsk inv (by decide) rfl (by kernel_rfl) (by kernel_rfl) (fun _ _ _ h => h) (Or.inl ⟨by rfl, ?hy2⟩) HS.out ?rest2
  case hy2 => intro U hU; (try dsimp only at hU); go_simp; (try with_reducible rfl)
  case rest2 =>
  clear inv
  intro inv
  (try simp only [Act.put])
  refine wpAnyF_take (i := 3) (v := ?v3) hsk inv (by decide) rfl (by kernel_rfl) (by kernel_rfl) (fun _ _ _ h => h) (Or.inl ⟨by rfl, ?hy3⟩) HS.out ?rest3
  case hy3 => intro U hU; (try dsimp only at hU); have c2 := cells_at hU 2 _ rfl; go_simp; (try with_reducible rfl)
  case rest3 =>
  clear inv
  intro inv
  (try simp only [Act.put])
  refine wpAnyF_take (i := 4) (v := ?v4) hsk inv (by decide) rfl (by kernel_rfl) (by kernel_rfl) (fun _ _ _ h => h) (Or.inl ⟨by rfl, ?hy4⟩) HS.out ?rest4
  case hy4 => intro U hU; (try dsimp only at hU); go_simp; (try with_reducible rfl)
  case rest4 =>
  clear inv
  intro inv
  (try simp only [Act.put])
  refine wpAnyF_take (i := 5) (v := ?v5) hsk inv (by decide) rfl (by kernel_rfl) (by kernel_rfl) (fun _ _ _ h => h) (Or.inl ⟨by rfl, ?hy5⟩) HS.out ?rest5
  case hy5 => intro U hU; (try dsimp only at hU); go_simp; (try with_reducible rfl)
  case rest5 =>
  clear inv
  intro inv
  (try simp only [Act.put])
  refine wpAnyF_one (i := 6) inv (by decide) (by kernel_rfl) rfl (fun K hK => ?_)
  go_simp
  go_at_call 125
  refine HX2.out.mono ?_
  rintro r w4 ⟨rfl, b4⟩
  exact ⟨rfl, rfl, trans_v bW (trans_v B2.out (trans_v (below_drawn _) b4))⟩
set_option maxRecDepth 100000 in
set_option maxHeartbeats 4000000 in
/-- The second number is none. -/
theorem gauss_no2 (w : World) (pb : Nat) (s : List UInt8) (t0 : Tk) (q : Nat) (tk : Int) (to : Nat) (l : List UInt8) (hP : ParAt w pb s t0 q) (hs : s.length ≤ 1048576) (hT : Tabs w) (hl : l.length ≤ 1048576) (hr : numSz l + 2 ≤ l.length) (he : numE (l.take (numSz l)) = 0) (he2 : ¬ numE ((l.take (l.length - 1)).drop (numSz l + 1)) = 0) :
    Calls Tryz.prog 123 #[.pointer (some ⟨pb, 0, none⟩), .agg (tcells ⟨tk, to, str l⟩)] w fun e w' => e = gaveIn s 22 to ∧ Below w.heap.size w w' := by
  obtain ⟨W, hW⟩ : ∃ W, (w.alloc (.cells (tcells ⟨tk, to, str l⟩) 148)).alloc (.cells zcells 46) = W := ⟨_, rfl⟩
  obtain ⟨bW, zW, e1, e2⟩ := gauss_start w W _ hW
  have hpb := hP.lt
  have x0 := cells_at e1 0 _ rfl
  have x1 := cells_at e1 1 _ rfl
  have x2 := cells_at e1 2 _ rfl
  have hlz := str_size l
  have HN := hide (numberSize_k l hl W (hT.below bW))
  have HE := hide (And.intro e1 e2)
  have hsl := sl_hi l (numSz l) (by omega)
  have hsm : ∀ w : World, (Instr.slice 9 (.string (str l)) (some (.int .i64 ((numSz l : Int) + 1))) (some (.int .i64 ((l.length : Int) - 1))) none).run Tryz.prog w = .ok (.string (str ((l.take (l.length - 1)).drop (numSz l + 1)))) w := fun w => by
    have := sl_mid l (numSz l + 1) (l.length - 1) (by omega) (by omega) w
    rwa [show ((numSz l + 1 : Nat) : Int) = (numSz l : Int) + 1 by omega, show ((l.length - 1 : Nat) : Int) = (l.length : Int) - 1 by omega] at this
  have hsz : ((str l).size : Int) = (l.length : Int) := by rw [hlz]
  have hadd : IntKind.i64.wrap ((numSz l : Int) + 1) = (numSz l : Int) + 1 := by rw [IntKind.wrap_i64]; omega
  have hsub : IntKind.i64.wrap ((l.length : Int) - 1) = (l.length : Int) - 1 := by rw [IntKind.wrap_i64]; omega
  have HA := hide (fun (U : World) (b : Below W.heap.size W U) => num_ok U pb s t0 ⟨tk, to, str l⟩ q (str (l.take (numSz l))) (by rw [str_size, List.length_take]; omega) (hP.grownL (trans_v bW b) hpb) (hT.below (trans_v bW b)) (by rw [bytes_str]; exact he))
  rw [bytes_str] at HA
  have HX := hide (fun (U : World) (b : Below W.heap.size W U) => num_no U pb s t0 ⟨tk, to, str l⟩ q (str ((l.take (l.length - 1)).drop (numSz l + 1))) (by rw [str_size, List.length_drop, List.length_take]; omega) (hP.grownL (trans_v bW b) hpb) hs (hT.below (trans_v bW b)) (by rw [bytes_str]; exact he2))
  clear e1 e2 hP hT he he2 hlz
  generalize str ((l.take (l.length - 1)).drop (numSz l + 1)) = sb at *
  generalize numV (l.take (numSz l)) = za at *
  generalize str (l.take (numSz l)) = sa at *
  generalize numSz l = n at *
  generalize str l = sl at *
  go_enter Tryz.func123, Tryz.ntmps123
  go_wp2_with (go_at_call 114; refine HN.out.mono ?_; clear HN; rintro e w2 ⟨rfl, b2⟩; have e2 := (b2.block w.heap.size (by omega)).trans HE.out.1; have E2 := hide e2; have B2 := hide b2; clear b2 e2 x0 x1 x2)
  have y0 := fun q : Wv w2 => q.cell (cells_at E2.out 0 _ rfl)
  have y1 := fun q : Wv w2 => q.cell (cells_at E2.out 1 _ rfl)
  have y2 := fun q : Wv w2 => q.cell (cells_at E2.out 2 _ rfl)
  have HA2 := hide (fun q : Wv w2 => HA.out q.val (trans_v B2.out q.below))
  have hany := Wv.any w2
  refine wp_region_grown (by kernel_rfl) (by kernel_rfl) ?_
  repeat (go_big_quiet_step ((go_at_call 125; exact Wv.calls _ (HA2.out _))))
  refine wpQuiet_nil ?_
  intro w3 hw'
  obtain ⟨qq, rfl⟩ := hw'
  have E3 := hide ((qq.below.block w.heap.size (by have := B2.out.size; omega)).trans E2.out)
  have B3 := hide (trans_v B2.out qq.below)
  have HX2 := hide (HX.out qq.val.drew (trans_v B3.out (below_drawn _)))
  clear y0 y1 y2 HA2 hany HA HX
  generalize qq.val = w3 at *
  go_wp2
  refine wp_region_F 12 13 (fun U => U.heap[w.heap.size]? = some (.cells #[.int .i32 tk, .int .i64 to, .string sl] 148 (0, 0))) (by kernel_rfl) (by kernel_rfl) (by kernel_rfl) (by kernel_rfl) (by decide) (by kernel_rfl) ?_
  intro hsk inv
  have HS : Hid (w3.drew.heap[w.heap.size]? = some (.cells #[.int .i32 tk, .int .i64 to, .string sl] 148 (0, 0))) := E3
  refine wpAnyF_take (i := 0) (v := ?v0) hsk inv (by decide) rfl (by kernel_rfl) (by kernel_rfl) (fun _ _ _ h => h) (Or.inl ⟨by rfl, ?hy0⟩) HS.out ?rest0
  case hy0 => intro U hU; (try dsimp only at hU); have c0 := cells_at hU 0 _ rfl; have c1 := cells_at hU 1 _ rfl; have c2 := cells_at hU 2 _ rfl; go_simp; (try with_reducible rfl)
  case rest0 =>
  clear inv
  intro inv
  (try simp only [Act.put, List.setIfInBounds_toArray])
  refine wpAnyF_take (i := 1) (v := ?v1) hsk inv (by decide) rfl (by kernel_rfl) (by kernel_rfl) (fun _ _ _ h => h) (Or.inl ⟨by rfl, ?hy1⟩) HS.out ?rest1
  case hy1 => intro U hU; (try dsimp only at hU); have c0 := cells_at hU 0 _ rfl; have c1 := cells_at hU 1 _ rfl; have c2 := cells_at hU 2 _ rfl; go_simp; (try with_reducible rfl)
  case rest1 =>
  clear inv
  intro inv
  (try simp only [Act.put])
  refine wpAnyF_take (i := 2) (v := ?v2) hsk inv (by decide) rfl (by kernel_rfl) (by kernel_rfl) (fun _ _ _ h => h) (Or.inl ⟨by rfl, ?hy2⟩) HS.out ?rest2
  case hy2 => intro U hU; (try dsimp only at hU); have c0 := cells_at hU 0 _ rfl; have c1 := cells_at hU 1 _ rfl; have c2 := cells_at hU 2 _ rfl; go_simp; (try with_reducible rfl)
  case rest2 =>
  clear inv
  intro inv
  (try simp only [Act.put])
  refine wpAnyF_take (i := 3) (v := ?v3) hsk inv (by decide) rfl (by kernel_rfl) (by kernel_rfl) (fun _ _ _ h => h) (Or.inl ⟨by rfl, ?hy3⟩) HS.out ?rest3
  case hy3 => intro U hU; (try dsimp only at hU); have c0 := cells_at hU 0 _ rfl; have c1 := cells_at hU 1 _ rfl; have c2 := cells_at hU 2 _ rfl; go_simp; (try with_reducible rfl)
  case rest3 =>
  clear inv
  intro inv
  (try simp only [Act.put])
  refine wpAnyF_take (i := 4) (v := ?v4) hsk inv (by decide) rfl (by kernel_rfl) (by kernel_rfl) (fun _ _ _ h => h) (Or.inl ⟨by rfl, ?hy4⟩) HS.out ?rest4
  case hy4 => intro U hU; (try dsimp only at hU); have c0 := cells_at hU 0 _ rfl; have c1 := cells_at hU 1 _ rfl; have c2 := cells_at hU 2 _ rfl; go_simp; (try with_reducible rfl)
  case rest4 =>
  clear inv
  intro inv
  (try simp only [Act.put])
  refine wpAnyF_take (i := 5) (v := ?v5) hsk inv (by decide) rfl (by kernel_rfl) (by kernel_rfl) (fun _ _ _ h => h) (Or.inl ⟨by rfl, ?hy5⟩) HS.out ?rest5
  case hy5 => intro U hU; (try dsimp only at hU); have c0 := cells_at hU 0 _ rfl; have c1 := cells_at hU 1 _ rfl; have c2 := cells_at hU 2 _ rfl; go_simp; (try with_reducible rfl)
  case rest5 =>
  clear inv
  intro inv
  (try simp only [Act.put])
  refine wpAnyF_take (i := 6) (v := ?v6) hsk inv (by decide) rfl (by kernel_rfl) (by kernel_rfl) (fun _ _ _ h => h) (Or.inl ⟨by rfl, ?hy6⟩) HS.out ?rest6
  case hy6 => intro U hU; (try dsimp only at hU); have c0 := cells_at hU 0 _ rfl; have c1 := cells_at hU 1 _ rfl; have c2 := cells_at hU 2 _ rfl; go_simp; (try with_reducible rfl)
  case rest6 =>
  clear inv
  intro inv
  (try simp only [Act.put])
  refine wpAnyF_take (i := 7) (v := ?v7) hsk inv (by decide) rfl (by kernel_rfl) (by kernel_rfl) (fun _ _ _ h => h) (Or.inl ⟨by rfl, ?hy7⟩) HS.out ?rest7
  case hy7 => intro U hU; (try dsimp only at hU); have c0 := cells_at hU 0 _ rfl; have c1 := cells_at hU 1 _ rfl; have c2 := cells_at hU 2 _ rfl; go_simp; (try with_reducible rfl)
  case rest7 =>
  clear inv
  intro inv
  (try simp only [Act.put])
  refine wpAnyF_take (i := 8) (v := ?v8) hsk inv (by decide) rfl (by kernel_rfl) (by kernel_rfl) (fun _ _ _ h => h) (Or.inl ⟨by rfl, ?hy8⟩) HS.out ?rest8
  case hy8 => intro U hU; (try dsimp only at hU); have c0 := cells_at hU 0 _ rfl; have c1 := cells_at hU 1 _ rfl; have c2 := cells_at hU 2 _ rfl; go_simp; (try with_reducible rfl)
  case rest8 =>
  clear inv
  intro inv
  (try simp only [Act.put])
  refine wpAnyF_take (i := 9) (v := ?v9) hsk inv (by decide) rfl (by kernel_rfl) (by kernel_rfl) (fun _ _ _ h => h) (Or.inl ⟨by rfl, ?hy9⟩) HS.out ?rest9
  case hy9 => intro U hU; (try dsimp only at hU); have c0 := cells_at hU 0 _ rfl; have c1 := cells_at hU 1 _ rfl; have c2 := cells_at hU 2 _ rfl; go_simp; (try with_reducible rfl)
  case rest9 =>
  clear inv
  intro inv
  (try simp only [Act.put])
  refine wpAnyF_take (i := 10) (v := ?v10) hsk inv (by decide) rfl (by kernel_rfl) (by kernel_rfl) (fun _ _ _ h => h) (Or.inl ⟨by rfl, ?hy10⟩) HS.out ?rest10
  case hy10 => intro U hU; (try dsimp only at hU); have c0 := cells_at hU 0 _ rfl; have c1 := cells_at hU 1 _ rfl; have c2 := cells_at hU 2 _ rfl; go_simp; (try with_reducible rfl)
  case rest10 =>
  clear inv
  intro inv
  (try simp only [Act.put])
  refine wpAnyF_one (i := 11) inv (by decide) (by kernel_rfl) rfl (fun K hK => ?_)
  go_simp
  go_at_call 125
  refine HX2.out.mono ?_
  rintro r w4 ⟨rfl, b4⟩
  exact ⟨rfl, rfl, trans_v bW (trans_v B3.out (trans_v (below_drawn _) b4))⟩
set_option maxRecDepth 100000 in
set_option maxHeartbeats 4000000 in
/-- Both are numbers. -/
theorem gauss_go (w : World) (pb : Nat) (s : List UInt8) (t0 : Tk) (q : Nat) (tk : Int) (to : Nat) (l : List UInt8) (hP : ParAt w pb s t0 q) (hs : s.length ≤ 1048576) (hT : Tabs w) (hl : l.length ≤ 1048576) (hr : numSz l + 2 ≤ l.length) (he : numE (l.take (numSz l)) = 0) (he2 : numE ((l.take (l.length - 1)).drop (numSz l + 1)) = 0) (c : UInt8) (hc : l[numSz l]? = some c) :
    Calls Tryz.prog 123 #[.pointer (some ⟨pb, 0, none⟩), .agg (tcells ⟨tk, to, str l⟩)] w fun e w' => (match (if c = 45 then (if numV ((l.take (l.length - 1)).drop (numSz l + 1)) = 0 then .error (22, to) else if gaussB (numV (l.take (numSz l))) (wrap64 (-(numV ((l.take (l.length - 1)).drop (numSz l + 1))))) then .ok ⟨3, numV (l.take (numSz l)), wrap64 (-(numV ((l.take (l.length - 1)).drop (numSz l + 1)))), ⟨#[]⟩, []⟩ else .error (42, to))
    else if gaussB (numV (l.take (numSz l))) (numV ((l.take (l.length - 1)).drop (numSz l + 1))) then .ok ⟨3, numV (l.take (numSz l)), numV ((l.take (l.length - 1)).drop (numSz l + 1)), ⟨#[]⟩, []⟩ else .error (42, to) : Except (Int × Nat) Vl) with | .ok v => e = .returned (.agg (vcells v (.slice none 0 0))) | .error (c, o) => e = gaveIn s c o) ∧ Below w.heap.size w w' := by
  obtain ⟨W, hW⟩ : ∃ W, (w.alloc (.cells (tcells ⟨tk, to, str l⟩) 148)).alloc (.cells zcells 46) = W := ⟨_, rfl⟩
  obtain ⟨bW, zW, e1, e2⟩ := gauss_start w W _ hW
  have hpb := hP.lt
  have x0 := cells_at e1 0 _ rfl
  have x1 := cells_at e1 1 _ rfl
  have x2 := cells_at e1 2 _ rfl
  have hlz := str_size l
  have HN := hide (numberSize_k l hl W (hT.below bW))
  have HE := hide (And.intro e1 e2)
  have hsl := sl_hi l (numSz l) (by omega)
  have hsm : ∀ w : World, (Instr.slice 9 (.string (str l)) (some (.int .i64 ((numSz l : Int) + 1))) (some (.int .i64 ((l.length : Int) - 1))) none).run Tryz.prog w = .ok (.string (str ((l.take (l.length - 1)).drop (numSz l + 1)))) w := fun w => by
    have := sl_mid l (numSz l + 1) (l.length - 1) (by omega) (by omega) w
    rwa [show ((numSz l + 1 : Nat) : Int) = (numSz l : Int) + 1 by omega, show ((l.length - 1 : Nat) : Int) = (l.length : Int) - 1 by omega] at this
  have hsz : ((str l).size : Int) = (l.length : Int) := by rw [hlz]
  have hadd : IntKind.i64.wrap ((numSz l : Int) + 1) = (numSz l : Int) + 1 := by rw [IntKind.wrap_i64]; omega
  have hsub : IntKind.i64.wrap ((l.length : Int) - 1) = (l.length : Int) - 1 := by rw [IntKind.wrap_i64]; omega
  have HA := hide (fun (U : World) (b : Below W.heap.size W U) => num_ok U pb s t0 ⟨tk, to, str l⟩ q (str (l.take (numSz l))) (by rw [str_size, List.length_take]; omega) (hP.grownL (trans_v bW b) hpb) (hT.below (trans_v bW b)) (by rw [bytes_str]; exact he))
  rw [bytes_str] at HA
  have HB := hide (fun (U : World) (b : Below W.heap.size W U) => num_ok U pb s t0 ⟨tk, to, str l⟩ q (str ((l.take (l.length - 1)).drop (numSz l + 1))) (by rw [str_size, List.length_drop, List.length_take]; omega) (hP.grownL (trans_v bW b) hpb) (hT.below (trans_v bW b)) (by rw [bytes_str]; exact he2))
  rw [bytes_str] at HB
  have HGU := hide (fun (cd : Int) (U : World) (b : Below W.heap.size W U) => giveUp_k U pb s t0 ⟨tk, to, str l⟩ q cd (hP.grownL (trans_v bW b) hpb) hs)
  have hix : ∀ w : World, (Instr.index 9 (.string (str l)) (.int .i64 (numSz l : Nat))).run Tryz.prog w = .ok (.int .u8 c.toNat) w := fun w => by
    have h := ix_at l (numSz l) (by omega) w
    rw [h]
    rw [List.getElem?_eq_getElem (by omega)] at hc
    rw [Option.some.inj hc]
  have hvr := numV_range ((l.take (l.length - 1)).drop (numSz l + 1))
  have hcc : c = 45 ↔ c.toNat = 45 := ⟨fun h => by rw [h]; rfl, fun h => UInt8.toNat_inj.1 h⟩
  have hct := c.toNat_lt
  simp only [hcc]
  clear e1 e2 hP hT he he2 hlz hc hcc
  generalize str ((l.take (l.length - 1)).drop (numSz l + 1)) = sb at *
  generalize numV ((l.take (l.length - 1)).drop (numSz l + 1)) = zb at *
  generalize numV (l.take (numSz l)) = za at *
  generalize str (l.take (numSz l)) = sa at *
  generalize numSz l = n at *
  generalize str l = sl at *
  generalize c.toNat = cn at *
  by_cases h45 : cn = 45
  · subst h45
    rw [if_pos rfl]
    by_cases h0 : zb = 0
    · subst h0
      rw [if_pos rfl]
      go_enter Tryz.func123, Tryz.ntmps123
      go_wp2_with (go_at_call 114; refine HN.out.mono ?_; clear HN; rintro e w2 ⟨rfl, b2⟩; have e2 := (b2.block w.heap.size (by omega)).trans HE.out.1; have E2 := hide e2; have B2 := hide b2; clear b2 e2 x0 x1 x2)
      have y0 := fun q : Wv w2 => q.cell (cells_at E2.out 0 _ rfl)
      have y1 := fun q : Wv w2 => q.cell (cells_at E2.out 1 _ rfl)
      have y2 := fun q : Wv w2 => q.cell (cells_at E2.out 2 _ rfl)
      have HA2 := hide (fun q : Wv w2 => HA.out q.val (trans_v B2.out q.below))
      have hany := Wv.any w2
      refine wp_region_grown (by kernel_rfl) (by kernel_rfl) ?_
      repeat (go_big_quiet_step ((go_at_call 125; exact Wv.calls _ (HA2.out _))))
      refine wpQuiet_nil ?_
      intro w3 hw'
      obtain ⟨qq, rfl⟩ := hw'
      have E3 := hide ((qq.below.block w.heap.size (by have := B2.out.size; omega)).trans E2.out)
      have B3 := hide (trans_v B2.out qq.below)
      clear y0 y1 y2 HA2 hany HA B2 E2
      generalize qq.val = w3 at *
      go_wp2
      have y0 := fun q : Wv w3 => q.cell (cells_at E3.out 0 _ rfl)
      have y1 := fun q : Wv w3 => q.cell (cells_at E3.out 1 _ rfl)
      have y2 := fun q : Wv w3 => q.cell (cells_at E3.out 2 _ rfl)
      have HB2 := hide (fun q : Wv w3 => HB.out q.val (trans_v B3.out q.below))
      have hany := Wv.any w3
      refine wp_region_grown (by kernel_rfl) (by kernel_rfl) ?_
      repeat (go_big_quiet_step ((go_at_call 125; exact Wv.calls _ (HB2.out _))))
      refine wpQuiet_nil ?_
      intro w4 hw'
      obtain ⟨qr, rfl⟩ := hw'
      have e4 := (qr.below.block w.heap.size (by have := B3.out.size; omega)).trans E3.out
      have B4 := hide (trans_v B3.out qr.below)
      have E4 := hide e4
      have z0 := cells_at e4 0 _ rfl
      have z1 := cells_at e4 1 _ rfl
      have z2 := cells_at e4 2 _ rfl
      clear y0 y1 y2 HB2 hany HB B3 E3 e4
      generalize qr.val = w4 at *
      have f4 := hide ((B4.out.block (w.heap.size + 1) (by omega)).trans HE.out.2)
      have HG4 := hide (fun cd => HGU.out cd w4 B4.out)
      have GAU := hide (fun i m => gauss_k i m w4)
      go_wp2_with (go_at_call 117; refine (HG4.out _).mono ?_; rintro e w5 ⟨rfl, b5⟩; have B5 := hide b5; clear b5)
      exact ⟨rfl, rfl, trans_v bW (trans_v B4.out B5.out)⟩
    · rw [if_neg h0]
      have h0' : (zb == 0) = false := by simpa using h0
      obtain ⟨mm, hneg⟩ : ∃ mm, IntKind.i64.wrap (-zb) = mm := ⟨_, rfl⟩
      have hneg2 : wrap64 (-zb) = mm := by rw [← hneg, IntKind.wrap_i64]; unfold wrap64; omega
      rw [hneg2]
      clear hneg2
      cases hg : gaussB za mm with
      | false =>
        rw [if_neg (by simp)]
        go_enter Tryz.func123, Tryz.ntmps123
        go_wp2_with (go_at_call 114; refine HN.out.mono ?_; clear HN; rintro e w2 ⟨rfl, b2⟩; have e2 := (b2.block w.heap.size (by omega)).trans HE.out.1; have E2 := hide e2; have B2 := hide b2; clear b2 e2 x0 x1 x2)
        have y0 := fun q : Wv w2 => q.cell (cells_at E2.out 0 _ rfl)
        have y1 := fun q : Wv w2 => q.cell (cells_at E2.out 1 _ rfl)
        have y2 := fun q : Wv w2 => q.cell (cells_at E2.out 2 _ rfl)
        have HA2 := hide (fun q : Wv w2 => HA.out q.val (trans_v B2.out q.below))
        have hany := Wv.any w2
        refine wp_region_grown (by kernel_rfl) (by kernel_rfl) ?_
        repeat (go_big_quiet_step ((go_at_call 125; exact Wv.calls _ (HA2.out _))))
        refine wpQuiet_nil ?_
        intro w3 hw'
        obtain ⟨qq, rfl⟩ := hw'
        have E3 := hide ((qq.below.block w.heap.size (by have := B2.out.size; omega)).trans E2.out)
        have B3 := hide (trans_v B2.out qq.below)
        clear y0 y1 y2 HA2 hany HA B2 E2
        generalize qq.val = w3 at *
        go_wp2
        have y0 := fun q : Wv w3 => q.cell (cells_at E3.out 0 _ rfl)
        have y1 := fun q : Wv w3 => q.cell (cells_at E3.out 1 _ rfl)
        have y2 := fun q : Wv w3 => q.cell (cells_at E3.out 2 _ rfl)
        have HB2 := hide (fun q : Wv w3 => HB.out q.val (trans_v B3.out q.below))
        have hany := Wv.any w3
        refine wp_region_grown (by kernel_rfl) (by kernel_rfl) ?_
        repeat (go_big_quiet_step ((go_at_call 125; exact Wv.calls _ (HB2.out _))))
        refine wpQuiet_nil ?_
        intro w4 hw'
        obtain ⟨qr, rfl⟩ := hw'
        have e4 := (qr.below.block w.heap.size (by have := B3.out.size; omega)).trans E3.out
        have B4 := hide (trans_v B3.out qr.below)
        have E4 := hide e4
        have z0 := cells_at e4 0 _ rfl
        have z1 := cells_at e4 1 _ rfl
        have z2 := cells_at e4 2 _ rfl
        clear y0 y1 y2 HB2 hany HB B3 E3 e4
        generalize qr.val = w4 at *
        have f4 := hide ((B4.out.block (w.heap.size + 1) (by omega)).trans HE.out.2)
        have HG4 := hide (fun cd => HGU.out cd w4 B4.out)
        have GAU := hide (fun i m => gauss_k i m w4)
        have hk := GAU.out za mm
        rw [hg] at hk
        have HK : Hid (Calls Tryz.prog 151 #[.int .i64 za, .int .i64 mm] w4 fun e w' => e = .returned (.tuple #[.agg #[.int .i64 0, .int .i64 0, .int .i64 0, .string ⟨#[]⟩, .slice none 0 0], .int .i64 42]) ∧ Below w4.heap.size w4 w') := hide hk
        clear hk
        go_wp2_with (first
          | (go_at_call 151; refine HK.out.mono ?_; clear HK; rintro e w5 ⟨rfl, b5⟩; have b6 : Below w5.heap.size w5 (w5.alloc (.cells #[.int .i64 0, .int .i64 0, .int .i64 0, .string ⟨#[]⟩, .slice none 0 0] 46)) := alloc_v (Below.refl _ _) _; have e5 := ((trans_v b5 b6).block w.heap.size (by have := B4.out.size; omega)).trans E4.out; have z0 := cells_at e5 0 _ rfl; have z1 := cells_at e5 1 _ rfl; have z2 := cells_at e5 2 _ rfl; have HG5 := hide (HGU.out 42 _ (trans_v B4.out (trans_v b5 b6))); have B6 := hide (trans_v b5 b6); clear b5 b6 e5)
          | (go_at_call 117; refine HG5.out.mono ?_; clear HG5; rintro e w7 ⟨rfl, b7⟩; have B7 := hide b7; clear b7))
        exact ⟨rfl, rfl, trans_v bW (trans_v B4.out (trans_v B6.out B7.out))⟩
      | true =>
        rw [if_pos rfl]
        go_enter Tryz.func123, Tryz.ntmps123
        go_wp2_with (go_at_call 114; refine HN.out.mono ?_; clear HN; rintro e w2 ⟨rfl, b2⟩; have e2 := (b2.block w.heap.size (by omega)).trans HE.out.1; have E2 := hide e2; have B2 := hide b2; clear b2 e2 x0 x1 x2)
        have y0 := fun q : Wv w2 => q.cell (cells_at E2.out 0 _ rfl)
        have y1 := fun q : Wv w2 => q.cell (cells_at E2.out 1 _ rfl)
        have y2 := fun q : Wv w2 => q.cell (cells_at E2.out 2 _ rfl)
        have HA2 := hide (fun q : Wv w2 => HA.out q.val (trans_v B2.out q.below))
        have hany := Wv.any w2
        refine wp_region_grown (by kernel_rfl) (by kernel_rfl) ?_
        repeat (go_big_quiet_step ((go_at_call 125; exact Wv.calls _ (HA2.out _))))
        refine wpQuiet_nil ?_
        intro w3 hw'
        obtain ⟨qq, rfl⟩ := hw'
        have E3 := hide ((qq.below.block w.heap.size (by have := B2.out.size; omega)).trans E2.out)
        have B3 := hide (trans_v B2.out qq.below)
        clear y0 y1 y2 HA2 hany HA B2 E2
        generalize qq.val = w3 at *
        go_wp2
        have y0 := fun q : Wv w3 => q.cell (cells_at E3.out 0 _ rfl)
        have y1 := fun q : Wv w3 => q.cell (cells_at E3.out 1 _ rfl)
        have y2 := fun q : Wv w3 => q.cell (cells_at E3.out 2 _ rfl)
        have HB2 := hide (fun q : Wv w3 => HB.out q.val (trans_v B3.out q.below))
        have hany := Wv.any w3
        refine wp_region_grown (by kernel_rfl) (by kernel_rfl) ?_
        repeat (go_big_quiet_step ((go_at_call 125; exact Wv.calls _ (HB2.out _))))
        refine wpQuiet_nil ?_
        intro w4 hw'
        obtain ⟨qr, rfl⟩ := hw'
        have e4 := (qr.below.block w.heap.size (by have := B3.out.size; omega)).trans E3.out
        have B4 := hide (trans_v B3.out qr.below)
        have E4 := hide e4
        have z0 := cells_at e4 0 _ rfl
        have z1 := cells_at e4 1 _ rfl
        have z2 := cells_at e4 2 _ rfl
        clear y0 y1 y2 HB2 hany HB B3 E3 e4
        generalize qr.val = w4 at *
        have f4 := hide ((B4.out.block (w.heap.size + 1) (by omega)).trans HE.out.2)
        have HG4 := hide (fun cd => HGU.out cd w4 B4.out)
        have GAU := hide (fun i m => gauss_k i m w4)
        have hk := GAU.out za mm
        rw [hg] at hk
        have HK : Hid (Calls Tryz.prog 151 #[.int .i64 za, .int .i64 mm] w4 fun e w' => e = .returned (.tuple #[.agg #[.int .i64 3, .int .i64 za, .int .i64 mm, .string ⟨#[]⟩, .slice none 0 0], .int .i64 0]) ∧ Below w4.heap.size w4 w') := hide hk
        clear hk
        go_wp2_with (go_at_call 151; refine HK.out.mono ?_; clear HK; rintro e w5 ⟨rfl, b5⟩; have f5 := (b5.block _ (by have := B4.out.size; omega)).trans f4.out; obtain ⟨w6, hw6⟩ : ∃ w6, w5.alloc (.cells #[.int .i64 3, .int .i64 za, .int .i64 mm, .string ⟨#[]⟩, .slice none 0 0] 46) = w6 := ⟨_, rfl⟩; have b6 : Below w5.heap.size w5 w6 := (by rw [← hw6]; exact alloc_v (Below.refl _ _) _); have e6 : w6.heap[w5.heap.size]? = some (.cells #[.int .i64 3, .int .i64 za, .int .i64 mm, .string ⟨#[]⟩, .slice none 0 0] 46 (0, 0)) := (by rw [← hw6]; exact World.alloc_heap_new w5 _); have q0 := cells_at e6 0 _ rfl; have q1 := cells_at e6 1 _ rfl; have q2 := cells_at e6 2 _ rfl; have q3 := cells_at e6 3 _ rfl; have q4 := cells_at e6 4 _ rfl; have qz3 := frozen_at e6 3; have qz4 := frozen_at e6 4; have hz3 : w6.setCell ⟨w5.heap.size, 3, none⟩ (.string ⟨#[]⟩) = w6 := setCell_selfV q3; have hz4 : w6.setCell ⟨w5.heap.size, 4, none⟩ (.slice none 0 0) = w6 := setCell_selfV q4; have f6 := (b6.block (w.heap.size + 1) (by have := B4.out.size; have := b5.size; omega)).trans f5; have r0 := cells_at f6 0 _ rfl; have rz0 := frozen_at f6 0; have r1 := cells_at f6 1 _ rfl; have rz1 := frozen_at f6 1; have r2 := cells_at f6 2 _ rfl; have rz2 := frozen_at f6 2; have r3 := cells_at f6 3 _ rfl; have rz3 := frozen_at f6 3; have r4 := cells_at f6 4 _ rfl; have rz4 := frozen_at f6 4; have ne : w5.heap.size ≠ w.heap.size + 1 := (by have := b5.size; have := B4.out.size; omega); have F6 := hide f6; have B6 := hide (trans_v b5 b6); clear b5 b6 f5 f6 e6)
        have G := stored w w6 3 za mm ⟨#[]⟩ (.slice none 0 0) zcells (w.heap.size + 1) (by omega) (trans_v bW (trans_v B4.out B6.out)) rfl F6.out
        refine bodyPost_ret (results_cell_row rfl _ _ (w.heap.size + 1) _ _ _ _ rfl G.1 Tryz.underlying46 rfl infoVal5) rfl ?_
        exact ⟨rfl, G.2⟩
  · rw [if_neg h45]
    have h45' : ((cn : Int) == 45) = false := by simp; omega
    cases hg : gaussB za zb with
    | false =>
      rw [if_neg (by simp)]
      go_enter Tryz.func123, Tryz.ntmps123
      go_wp2_with (go_at_call 114; refine HN.out.mono ?_; clear HN; rintro e w2 ⟨rfl, b2⟩; have e2 := (b2.block w.heap.size (by omega)).trans HE.out.1; have E2 := hide e2; have B2 := hide b2; clear b2 e2 x0 x1 x2)
      have y0 := fun q : Wv w2 => q.cell (cells_at E2.out 0 _ rfl)
      have y1 := fun q : Wv w2 => q.cell (cells_at E2.out 1 _ rfl)
      have y2 := fun q : Wv w2 => q.cell (cells_at E2.out 2 _ rfl)
      have HA2 := hide (fun q : Wv w2 => HA.out q.val (trans_v B2.out q.below))
      have hany := Wv.any w2
      refine wp_region_grown (by kernel_rfl) (by kernel_rfl) ?_
      repeat (go_big_quiet_step ((go_at_call 125; exact Wv.calls _ (HA2.out _))))
      refine wpQuiet_nil ?_
      intro w3 hw'
      obtain ⟨qq, rfl⟩ := hw'
      have E3 := hide ((qq.below.block w.heap.size (by have := B2.out.size; omega)).trans E2.out)
      have B3 := hide (trans_v B2.out qq.below)
      clear y0 y1 y2 HA2 hany HA B2 E2
      generalize qq.val = w3 at *
      go_wp2
      have y0 := fun q : Wv w3 => q.cell (cells_at E3.out 0 _ rfl)
      have y1 := fun q : Wv w3 => q.cell (cells_at E3.out 1 _ rfl)
      have y2 := fun q : Wv w3 => q.cell (cells_at E3.out 2 _ rfl)
      have HB2 := hide (fun q : Wv w3 => HB.out q.val (trans_v B3.out q.below))
      have hany := Wv.any w3
      refine wp_region_grown (by kernel_rfl) (by kernel_rfl) ?_
      repeat (go_big_quiet_step ((go_at_call 125; exact Wv.calls _ (HB2.out _))))
      refine wpQuiet_nil ?_
      intro w4 hw'
      obtain ⟨qr, rfl⟩ := hw'
      have e4 := (qr.below.block w.heap.size (by have := B3.out.size; omega)).trans E3.out
      have B4 := hide (trans_v B3.out qr.below)
      have E4 := hide e4
      have z0 := cells_at e4 0 _ rfl
      have z1 := cells_at e4 1 _ rfl
      have z2 := cells_at e4 2 _ rfl
      clear y0 y1 y2 HB2 hany HB B3 E3 e4
      generalize qr.val = w4 at *
      have f4 := hide ((B4.out.block (w.heap.size + 1) (by omega)).trans HE.out.2)
      have HG4 := hide (fun cd => HGU.out cd w4 B4.out)
      have GAU := hide (fun i m => gauss_k i m w4)
      have hk := GAU.out za zb
      rw [hg] at hk
      have HK : Hid (Calls Tryz.prog 151 #[.int .i64 za, .int .i64 zb] w4 fun e w' => e = .returned (.tuple #[.agg #[.int .i64 0, .int .i64 0, .int .i64 0, .string ⟨#[]⟩, .slice none 0 0], .int .i64 42]) ∧ Below w4.heap.size w4 w') := hide hk
      clear hk
      go_wp2_with (first
        | (go_at_call 151; refine HK.out.mono ?_; clear HK; rintro e w5 ⟨rfl, b5⟩; have b6 : Below w5.heap.size w5 (w5.alloc (.cells #[.int .i64 0, .int .i64 0, .int .i64 0, .string ⟨#[]⟩, .slice none 0 0] 46)) := alloc_v (Below.refl _ _) _; have e5 := ((trans_v b5 b6).block w.heap.size (by have := B4.out.size; omega)).trans E4.out; have z0 := cells_at e5 0 _ rfl; have z1 := cells_at e5 1 _ rfl; have z2 := cells_at e5 2 _ rfl; have HG5 := hide (HGU.out 42 _ (trans_v B4.out (trans_v b5 b6))); have B6 := hide (trans_v b5 b6); clear b5 b6 e5)
        | (go_at_call 117; refine HG5.out.mono ?_; clear HG5; rintro e w7 ⟨rfl, b7⟩; have B7 := hide b7; clear b7))
      exact ⟨rfl, rfl, trans_v bW (trans_v B4.out (trans_v B6.out B7.out))⟩
    | true =>
      rw [if_pos rfl]
      go_enter Tryz.func123, Tryz.ntmps123
      go_wp2_with (go_at_call 114; refine HN.out.mono ?_; clear HN; rintro e w2 ⟨rfl, b2⟩; have e2 := (b2.block w.heap.size (by omega)).trans HE.out.1; have E2 := hide e2; have B2 := hide b2; clear b2 e2 x0 x1 x2)
      have y0 := fun q : Wv w2 => q.cell (cells_at E2.out 0 _ rfl)
      have y1 := fun q : Wv w2 => q.cell (cells_at E2.out 1 _ rfl)
      have y2 := fun q : Wv w2 => q.cell (cells_at E2.out 2 _ rfl)
      have HA2 := hide (fun q : Wv w2 => HA.out q.val (trans_v B2.out q.below))
      have hany := Wv.any w2
      refine wp_region_grown (by kernel_rfl) (by kernel_rfl) ?_
      repeat (go_big_quiet_step ((go_at_call 125; exact Wv.calls _ (HA2.out _))))
      refine wpQuiet_nil ?_
      intro w3 hw'
      obtain ⟨qq, rfl⟩ := hw'
      have E3 := hide ((qq.below.block w.heap.size (by have := B2.out.size; omega)).trans E2.out)
      have B3 := hide (trans_v B2.out qq.below)
      clear y0 y1 y2 HA2 hany HA B2 E2
      generalize qq.val = w3 at *
      go_wp2
      have y0 := fun q : Wv w3 => q.cell (cells_at E3.out 0 _ rfl)
      have y1 := fun q : Wv w3 => q.cell (cells_at E3.out 1 _ rfl)
      have y2 := fun q : Wv w3 => q.cell (cells_at E3.out 2 _ rfl)
      have HB2 := hide (fun q : Wv w3 => HB.out q.val (trans_v B3.out q.below))
      have hany := Wv.any w3
      refine wp_region_grown (by kernel_rfl) (by kernel_rfl) ?_
      repeat (go_big_quiet_step ((go_at_call 125; exact Wv.calls _ (HB2.out _))))
      refine wpQuiet_nil ?_
      intro w4 hw'
      obtain ⟨qr, rfl⟩ := hw'
      have e4 := (qr.below.block w.heap.size (by have := B3.out.size; omega)).trans E3.out
      have B4 := hide (trans_v B3.out qr.below)
      have E4 := hide e4
      have z0 := cells_at e4 0 _ rfl
      have z1 := cells_at e4 1 _ rfl
      have z2 := cells_at e4 2 _ rfl
      clear y0 y1 y2 HB2 hany HB B3 E3 e4
      generalize qr.val = w4 at *
      have f4 := hide ((B4.out.block (w.heap.size + 1) (by omega)).trans HE.out.2)
      have HG4 := hide (fun cd => HGU.out cd w4 B4.out)
      have GAU := hide (fun i m => gauss_k i m w4)
      have hk := GAU.out za zb
      rw [hg] at hk
      have HK : Hid (Calls Tryz.prog 151 #[.int .i64 za, .int .i64 zb] w4 fun e w' => e = .returned (.tuple #[.agg #[.int .i64 3, .int .i64 za, .int .i64 zb, .string ⟨#[]⟩, .slice none 0 0], .int .i64 0]) ∧ Below w4.heap.size w4 w') := hide hk
      clear hk
      go_wp2_with (go_at_call 151; refine HK.out.mono ?_; clear HK; rintro e w5 ⟨rfl, b5⟩; have f5 := (b5.block _ (by have := B4.out.size; omega)).trans f4.out; obtain ⟨w6, hw6⟩ : ∃ w6, w5.alloc (.cells #[.int .i64 3, .int .i64 za, .int .i64 zb, .string ⟨#[]⟩, .slice none 0 0] 46) = w6 := ⟨_, rfl⟩; have b6 : Below w5.heap.size w5 w6 := (by rw [← hw6]; exact alloc_v (Below.refl _ _) _); have e6 : w6.heap[w5.heap.size]? = some (.cells #[.int .i64 3, .int .i64 za, .int .i64 zb, .string ⟨#[]⟩, .slice none 0 0] 46 (0, 0)) := (by rw [← hw6]; exact World.alloc_heap_new w5 _); have q0 := cells_at e6 0 _ rfl; have q1 := cells_at e6 1 _ rfl; have q2 := cells_at e6 2 _ rfl; have q3 := cells_at e6 3 _ rfl; have q4 := cells_at e6 4 _ rfl; have qz3 := frozen_at e6 3; have qz4 := frozen_at e6 4; have hz3 : w6.setCell ⟨w5.heap.size, 3, none⟩ (.string ⟨#[]⟩) = w6 := setCell_selfV q3; have hz4 : w6.setCell ⟨w5.heap.size, 4, none⟩ (.slice none 0 0) = w6 := setCell_selfV q4; have f6 := (b6.block (w.heap.size + 1) (by have := B4.out.size; have := b5.size; omega)).trans f5; have r0 := cells_at f6 0 _ rfl; have rz0 := frozen_at f6 0; have r1 := cells_at f6 1 _ rfl; have rz1 := frozen_at f6 1; have r2 := cells_at f6 2 _ rfl; have rz2 := frozen_at f6 2; have r3 := cells_at f6 3 _ rfl; have rz3 := frozen_at f6 3; have r4 := cells_at f6 4 _ rfl; have rz4 := frozen_at f6 4; have ne : w5.heap.size ≠ w.heap.size + 1 := (by have := b5.size; have := B4.out.size; omega); have F6 := hide f6; have B6 := hide (trans_v b5 b6); clear b5 b6 f5 f6 e6)
      have G := stored w w6 3 za zb ⟨#[]⟩ (.slice none 0 0) zcells (w.heap.size + 1) (by omega) (trans_v bW (trans_v B4.out B6.out)) rfl F6.out
      refine bodyPost_ret (results_cell_row rfl _ _ (w.heap.size + 1) _ _ _ _ rfl G.1 Tryz.underlying46 rfl infoVal5) rfl ?_
      exact ⟨rfl, G.2⟩
theorem gauss_k2 (w : World) (pb : Nat) (s : List UInt8) (t0 t : Tk) (q : Nat) (hP : ParAt w pb s t0 q) (hs : s.length ≤ 1048576) (hT : Tabs w) (hx : t.text.size ≤ 1048576) (hr : numSz t.text.data.toList + 2 ≤ t.text.data.toList.length) :
    Calls Tryz.prog 123 #[.pointer (some ⟨pb, 0, none⟩), .agg (tcells t)] w fun e w' => (match gaussM t with | .ok v => e = .returned (.agg (vcells v (.slice none 0 0))) | .error (c, o) => e = gaveIn s c o) ∧ Below w.heap.size w w' := by
  obtain ⟨tk, to, tt⟩ := t
  simp only at *
  obtain ⟨l, rfl⟩ : ∃ l, tt = str l := ⟨tt.data.toList, (str_bytes tt).symm⟩
  rw [bytes_str] at hr
  rw [str_size] at hx
  obtain ⟨c, hc⟩ : ∃ c, l[numSz l]? = some c := ⟨_, List.getElem?_eq_getElem (by omega)⟩
  rw [gaussM_eq tk to l (numSz l) rfl c hc]
  by_cases h1 : numE (l.take (numSz l)) = 0
  · rw [if_neg (by simpa using h1)]
    by_cases h2 : numE ((l.take (l.length - 1)).drop (numSz l + 1)) = 0
    · rw [if_neg (by simpa using h2)]
      exact gauss_go w pb s t0 q tk to l hP hs hT hx hr h1 h2 c hc
    · rw [if_pos (by simpa using h2)]
      exact gauss_no2 w pb s t0 q tk to l hP hs hT hx hr h1 h2
  · rw [if_pos (by simpa using h1)]
    exact gauss_no1 w pb s t0 q tk to l hP hs hT hx hr h1
end Go.Proofs.YthmhcpghfbifiaaGreatDoor

/- The parser's rows of items, success and failure in one. -/
namespace Go.Proofs.YthmhcpghfbifiaaGreatDoor
open Go.RowKit

/-- What a way down comes to. -/
def PvR (w : World) (pb : Nat) (s : List UInt8) (n : Nat) (T : Except (Int × Nat) (Vl × Tk × Nat)) (e : Ending) (w' : World) : Prop := match T with
  | .ok (v, t', q') => ∃ s', e = .returned (.agg (vcells v s')) ∧ ItemsIn w' (fun b => w.heap.size ≤ b ∧ b < w'.heap.size) n s' v.items ∧ ParAt w' pb s t' q' ∧ w.grownBy w' (some pb)
  | .error (c, o) => e = gaveIn s c o ∧ w.grownBy w' (some pb)
/-- What a row of items comes to. -/
def PlR (w : World) (pb : Nat) (s : List UInt8) (n : Nat) (T : Except (Int × Nat) (List Vl × Tk × Nat)) (e : Ending) (w' : World) : Prop := match T with
  | .ok (l, t', q') => ∃ o, e = .returned o ∧ OwnAt w' w.heap.size n o l ∧ ParAt w' pb s t' q' ∧ w.grownBy w' (some pb)
  | .error (c, o) => e = gaveIn s c o ∧ w.grownBy w' (some pb)
/-- The parser's value, with so many levels still. -/
def ValC (s : List UInt8) (n : Nat) : Prop := ∀ (w : World) (pb : Nat) (t : Tk) (q : Nat) (deep : Int), ParAt w pb s t q → AtTok s t → Tabs w → q ≤ 4096 → deep + (n : Int) = 17 → 1 ≤ deep → (pb ≠ 2 ∧ pb ≠ 0) →
  Calls Tryz.prog 91 #[.pointer (some ⟨pb, 0, none⟩), .int .i64 deep] w fun e w' => PvR w pb s n (valM s n t q) e w'
def MoreC (s : List UInt8) (n : Nat) : Prop := ∀ (w0 w : World) (pb : Nat) (t : Tk) (q : Nat) (deep : Int) (c : Int) (its : List Vl) (o : Value) (f : Nat), w0.grownBy w (some pb) → pb < w0.heap.size → ParAt w pb s t q → AtTok s t → Tabs w0 → q ≤ 4096 → 4097 ≤ f + q → OwnAt w w0.heap.size n o its → its.length ≤ q → deep + (n : Int) = 16 → 1 ≤ deep → (pb ≠ 2 ∧ pb ≠ 0) →
  Calls Tryz.prog 144 #[.pointer (some ⟨pb, 0, none⟩), o, .int .i32 c, .int .i64 deep] w fun e w' => PlR w0 pb s n (moreM s (valM s n) c f its t q) e w'
theorem OwnAt.one {W : World} {L n : Nat} {x : Vl} {s : Value} (hL : L ≤ W.heap.size) (hx : ItemsIn W (fun b => L ≤ b ∧ b < W.heap.size) n s x.items) (ht : x.ok) :
    OwnAt (W.alloc (.cells #[.int .i64 x.kind, .int .i64 x.int, .int .i64 x.im, .string x.text, s] 46)) L n (.slice (some ⟨W.heap.size, 0, none⟩) 1 1) [x] := by
  have bA : Below W.heap.size W (W.alloc (.cells #[.int .i64 x.kind, .int .i64 x.int, .int .i64 x.im, .string x.text, s] 46)) := alloc_v (Below.refl _ _) _
  refine ⟨[s], rfl, ⟨rfl, .inr ⟨W.heap.size, 1, _, rfl, hL, World.alloc_heap_new W _, Nat.le_refl _, by unfold maxLen; omega, rfl, rfl⟩⟩, fun j hj => ?_⟩
  obtain rfl : j = 0 := by simpa using hj
  exact ⟨hx.kept (fun b o hb => (bcellV bA).1 b o hb.2) (fun b hb => ⟨hb.1, by rw [World.size_alloc]; have := hb.2; omega, by simp only [Value.ownBlock, ne_eq, Option.some.injEq]; have := hb.2; omega⟩), ht⟩
set_option maxRecDepth 100000 in
set_option maxHeartbeats 4000000 in
theorem more_step {s : List UInt8} (hs : s.length ≤ 1048576) {n : Nat} (hC : ValC s n) : MoreC s n := by
  intro w0 w pb t q deep c its o f hg0 hpb0 hP hat hT hq hf hO hl hd hd1 ho
  have hpb := hP.lt
  have hTT := hide (fun (U : World) (g : w0.grownBy U (some pb)) => hT.grown g ho.1.symm ho.2.symm)
  have hadd : IntKind.i64.wrap (deep + 1) = deep + 1 := by rw [IntKind.wrap_i64]; omega
  have HO := hide ho
  have HC := hide hC
  have HF := hide (valM_fit s hs n)
  obtain ⟨T0, hT0⟩ : ∃ T0, moreM s (valM s n) c f its t q = T0 := ⟨_, rfl⟩
  rw [hT0]
  have HI := hide (And.intro hP (And.intro hat (And.intro hT0 (And.intro hO (And.intro hg0 (And.intro hf hl))))))
  obtain ⟨oa, oc, rfl⟩ := hO.len
  clear hP hT ho hC hT0 hO hat hg0 hf hl
  go_enter Tryz.func144, Tryz.ntmps144
  go_wp2
  go_loopw [1] (fun o wr => ∃ (xs : List Vl) (m k : Nat) (t' : Tk), moreM s (valM s n) c m xs t' k = T0 ∧ 4097 ≤ m + k ∧ k ≤ 4096 ∧ xs.length ≤ k ∧ AtTok s t' ∧ ParAt wr pb s t' k ∧ OwnAt wr w0.heap.size n o xs ∧ w0.grownBy wr (some pb)) (fun _ wr => 4097 - partsOf wr pb)
  case atStart => exact ⟨its, f, q, t, HI.out.2.2.1, HI.out.2.2.2.2.2.1, hq, HI.out.2.2.2.2.2.2, HI.out.2.1, HI.out.1, HI.out.2.2.2.1, HI.out.2.2.2.2.1⟩
  case round =>
    clear HI
    obtain ⟨xs, m, k, t', hm, hmk, hk, hxl, hat, hP, hO, hg⟩ := hrel
    have hpo := partsOf_is hP
    obtain ⟨m, rfl⟩ : ∃ m', m = m' + 1 := ⟨m - 1, by omega⟩
    simp only [moreM] at hm
    have HV := hide (HC.out wr pb t' k (deep + 1) hP hat (hTT.out wr hg) hk (by omega) (by omega) HO.out)
    have hxl' : xs.length + 1 ≤ 1000000000 := by omega
    have hzw : w0.heap.size ≤ wr.heap.size := hg.size
    obtain ⟨va0, vc0, rfl⟩ := hO.len
    cases ev : valM s n t' k with
    | error z =>
      obtain ⟨zc, zo⟩ := z
      rw [ev] at hm HV
      simp only at hm
      subst hm
      have HV2 : Hid (Calls Tryz.prog 91 #[.pointer (some ⟨pb, 0, none⟩), .int .i64 (deep + 1)] wr fun e w' => e = gaveIn s zc zo ∧ wr.grownBy w' (some pb)) := HV
      have HG := hide hg
      clear HV hP hO hg hat hpo ev
      go_wp2_with (go_at_call 91; refine HV2.out.mono ?_; clear HV2; rintro e w4 ⟨rfl, g4⟩; have G4 := hide g4; clear g4)
      exact ⟨rfl, rfl, grown_more HG.out G4.out⟩
    | ok z =>
    obtain ⟨x, t1, q1⟩ := z
    rw [ev] at hm HV
    simp only at hm
    have hfit := HF.out t' k x t1 q1 hat hk ev
    have HV2 : Hid (Calls Tryz.prog 91 #[.pointer (some ⟨pb, 0, none⟩), .int .i64 (deep + 1)] wr fun e w' => ∃ s', e = .returned (.agg (vcells x s')) ∧ ItemsIn w' (fun b => wr.heap.size ≤ b ∧ b < w'.heap.size) n s' x.items ∧ ParAt w' pb s t1 q1 ∧ wr.grownBy w' (some pb)) := HV
    have HP := hide (fun (U : World) (sv : Value) (g : wr.grownBy U (some pb)) (i : ItemsIn U (fun b => wr.heap.size ≤ b ∧ b < U.heap.size) n sv x.items) =>
      OwnAt.pushX (ty := 44) (s := sv) (x := x) (hO.far g.size (fun k h1 h2 => g.block k h2 (by simp; omega))) (by have := g.size; omega) (i.kept (fun _ _ _ => rfl) (fun b hb => ⟨by omega, hb.2, fun eq => by have := (hO.lt eq.symm).2; omega⟩)) hfit.2.2.2.1 hxl')
    have HG := hide hg
    have HA := hide (And.intro hat (And.intro hpo (And.intro hfit (And.intro hmk hxl))))
    clear HV hP hO hg hat hpo hxl hxl' hfit ev hmk
    by_cases hcl : t1.kind = c
    · rw [if_pos hcl] at hm
      subst hm
      have HCL := hide hcl
      clear hcl
      go_wp2_with (first
        | (go_at_call 91; refine HV2.out.mono ?_; clear HV2; rintro e w4 ⟨s4, rfl, i4, p4, g4⟩; obtain ⟨sa4, sc4, rfl, _⟩ := i4.len; obtain ⟨v5, w5, hrun, o5, b5⟩ := HP.out w4 _ g4 i4; obtain ⟨va, vc, rfl⟩ := o5.len; have hz4 := g4.size; have p5 := p4.grownL b5 hpb0; have g5 := grown_L (grown_more HG.out g4) b5 (Nat.le_refl _) (by omega); have HK := hide (skip_yes w5 pb s _ _ p5 hs HA.out.2.2.1.1.room (hTT.out w5 g5) c HCL.out); have HRN := hide hrun; have O5 := hide o5; have G5 := hide g5; have HZ5 := hide (show w0.heap.size ≤ w5.heap.size from g5.size); clear hrun o5 b5 i4 p4 g4 p5 g5 HP)
        | (at_builtin; refine Lib.wpList_append_run _ rfl (.tmp 9) (.tmp 14) 44 44 rfl _ _ rfl rfl _ _ HRN.out ?_)
        | (go_at_call 126; refine HK.out.mono ?_; clear HK; rintro e w6 ⟨rfl, p6, g6⟩; have P6 := hide p6; have G6 := hide g6; clear p6 g6))
      go_ret
      refine ⟨_, rfl, ?_, P6.out, grown_more G5.out G6.out⟩
      have o6 := O5.out.far G6.out.size (fun k h1 h2 => G6.out.block k h2 (by simp; omega))
      rw [show (xs ++ [x]).length = xs.length + 1 by simp] at o6
      exact o6
    · rw [if_neg hcl] at hm
      by_cases hcm : t1.kind = 44
      · rw [if_pos hcm] at hm
        have HCL := hide (And.intro hcl hcm)
        have HM := hide hm
        clear hcl hcm hm
        go_wp2_with (first
          | (go_at_call 91; refine HV2.out.mono ?_; clear HV2; rintro e w4 ⟨s4, rfl, i4, p4, g4⟩; obtain ⟨sa4, sc4, rfl, _⟩ := i4.len; obtain ⟨v5, w5, hrun, o5, b5⟩ := HP.out w4 _ g4 i4; obtain ⟨va, vc, rfl⟩ := o5.len; have hz4 := g4.size; have p5 := p4.grownL b5 hpb0; have g5 := grown_L (grown_more HG.out g4) b5 (Nat.le_refl _) (by omega); have HK := hide (skip_no w5 pb s _ _ p5 c HCL.out.1); have HX := hide (expect_yes w5 pb s _ _ p5 hs HA.out.2.2.1.1.room (hTT.out w5 g5) 44 HCL.out.2); have HRN := hide hrun; have O5 := hide o5; have G5 := hide g5; have HZ5 := hide (show w0.heap.size ≤ w5.heap.size from g5.size); clear hrun o5 b5 i4 p4 g4 p5 g5 HP)
          | (at_builtin; refine Lib.wpList_append_run _ rfl (.tmp 9) (.tmp 14) 44 44 rfl _ _ rfl rfl _ _ HRN.out ?_)
          | (go_at_call 126; refine HK.out.mono ?_; clear HK; rintro e w6 ⟨rfl, rfl⟩)
          | (go_at_call 92; refine HX.out.mono ?_; clear HX; rintro e w7 ⟨rfl, p7, g7⟩; have P7 := hide p7; have G7 := hide g7; clear p7 g7))
        go_roundw
        case rel =>
          have ha := HA.out
          have hf1 := ha.2.2.1.2.1
          have hf2 := ha.2.2.1.2.2.1
          have ha4 := ha.2.2.2.1
          have ha5 := ha.2.2.2.2
          refine ⟨xs ++ [x], m, q1, stepM s t1, HM.out, by omega, hf2, by rw [List.length_append]; simp; omega, ha.2.2.1.1.step, P7.out, ?_, grown_more G5.out G7.out⟩
          have o7 := O5.out.far G7.out.size (fun k h1 h2 => G7.out.block k h2 (by simp; omega))
          rw [show (xs ++ [x]).length = xs.length + 1 by simp] at o7
          exact o7
        case measure =>
          have h7 := partsOf_is P7.out
          have ha := HA.out
          have hf1 := ha.2.2.1.2.1
          have hf2 := ha.2.2.1.2.2.1
          rw [h7, ha.2.1]
          omega
      · rw [if_neg hcm] at hm
        subst hm
        have HCL := hide (And.intro hcl hcm)
        clear hcl hcm
        go_wp2_with (first
          | (go_at_call 91; refine HV2.out.mono ?_; clear HV2; rintro e w4 ⟨s4, rfl, i4, p4, g4⟩; obtain ⟨sa4, sc4, rfl, _⟩ := i4.len; obtain ⟨v5, w5, hrun, o5, b5⟩ := HP.out w4 _ g4 i4; obtain ⟨va, vc, rfl⟩ := o5.len; have hz4 := g4.size; have p5 := p4.grownL b5 hpb0; have g5 := grown_L (grown_more HG.out g4) b5 (Nat.le_refl _) (by omega); have HK := hide (skip_no w5 pb s _ _ p5 c HCL.out.1); have HX := hide (expect_no w5 pb s _ _ p5 hs 44 HCL.out.2); have HRN := hide hrun; have O5 := hide o5; have G5 := hide g5; have HZ5 := hide (show w0.heap.size ≤ w5.heap.size from g5.size); clear hrun o5 b5 i4 p4 g4 p5 g5 HP)
          | (at_builtin; refine Lib.wpList_append_run _ rfl (.tmp 9) (.tmp 14) 44 44 rfl _ _ rfl rfl _ _ HRN.out ?_)
          | (go_at_call 126; refine HK.out.mono ?_; clear HK; rintro e w6 ⟨rfl, rfl⟩)
          | (go_at_call 92; refine HX.out.mono ?_; clear HX; rintro e w7 ⟨rfl, b7⟩; have B7 := hide b7; clear b7))
        exact ⟨rfl, rfl, grown_more G5.out (grown_of_below B7.out)⟩
def ItemsC (s : List UInt8) (n : Nat) : Prop := ∀ (w : World) (pb : Nat) (t : Tk) (q : Nat) (deep : Int) (c : Int), ParAt w pb s t q → AtTok s t → Tabs w → q ≤ 4096 → deep + (n : Int) = 16 → 1 ≤ deep → (pb ≠ 2 ∧ pb ≠ 0) →
  Calls Tryz.prog 120 #[.pointer (some ⟨pb, 0, none⟩), .int .i32 c, .int .i64 deep] w fun e w' => PlR w pb s n (itemsM s (valM s n) c t q) e w'
def TupC (s : List UInt8) (n : Nat) : Prop := ∀ (w : World) (pb : Nat) (t : Tk) (q : Nat) (deep : Int), ParAt w pb s t q → AtTok s t → Tabs w → q ≤ 4096 → deep + (n : Int) = 16 → 1 ≤ deep → (pb ≠ 2 ∧ pb ≠ 0) →
  Calls Tryz.prog 119 #[.pointer (some ⟨pb, 0, none⟩), .int .i64 deep] w fun e w' => PlR w pb s n (tupleM s (valM s n) t q) e w'
set_option maxRecDepth 100000 in
set_option maxHeartbeats 4000000 in
theorem items_step {s : List UInt8} (hs : s.length ≤ 1048576) {n : Nat} (hM : MoreC s n) : ItemsC s n := by
  intro w pb t q deep c hP hat hT hq hd hd1 ho
  have hpb := hP.lt
  unfold itemsM
  by_cases hk : t.kind = c
  · rw [if_pos hk]
    have HK := hide (skip_yes w pb s t q hP hs hat.room hT c hk)
    clear hP hT hk hat hM
    go_enter Tryz.func120, Tryz.ntmps120
    go_wp2_with (go_at_call 126; refine HK.out.mono ?_; clear HK; rintro e w6 ⟨rfl, p6, g6⟩; have P6 := hide p6; have G6 := hide g6; clear p6 g6)
    go_ret
    exact ⟨_, rfl, OwnAt.nil _ _ _, P6.out, G6.out⟩
  · rw [if_neg hk]
    have HK := hide (skip_no w pb s t q hP c hk)
    have HMO := hide (hM w w pb t q deep c [] (.slice none 0 0) (4097 - q) (grown_self _ _) hpb hP hat hT hq (by omega) (OwnAt.nil _ _ _) (Nat.zero_le _) hd hd1 ho)
    cases e : moreM s (valM s n) c (4097 - q) [] t q with
    | error z =>
      obtain ⟨zc, zo⟩ := z
      rw [e] at HMO
      have HM2 : Hid (Calls Tryz.prog 144 #[.pointer (some ⟨pb, 0, none⟩), .slice none 0 0, .int .i32 c, .int .i64 deep] w fun e w' => e = gaveIn s zc zo ∧ w.grownBy w' (some pb)) := HMO
      clear hP hT hk hat hM HMO e
      go_enter Tryz.func120, Tryz.ntmps120
      go_wp2_with (first
        | (go_at_call 126; refine HK.out.mono ?_; clear HK; rintro e w6 ⟨rfl, rfl⟩)
        | (go_at_call 144; refine HM2.out.mono ?_; clear HM2; rintro e w7 ⟨rfl, g7⟩; have G7 := hide g7; clear g7))
      exact ⟨rfl, rfl, G7.out⟩
    | ok z =>
      obtain ⟨l, t1, q1⟩ := z
      rw [e] at HMO
      have HM2 : Hid (Calls Tryz.prog 144 #[.pointer (some ⟨pb, 0, none⟩), .slice none 0 0, .int .i32 c, .int .i64 deep] w fun e w' => ∃ o, e = .returned o ∧ OwnAt w' w.heap.size n o l ∧ ParAt w' pb s t1 q1 ∧ w.grownBy w' (some pb)) := HMO
      clear hP hT hk hat hM HMO e
      go_enter Tryz.func120, Tryz.ntmps120
      go_wp2_with (first
        | (go_at_call 126; refine HK.out.mono ?_; clear HK; rintro e w6 ⟨rfl, rfl⟩)
        | (go_at_call 144; refine HM2.out.mono ?_; clear HM2; rintro e w7 ⟨o7, rfl, o7', p7, g7⟩; obtain ⟨va, vc, rfl⟩ := o7'.len; have R7 := hide (And.intro o7' (And.intro p7 g7)); clear o7' p7 g7))
      go_ret
      exact ⟨_, rfl, R7.out.1, R7.out.2.1, R7.out.2.2⟩
set_option maxRecDepth 100000 in
set_option maxHeartbeats 4000000 in
theorem tup_step {s : List UInt8} (hs : s.length ≤ 1048576) {n : Nat} (hC : ValC s n) (hM : MoreC s n) : TupC s n := by
  intro w pb t q deep hP hat hT hq hd hd1 ho
  have hpb := hP.lt
  have hadd : IntKind.i64.wrap (deep + 1) = deep + 1 := by rw [IntKind.wrap_i64]; omega
  have HTT := hide (fun (U : World) (g : w.grownBy U (some pb)) => hT.grown g ho.1.symm ho.2.symm)
  unfold tupleM
  by_cases hk : t.kind = 41
  · rw [if_pos hk]
    have HK := hide (skip_yes w pb s t q hP hs hat.room hT 41 hk)
    clear hP hT hk hat hM hC HTT
    go_enter Tryz.func119, Tryz.ntmps119
    go_wp2_with (go_at_call 126; refine HK.out.mono ?_; clear HK; rintro e w6 ⟨rfl, p6, g6⟩; have P6 := hide p6; have G6 := hide g6; clear p6 g6)
    go_ret
    exact ⟨_, rfl, OwnAt.nil _ _ _, P6.out, G6.out⟩
  rw [if_neg hk]
  have HK := hide (skip_no w pb s t q hP 41 hk)
  have HV := hide (hC w pb t q (deep + 1) hP hat hT hq (by omega) (by omega) ho)
  cases ev : valM s n t q with
  | error z =>
    obtain ⟨zc, zo⟩ := z
    rw [ev] at HV
    have HV2 : Hid (Calls Tryz.prog 91 #[.pointer (some ⟨pb, 0, none⟩), .int .i64 (deep + 1)] w fun e w' => e = gaveIn s zc zo ∧ w.grownBy w' (some pb)) := HV
    clear hP hT hk hat hM hC HTT HV ev
    go_enter Tryz.func119, Tryz.ntmps119
    go_wp2_with (first
      | (go_at_call 126; refine HK.out.mono ?_; clear HK; rintro e w6 ⟨rfl, rfl⟩)
      | (go_at_call 91; refine HV2.out.mono ?_; clear HV2; rintro e w4 ⟨rfl, g4⟩; have G4 := hide g4; clear g4))
    exact ⟨rfl, rfl, G4.out⟩
  | ok z =>
  obtain ⟨x, t1, q1⟩ := z
  rw [ev] at HV
  have hfit := valM_fit s hs n t q x t1 q1 hat hq ev
  have HV2 : Hid (Calls Tryz.prog 91 #[.pointer (some ⟨pb, 0, none⟩), .int .i64 (deep + 1)] w fun e w' => ∃ s', e = .returned (.agg (vcells x s')) ∧ ItemsIn w' (fun b => w.heap.size ≤ b ∧ b < w'.heap.size) n s' x.items ∧ ParAt w' pb s t1 q1 ∧ w.grownBy w' (some pb)) := HV
  have HFIT := hide hfit
  have HM := hide hM
  have HO := hide ho
  simp only
  clear hP hT hk hat hM hC HV ev hfit ho
  by_cases hc : t1.kind = 44
  rotate_left
  · rw [if_neg hc]
    have HC := hide hc
    clear hc
    go_enter Tryz.func119, Tryz.ntmps119
    go_wp2_with (first
      | (go_at_call 126; refine HK.out.mono ?_; clear HK; rintro e w6 ⟨rfl, rfl⟩)
      | (go_at_call 91; refine HV2.out.mono ?_; clear HV2; rintro e w4 ⟨s4, rfl, i4, p4, g4⟩; obtain ⟨sa4, sc4, rfl, _⟩ := i4.len; have HX := hide (fun (o : Obj) => expect_no (w4.alloc o) pb s t1 q1 ((Below.heap_alloc _ _ _ p4.lt).trans p4) hs 44 HC.out); have G4 := hide g4; clear p4 g4 i4)
      | (go_at_call 92; refine (HX.out _).mono ?_; clear HX; rintro e w7 ⟨rfl, b7⟩; have B7 := hide b7; clear b7))
    exact ⟨rfl, rfl, grown_more G4.out (grown_more (grown_of_below (alloc_v (Below.refl _ _) _)) (grown_of_below B7.out))⟩
  rw [if_pos hc]
  have HC := hide hc
  clear hc
  by_cases hc2 : (stepM s t1).kind = 41
  · rw [if_pos hc2]
    have HC2 := hide hc2
    clear hc2
    go_enter Tryz.func119, Tryz.ntmps119
    go_wp2_with (first
      | (go_at_call 126; refine HK.out.mono ?_; clear HK; rintro e w6 ⟨rfl, rfl⟩)
      | (go_at_call 91; refine HV2.out.mono ?_; clear HV2; rintro e w4 ⟨s4, rfl, i4, p4, g4⟩; obtain ⟨sa4, sc4, rfl, _⟩ := i4.len; have o5 := OwnAt.one g4.size i4 HFIT.out.2.2.2.1; have b5 : Below w4.heap.size w4 (w4.alloc (.cells #[.int .i64 x.kind, .int .i64 x.int, .int .i64 x.im, .string x.text, .slice sa4 x.items.length sc4] 46)) := alloc_v (Below.refl _ _) _; have g5 := grown_more g4 (grown_of_below b5); have HX := hide (expect_yes _ pb s t1 q1 (p4.grownL b5 p4.lt) hs HFIT.out.1.room (HTT.out _ g5) 44 HC.out); have O5 := hide o5; have G5 := hide g5; clear p4 g4 i4 o5 b5 g5)
      | (go_at_call 92; refine HX.out.mono ?_; clear HX; rintro e w7 ⟨rfl, p7, g7⟩; have O7 := hide (O5.out.far g7.size (fun k h1 h2 => g7.block k h2 (by simp; omega))); have g8 := grown_more G5.out g7; have HK2 := hide (skip_yes w7 pb s _ q1 p7 hs HFIT.out.1.step.room (HTT.out _ g8) 41 HC2.out); have G8 := hide g8; clear p7 g7 g8 O5)
      | (go_at_call 126; refine HK2.out.mono ?_; clear HK2; rintro e w9 ⟨rfl, p9, g9⟩; have P9 := hide p9; have G9 := hide g9; clear p9 g9))
    go_ret
    have hz := G8.out.size
    exact ⟨_, rfl, O7.out.far G9.out.size (fun k h1 h2 => G9.out.block k h2 (by simp; omega)), P9.out, grown_more G8.out G9.out⟩
  · rw [if_neg hc2]
    have HC2 := hide hc2
    clear hc2
    obtain ⟨T0, hT0⟩ : ∃ T0, moreM s (valM s n) 41 (4097 - q1) [x] (stepM s t1) q1 = T0 := ⟨_, rfl⟩
    rw [hT0]
    have HMO := hide (fun (U : World) (o : Value) (g : w.grownBy U (some pb)) (hp : ParAt U pb s (stepM s t1) q1) (ow : OwnAt U w.heap.size n o [x]) => HM.out w U pb (stepM s t1) q1 deep 41 [x] o (4097 - q1) g hpb hp HFIT.out.1.step (HTT.out w (grown_self _ _)) HFIT.out.2.2.1 (by have := HFIT.out.2.2.1; omega) ow (by have := HFIT.out.2.1; simp; omega) hd hd1 HO.out)
    rw [hT0] at HMO
    clear hT0
    rcases T0 with ⟨zc, zo⟩ | ⟨l, t2, q2⟩
    · go_enter Tryz.func119, Tryz.ntmps119
      go_wp2_with (first
        | (go_at_call 126; refine HK.out.mono ?_; clear HK; rintro e w6 ⟨rfl, rfl⟩)
        | (go_at_call 91; refine HV2.out.mono ?_; clear HV2; rintro e w4 ⟨s4, rfl, i4, p4, g4⟩; obtain ⟨sa4, sc4, rfl, _⟩ := i4.len; have o5 := OwnAt.one g4.size i4 HFIT.out.2.2.2.1; have b5 : Below w4.heap.size w4 (w4.alloc (.cells #[.int .i64 x.kind, .int .i64 x.int, .int .i64 x.im, .string x.text, .slice sa4 x.items.length sc4] 46)) := alloc_v (Below.refl _ _) _; have g5 := grown_more g4 (grown_of_below b5); have HX := hide (expect_yes _ pb s t1 q1 (p4.grownL b5 p4.lt) hs HFIT.out.1.room (HTT.out _ g5) 44 HC.out); have O5 := hide o5; have G5 := hide g5; clear p4 g4 i4 o5 b5 g5)
        | (go_at_call 92; refine HX.out.mono ?_; clear HX; rintro e w7 ⟨rfl, p7, g7⟩; have o7 := O5.out.far g7.size (fun k h1 h2 => g7.block k h2 (by simp; omega)); have g8 := grown_more G5.out g7; have HK2 := hide (skip_no w7 pb s _ q1 p7 41 HC2.out); have HM3 := hide (HMO.out _ _ g8 p7 o7); have G8 := hide g8; clear p7 g7 g8 o7 O5)
        | (go_at_call 126; refine HK2.out.mono ?_; clear HK2; rintro e w9 ⟨rfl, rfl⟩)
        | (go_at_call 144; refine HM3.out.mono ?_; clear HM3; rintro e w10 ⟨rfl, g10⟩; have G10 := hide g10; clear g10))
      exact ⟨rfl, rfl, G10.out⟩
    · go_enter Tryz.func119, Tryz.ntmps119
      go_wp2_with (first
        | (go_at_call 126; refine HK.out.mono ?_; clear HK; rintro e w6 ⟨rfl, rfl⟩)
        | (go_at_call 91; refine HV2.out.mono ?_; clear HV2; rintro e w4 ⟨s4, rfl, i4, p4, g4⟩; obtain ⟨sa4, sc4, rfl, _⟩ := i4.len; have o5 := OwnAt.one g4.size i4 HFIT.out.2.2.2.1; have b5 : Below w4.heap.size w4 (w4.alloc (.cells #[.int .i64 x.kind, .int .i64 x.int, .int .i64 x.im, .string x.text, .slice sa4 x.items.length sc4] 46)) := alloc_v (Below.refl _ _) _; have g5 := grown_more g4 (grown_of_below b5); have HX := hide (expect_yes _ pb s t1 q1 (p4.grownL b5 p4.lt) hs HFIT.out.1.room (HTT.out _ g5) 44 HC.out); have O5 := hide o5; have G5 := hide g5; clear p4 g4 i4 o5 b5 g5)
        | (go_at_call 92; refine HX.out.mono ?_; clear HX; rintro e w7 ⟨rfl, p7, g7⟩; have o7 := O5.out.far g7.size (fun k h1 h2 => g7.block k h2 (by simp; omega)); have g8 := grown_more G5.out g7; have HK2 := hide (skip_no w7 pb s _ q1 p7 41 HC2.out); have HM3 := hide (HMO.out _ _ g8 p7 o7); have G8 := hide g8; clear p7 g7 g8 o7 O5)
        | (go_at_call 126; refine HK2.out.mono ?_; clear HK2; rintro e w9 ⟨rfl, rfl⟩)
        | (go_at_call 144; refine HM3.out.mono ?_; clear HM3; rintro e w10 ⟨o10, rfl, o10', p10, g10⟩; obtain ⟨va, vc, rfl⟩ := o10'.len; have R10 := hide (And.intro o10' (And.intro p10 g10)); clear o10' p10 g10))
      go_ret
      exact ⟨_, rfl, R10.out.1, R10.out.2.1, R10.out.2.2⟩
end Go.Proofs.YthmhcpghfbifiaaGreatDoor
