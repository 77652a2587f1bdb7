/- The reference's add of a response. -/
import Derived.Test.YtgppmajmkpcciaaDoorGHRfB
import Derived.Test.YtgppmajmkpcciaaDoorZHRegE
import Derived.Test.YtgppmajmkpcciaaDoorZHMake
namespace Go.Proofs.YtgppmajmkpcciaaDoor
open Go.RowKit Go.Maps

set_option maxRecDepth 100000 in
set_option maxHeartbeats 4000000 in
theorem addRes_k (e : Evn) (at' : Nat) (w : World) (h0 n : Nat) (I : Nat → Prop) (g : Gs) (v0 v1 v2 : Value) (rs : List CV) (s : Value) (B : Nat) (hB : B ≤ h0) (hg : RAt w h0 n I g v0 v1 v2 rs) (hi : ItemsAt w B n s e.val.items) (hok : e.val.ok) (hz : e.val.size ≤ 1000000000) (hl0 : g.procs.length + 1 ≤ 1000000000) (hl2 : g.calls.length + 1 ≤ 1000000000) (hk : e.kind = 2) (hm : e.proc ∈ g.procs) (cb : Nat) (hcb : cb < g.calls.length) (hw : whoR g e.proc = (cb : Int)) :
    Calls Tryd.prog 24 #[.agg #[v0, v1, v2], .agg (evCells e s), .int .i64 (at' : Int)] w fun r w' => (∃ u0 u1 u2 I' rs', r = .returned (.tuple #[.agg #[u0, u1, u2], .int .i64 0]) ∧ RAt w' h0 n I' { g with calls := answer g.calls cb at' e.val } u0 u1 u2 rs' ∧ ∀ b, I' b → I b ∨ b < B ∨ w.heap.size ≤ b) ∧ Below h0 w w' := by
  have hrl : rs.length = g.calls.length := by have := congrArg List.length hg.same; simpa using this
  obtain ⟨a0, c0, rfl⟩ := rowLen hg.pr
  obtain ⟨a1, c1, rfl⟩ := rowLen hg.ob
  obtain ⟨a2, c2, rfl⟩ := rowLen hg.cl
  obtain ⟨sa, sc, rfl, _⟩ := hi.len
  obtain ⟨W1, hW1⟩ : ∃ W, w.alloc (.cells #[.slice a0 g.procs.length c0, .slice a1 g.objs.length c1, .slice a2 g.calls.length c2] 27) = W := ⟨_, rfl⟩
  obtain ⟨W2, hW2⟩ : ∃ W, W1.alloc (.cells (evCells e (.slice sa e.val.items.length sc)) 46) = W := ⟨_, rfl⟩
  obtain ⟨W, hW⟩ : ∃ W, W2.alloc (.cells #[.slice none 0 0, .slice none 0 0, .slice none 0 0] 27) = W := ⟨_, rfl⟩
  have b1 : Below w.heap.size w W1 := by rw [← hW1]; exact alloc_v (Below.refl _ _) _
  have b2 : Below W1.heap.size W1 W2 := by rw [← hW2]; exact alloc_v (Below.refl _ _) _
  have b3 : Below W2.heap.size W2 W := by rw [← hW]; exact alloc_v (Below.refl _ _) _
  have z1 : W1.heap.size = w.heap.size + 1 := by rw [← hW1]; simp
  have z2 : W2.heap.size = w.heap.size + 2 := by rw [← hW2]; simp [z1]
  have z3 : W.heap.size = w.heap.size + 3 := by rw [← hW]; simp [z2]
  have bW := trans_v (trans_v b1 b2) b3
  have e1 : W.heap[w.heap.size]? = some (.cells #[.slice a0 g.procs.length c0, .slice a1 g.objs.length c1, .slice a2 g.calls.length c2] 27 (0, 0)) := by
    refine (b3.block _ (by omega)).trans ((b2.block _ (by omega)).trans ?_)
    rw [← hW1]; exact World.alloc_heap_new w _
  have e2 : W.heap[w.heap.size + 1]? = some (.cells (evCells e (.slice sa e.val.items.length sc)) 46 (0, 0)) := by
    refine (b3.block _ (by omega)).trans ?_
    rw [← hW2, ← z1]; exact World.alloc_heap_new W1 _
  have e3 : W.heap[w.heap.size + 2]? = some (.cells #[.slice none 0 0, .slice none 0 0, .slice none 0 0] 27 (0, 0)) := by rw [← hW, ← z2]; exact World.alloc_heap_new W2 _
  have hgW := hg.below bW
  have HFD := hide (find_k7 g.procs e.proc W _ _ (NamesAt.row hgW.pr (by omega)) (Nat.le_refl _))
  have hclA : ClAt W W.heap.size (.slice a2 g.calls.length c2) g.calls := by
    have h1 := hgW.cl
    rw [← hrl] at h1
    have h2 := (HvsAt.row h1 (by omega)).cl
    rw [hg.same, hrl] at h2
    exact h2
  have HOP := hide (fun (p : Nat) => open_k7 W (.slice a0 g.procs.length c0) (.slice a1 g.objs.length c1) (.slice a2 g.calls.length c2) ⟨_, _, _, rfl⟩ ⟨_, _, _, rfl⟩ g.calls hclA p)
  have x0 := cells_at e1 0 _ rfl
  have x1 := cells_at e1 1 _ rfl
  have x2 := cells_at e1 2 _ rfl
  have y0 := cells_at e2 0 _ rfl
  have y1 := cells_at e2 1 _ rfl
  have BW := hide bW
  have E1 := hide e1
  have E2 := hide e2
  have E3 := hide e3
  have HG := hide hgW
  have Z3 := hide z3
  clear hclA e1 e2 e3 bW b1 b2 b3 hgW z3
  have hk2 : (e.kind == 2) = true := by simp [hk]
  have hf := fnd_in hm
  have ho : opnR g.calls (g.procs.idxOf e.proc) g.calls.length = (cb : Int) := by unfold whoR at hw; rwa [if_pos hm] at hw
  rw [hf] at HFD
  have HOP2 := hide (HOP.out (g.procs.idxOf e.proc))
  rw [ho] at HOP2
  clear HOP hf ho hw hm hk
  have HOP := HOP2
  clear HOP2
  generalize g.procs.idxOf e.proc = ix at *
  have i0 : (0 : Int) ≤ (ix : Int) := by omega
  have j0 : (0 : Int) ≤ (cb : Int) := by omega
  have j1 : (cb : Int) < (g.calls.length : Int) := by omega
  obtain ⟨gc, cc, ec, lc, ltc⟩ := hg.cl.form (by omega)
  simp only [Value.slice.injEq, true_and] at ec
  obtain ⟨rfl, rfl⟩ := ec
  go_enter Tryd.func24, Tryd.ntmps24
  go_upto_region 8 with (first
    | (go_at_call 33; refine HFD.out.mono ?_; clear HFD; rintro r w9 ⟨rfl, rfl⟩)
    | (go_at_call 43; refine HOP.out.mono ?_; clear HOP; rintro r w2 ⟨rfl, b2⟩; have B2 := hide b2; have f1 := (b2.block w.heap.size (by have := Z3.out; omega)).trans E1.out; have f2 := (b2.block (w.heap.size + 1) (by have := Z3.out; omega)).trans E2.out; have u0 := cells_at f1 0 _ rfl; have u1 := cells_at f1 1 _ rfl; have u2 := cells_at f1 2 _ rfl; have t0 := cells_at f2 0 _ rfl; have F3 := hide ((b2.block (w.heap.size + 2) (by have := Z3.out; omega)).trans E3.out); have r0 := cells_at F3.out 0 _ rfl; have r1 := cells_at F3.out 1 _ rfl; have r2 := cells_at F3.out 2 _ rfl; have q0 := frozen_at F3.out 0; have q1 := frozen_at F3.out 1; have q2 := frozen_at F3.out 2; clear b2 f1 f2))
  have HG2 := hide (HG.out.below B2.out)
  have hb2 := B2.out.size
  have hz3 := Z3.out
  obtain ⟨x0', hx0⟩ : ∃ x0', rs[cb]'(by omega) = x0' := ⟨_, rfl⟩
  have hce : ∀ i v, (clOf x0')[i]? = some v → w2.cell? ⟨gc, cb * 15 + i, none⟩ = some v := fun i v h => by
    have hi15 : i < 15 := by
      have := (List.getElem?_eq_some_iff.1 h).1
      rwa [clOf_len] at this
    rw [HG2.out.cl.cellAt (cb * 15 + i) (by have := Nat.mul_le_mul_right 15 (show cb + 1 ≤ g.calls.length by omega); omega), crow_get rs cb (by omega) i hi15, hx0]
    exact h
  have p9 := hce 9 _ rfl
  have z9 := HG2.out.cl.frozenAt (cb * 15 + 9)
  have gne : gc < w.heap.size := ltc
  have HZ3 := hide hz3
  clear hz3
  go_upto_region 9 with (fail)
  obtain ⟨X1, hX1⟩ : ∃ X, w2.setCell ⟨gc, cb * 15 + 9, none⟩ (.int .i64 (at' : Int)) = X := ⟨_, rfl⟩
  have k1 : Keeps (fun x => x = gc) w2 X1 := by rw [← hX1]; exact Keeps.set _ _ _ _
  have row1 : X1.ownsRow h0 49 15 (.slice (some ⟨gc, 0, none⟩) g.calls.length c2) g.calls.length (crow (rs.set cb ({ x0'.1 with res := (at' : Int) }, x0'.2.1, x0'.2.2))) := by
    have s1 := (HG2.out.cl.stored (cb * 15 + 9) (.int .i64 (at' : Int))).1
    rw [crow_split rs cb (by omega), hx0, crow_set rs cb (by omega) _ (by rfl) 9 (by omega)] at s1
    rw [crow_with rs cb (by omega), ← hX1]
    exact s1
  rw [hX1]
  have zX := k1.size
  have hz3 := HZ3.out
  have hgz := hg.sz
  have f1 := (k1.block w.heap.size (by omega) (by omega)).trans ((B2.out.block _ (by omega)).trans E1.out)
  have f2 := (k1.block (w.heap.size + 1) (by omega) (by omega)).trans ((B2.out.block _ (by omega)).trans E2.out)
  have f3 := (k1.block (w.heap.size + 2) (by omega) (by omega)).trans F3.out
  have bX : Below h0 w X1 := (((trans_v BW.out B2.out).mono hgz)).trans (k1.toBelow (by omega) (fun x h => by omega))
  have HCP := hide (fun (U : World) (b : Below X1.heap.size X1 U) => refCopy_k e.val U n (.slice sa e.val.items.length sc) hz ((hi.below ((bX.trans (b.mono (by omega))).mono hB)).up (by have := b.size; omega)))
  have HSS := hide (fun (U : World) (b : Below X1.heap.size X1 U) => (show U.cell? ⟨w.heap.size, 2, none⟩ = some (.slice (some ⟨gc, 0, none⟩) g.calls.length c2) ∧ U.cell? ⟨w.heap.size + 1, 4, none⟩ = some (.int .i64 e.val.kind) ∧ U.cell? ⟨w.heap.size + 1, 5, none⟩ = some (.int .i64 e.val.int) ∧ U.cell? ⟨w.heap.size + 1, 6, none⟩ = some (.int .i64 e.val.im) ∧ U.cell? ⟨w.heap.size + 1, 7, none⟩ = some (.string e.val.text) ∧ U.cell? ⟨w.heap.size + 1, 8, none⟩ = some (.slice sa e.val.items.length sc) from by
    have h1 := (b.block _ (by omega)).trans f1
    have h2 := (b.block _ (by omega)).trans f2
    exact ⟨cells_at h1 2 _ rfl, cells_at h2 4 _ rfl, cells_at h2 5 _ rfl, cells_at h2 6 _ rfl, cells_at h2 7 _ rfl, cells_at h2 8 _ rfl⟩))
  have HS1 := hide (HSS.out X1.drew (drewB 1 X1))
  have ROW1 := hide row1
  have KX := hide k1
  have F1 := hide f1
  have F33 := hide f3
  have BX := hide bX
  clear hX1 p9 z9 hce row1 k1 f1 f2 f3 bX hz3
  refine wp_region_E 8 9 (fun U => U.cell? ⟨w.heap.size, 2, none⟩ = some (.slice (some ⟨gc, 0, none⟩) g.calls.length c2) ∧ U.cell? ⟨w.heap.size + 1, 4, none⟩ = some (.int .i64 e.val.kind) ∧ U.cell? ⟨w.heap.size + 1, 5, none⟩ = some (.int .i64 e.val.int) ∧ U.cell? ⟨w.heap.size + 1, 6, none⟩ = some (.int .i64 e.val.im) ∧ U.cell? ⟨w.heap.size + 1, 7, none⟩ = some (.string e.val.text) ∧ U.cell? ⟨w.heap.size + 1, 8, none⟩ = some (.slice sa e.val.items.length sc)) (by kernel_rfl) (by kernel_rfl) (by kernel_rfl) (by kernel_rfl) (by decide) (by kernel_rfl) ?_
  intro hsk inv
  refine wpAnyE_take (i := 0) (v := ?v0) hsk inv (by decide) rfl (by kernel_rfl) (by kernel_rfl) (fun _ _ _ h => h) (Or.inl ⟨by rfl, ?hy0⟩) HS1.out ?rest0
  case hy0 => intro U hSU; (try dsimp only at hSU); go_simp; (try with_reducible rfl)
  case rest0 =>
  clear inv
  intro inv
  (try simp only [Act.put, List.setIfInBounds_toArray])
  refine wpAnyE_take (i := 1) (v := ?v1) hsk inv (by decide) rfl (by kernel_rfl) (by kernel_rfl) (fun _ _ _ h => h) (Or.inl ⟨by rfl, ?hy1⟩) HS1.out ?rest1
  case hy1 => intro U hSU; (try dsimp only at hSU); go_simp; (try with_reducible rfl)
  case rest1 =>
  clear inv
  intro inv
  (try simp only [Act.put])
  refine wpAnyE_take (i := 2) (v := ?v2) hsk inv (by decide) rfl (by kernel_rfl) (by kernel_rfl) (fun _ _ _ h => h) (Or.inl ⟨by rfl, ?hy2⟩) HS1.out ?rest2
  case hy2 => intro U hSU; (try dsimp only at hSU); go_simp; (try with_reducible rfl)
  case rest2 =>
  clear inv
  intro inv
  (try simp only [Act.put])
  refine wpAnyE_take (i := 3) (v := ?v3) hsk inv (by decide) rfl (by kernel_rfl) (by kernel_rfl) (fun _ _ _ h => h) (Or.inl ⟨by rfl, ?hy3⟩) HS1.out ?rest3
  case hy3 => intro U hSU; (try dsimp only at hSU); go_simp; (try with_reducible rfl)
  case rest3 =>
  clear inv
  intro inv
  (try simp only [Act.put])
  refine wpAnyE_take (i := 4) (v := ?v4) hsk inv (by decide) rfl (by kernel_rfl) (by kernel_rfl) (fun _ _ _ h => h) (Or.inl ⟨by rfl, ?hy4⟩) HS1.out ?rest4
  case hy4 => intro U hSU; (try dsimp only at hSU); go_simp; (try with_reducible rfl)
  case rest4 =>
  clear inv
  intro inv
  (try simp only [Act.put])
  refine wpAnyE_one (i := 5) inv (by decide) (by kernel_rfl) rfl (fun K hK => ?_)
  go_simp
  go_at_call 20
  refine (HCP.out _ (drewB 1 X1)).mono ?_
  rintro r w4 ⟨s', rfl, hi4, _, hor4, b4⟩
  have bX4 : Below X1.heap.size X1 w4 := trans_v (drewB 1 X1) b4
  have HS4 := hide (HSS.out w4 bX4)
  obtain ⟨s1', s3', rfl, _⟩ := hi4.len
  have r4 := (Keeps.below (M := fun _ => False) bX4).row ROW1.out (fun _ _ h => h)
  have R4 := hide r4
  have HI4 := hide hi4
  have HO4 := hide hor4
  have B4 := hide bX4
  have hlen4 : (rs.set cb ({ x0'.1 with res := (at' : Int) }, x0'.2.1, x0'.2.2)).length = rs.length := List.length_set
  have hce4 : ∀ i v, (clOf (({ x0'.1 with res := (at' : Int) }, x0'.2.1, x0'.2.2) : CV))[i]? = some v → w4.cell? ⟨gc, cb * 15 + i, none⟩ = some v := fun i v h => by
    have hi15 : i < 15 := by
      have := (List.getElem?_eq_some_iff.1 h).1
      rwa [clOf_len] at this
    rw [R4.out.cellAt (cb * 15 + i) (by have := Nat.mul_le_mul_right 15 (show cb + 1 ≤ g.calls.length by omega); omega), crow_get _ cb (by omega) i hi15, List.getElem_set_self]
    exact h
  have p10 := hce4 10 _ rfl
  have p11 := hce4 11 _ rfl
  have p12 := hce4 12 _ rfl
  have p13 := hce4 13 _ rfl
  have p14 := hce4 14 _ rfl
  have z10 := R4.out.frozenAt (cb * 15 + 10)
  have z11 := R4.out.frozenAt (cb * 15 + 11)
  have z12 := R4.out.frozenAt (cb * 15 + 12)
  have z13 := R4.out.frozenAt (cb * 15 + 13)
  have z14 := R4.out.frozenAt (cb * 15 + 14)
  clear hce4 r4 hi4 hor4 bX4 b4
  refine hK.out _ _ HS4.out ?_
  clear hK K inv
  intro inv
  (try simp only [Act.put, List.setIfInBounds_toArray, List.set_cons_zero, List.set_cons_succ])
  refine wpAnyE_take (i := 6) (v := ?v6) hsk inv (by decide) rfl (by kernel_rfl) (by kernel_rfl) (fun _ _ _ h => h) (Or.inl ⟨by rfl, ?hy6⟩) HS4.out ?rest6
  case hy6 => intro U hSU; (try dsimp only at hSU); go_simp; (try with_reducible rfl)
  case rest6 =>
  clear inv
  intro inv
  (try simp only [Act.put, List.setIfInBounds_toArray])
  refine wpAnyE_take (i := 7) (v := ?v7) hsk inv (by decide) rfl (by kernel_rfl) (by kernel_rfl) (fun _ _ _ h => h) (Or.inl ⟨by rfl, ?hy7⟩) HS4.out ?rest7
  case hy7 => intro U hSU; (try dsimp only at hSU); go_simp; (try with_reducible rfl)
  case rest7 =>
  clear inv
  intro inv
  (try simp only [Act.put])
  refine wpAnyE_last (by kernel_rfl) (by kernel_rfl) rfl (fun K hK => ?_)
  go_simp
  refine hK.out _ _ ?_
  clear hK K
  obtain ⟨X6, hX6⟩ : ∃ X, ((((w4.setCell ⟨gc, cb * 15 + 10, none⟩ (.int .i64 e.val.kind)).setCell ⟨gc, cb * 15 + 10 + 1, none⟩ (.int .i64 e.val.int)).setCell ⟨gc, cb * 15 + 10 + 2, none⟩ (.int .i64 e.val.im)).setCell ⟨gc, cb * 15 + 10 + 3, none⟩ (.string e.val.text)).setCell ⟨gc, cb * 15 + 10 + 4, none⟩ (.slice s1' e.val.items.length s3') = X := ⟨_, rfl⟩
  obtain ⟨row6, k6⟩ := crow_put5 R4.out cb 10 (by rw [hlen4]; omega) (by omega) e.val (.slice s1' e.val.items.length s3') ({ x0'.1 with res := (at' : Int), reply := e.val }, x0'.2.1, .slice s1' e.val.items.length s3') (by rw [List.getElem_set_self]; rfl)
  rw [List.set_set] at row6
  rw [hX6] at row6 k6
  rw [hX6]
  clear hX6 p10 p11 p12 p13 p14 z10 z11 z12 z13 z14
  have z4 := B4.out.size
  have z6 := k6.size
  have hz3 := HZ3.out
  have g1 := (k6.block w.heap.size (by omega) (by omega)).trans ((B4.out.block _ (by omega)).trans F1.out)
  have F3' := hide ((k6.block (w.heap.size + 2) (by omega) (by omega)).trans ((B4.out.block _ (by omega)).trans F33.out))
  clear F3
  have F3 := F3'
  clear F3'
  clear u0 u1 u2 r0 r1 r2 q0 q1 q2
  have u0 := cells_at g1 0 _ rfl
  have u1 := cells_at g1 1 _ rfl
  have u2 := cells_at g1 2 _ rfl
  have r0 := cells_at F3.out 0 _ rfl
  have r1 := cells_at F3.out 1 _ rfl
  have r2 := cells_at F3.out 2 _ rfl
  have q0 := frozen_at F3.out 0
  have q1 := frozen_at F3.out 1
  have q2 := frozen_at F3.out 2
  have ROW6 := hide row6
  have K6 := hide k6
  have HX0 := hide hx0
  have HL4 := hide hlen4
  clear g1 row6 k6 hz3 hx0 hlen4
  go_wp2
  have g1 := heap_setCell_same _ _ 0 _ _ (.slice a0 g.procs.length c0) F3.out
  have g2 := heap_setCell_same _ _ 1 _ _ (.slice a1 g.objs.length c1) g1
  have g3 := heap_setCell_same _ _ 2 _ _ (.slice (some ⟨gc, 0, none⟩) g.calls.length c2) g2
  refine bodyPost_ret (results_struct_tmpH rfl _ _ (w.heap.size + 2) _ _ _ _ rfl g3 Tryd.underlying27 rfl infoPast) rfl ?_
  have kp := ((Keeps.set X6 (w.heap.size + 2) 0 (.slice a0 g.procs.length c0)).trans (Keeps.set _ (w.heap.size + 2) 1 (.slice a1 g.objs.length c1)) (fun _ _ h => h)).trans (Keeps.set _ (w.heap.size + 2) 2 (.slice (some ⟨gc, 0, none⟩) g.calls.length c2)) (fun _ _ h => h)
  have hz3 := HZ3.out
  have kw : Keeps (fun x => x = gc) w2 X6 := (KX.out.trans (Keeps.below (M := fun _ => False) B4.out) (fun _ _ h => h.elim)).trans K6.out (fun _ _ h => h)
  have b46 : Below h0 w X6 := (BX.out.trans (B4.out.mono (by omega))).trans (K6.out.toBelow (by omega) (fun x h => by omega))
  have hrow : X6.ownsRow h0 49 15 (.slice (some ⟨gc, 0, none⟩) g.calls.length c2) g.calls.length (crow (rs.set cb ({ (rs[cb]'(by omega)).1 with res := (at' : Int), reply := e.val }, (rs[cb]'(by omega)).2.1, .slice s1' e.val.items.length s3'))) := by rw [HX0.out]; exact ROW6.out
  have hnr : ∀ {v : Value} {t : TypeId} {z m : Nat} {xs : List Value}, w.ownsRow h0 t z v m xs → ∀ b, (b < h0 ∨ X1.heap.size ≤ b) → v.ownBlock ≠ some b := fun hr b hb ex => by
    have := hr.lt b ex
    omega
  have hI : ∀ b, I b → b < w.heap.size := fun b hb => (hg.no b hb).1
  have hne2 : ∀ {v : Value} {t : TypeId} {z m : Nat} {xs : List Value}, w.ownsRow h0 t z v m xs → v.ownBlock ≠ some (w.heap.size + 2) := fun hr ex => by
    have := (hr.lt _ ex).2
    omega
  refine ⟨?_, b46.trans (kp.toBelow (by omega) (fun x h => by omega))⟩
  rcases HO4.out with hs | hs
  · have hin : ItemsIn X6 (fun b => b < B) n (.slice s1' e.val.items.length s3') e.val.items := by rw [hs]; exact (hi.below (b46.mono hB)).toIn
    have ha := HG2.out.answered cb at' (by omega) e.val _ kw hrow hin (fun b hb => ⟨by omega, hnr hg.pr b (.inl (by omega)), hnr hg.ob b (.inl (by omega)), hnr hg.cl b (.inl (by omega))⟩) hok hz
    have hfin := ha.keep kp (fun h => by rcases h with h | h; (have := hI _ h; omega); omega) (hne2 hg.pr) (hne2 hg.ob) (hne2 hg.cl)
    have hI2 : ∀ b, (I b ∨ b < B) → I b ∨ b < B ∨ w.heap.size ≤ b := fun b h => by rcases h with h | h; exact .inl h; first | exact .inr (.inl h) | exact .inr (.inr (by omega))
    first | exact ⟨_, _, _, _, _, rfl, hfin, hI2⟩ | exact ⟨_, _, _, rfl, _, _, hfin, hI2⟩ | exact ⟨_, _, _, rfl, _, ⟨_, hfin⟩, hI2⟩
  · have hin : ItemsIn X6 (fun b => X1.heap.size ≤ b ∧ b < w4.heap.size) n (.slice s1' e.val.items.length s3') e.val.items := hs.kept (fun b o hb => cell_block (K6.out.block b hb.2 (fun e => by have : X1.heap.size ≤ b := hb.1; omega)) o) (fun _ hb => hb)
    have ha := HG2.out.answered cb at' (by omega) e.val _ kw hrow hin (fun b hb => ⟨by omega, hnr hg.pr b (.inr hb.1), hnr hg.ob b (.inr hb.1), hnr hg.cl b (.inr hb.1)⟩) hok hz
    have hfin := ha.keep kp (fun h => by rcases h with h | h; (have := hI _ h; omega); omega) (hne2 hg.pr) (hne2 hg.ob) (hne2 hg.cl)
    have hI2 : ∀ b, (I b ∨ X1.heap.size ≤ b ∧ b < w4.heap.size) → I b ∨ b < B ∨ w.heap.size ≤ b := fun b h => by rcases h with h | h; exact .inl h; first | exact .inr (.inl h) | exact .inr (.inr (by omega))
    first | exact ⟨_, _, _, _, _, rfl, hfin, hI2⟩ | exact ⟨_, _, _, rfl, _, _, hfin, hI2⟩ | exact ⟨_, _, _, rfl, _, ⟨_, hfin⟩, hI2⟩
end Go.Proofs.YtgppmajmkpcciaaDoor
