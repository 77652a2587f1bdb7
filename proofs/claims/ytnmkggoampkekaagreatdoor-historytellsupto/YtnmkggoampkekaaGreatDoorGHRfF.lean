/- The reference's add of a response. -/
import Derived.Test.YtnmkggoampkekaaGreatDoorGHRfB
import Derived.Test.YtnmkggoampkekaaGreatDoorGHTkG
import Derived.Test.YtnmkggoampkekaaGreatDoorZHMake
namespace Go.Proofs.YtnmkggoampkekaaGreatDoor
open Go.RowKit Go.Maps

set_option maxRecDepth 100000 in
set_option maxHeartbeats 4000000 in
theorem addRes_k (e : Evn) (at' : Nat) (w : World) (h0 n : Nat) (I : Nat → Prop) (g : Gs) (v0 v1 v2 : Value) (rs : List CV) (s : Value) (B : Nat) (hB : B ≤ h0) (hg : RAt w h0 n I g v0 v1 v2 rs) (hi : ItemsAt w B n s e.val.items) (hok : e.val.ok) (hz : e.val.size ≤ 1000000000) (hl0 : g.procs.length + 1 ≤ 1000000000) (hl2 : g.calls.length + 1 ≤ 1000000000) (hk : e.kind = 2) (hm : e.proc ∈ g.procs) (cb : Nat) (hcb : cb < g.calls.length) (hw : whoR g e.proc = (cb : Int)) :
    Calls Tryz.prog 55 #[.agg #[v0, v1, v2], .agg (evCells e s), .int .i64 (at' : Int)] w fun r w' => (∃ u0 u1 u2 I' rs', r = .returned (.tuple #[.agg #[u0, u1, u2], .int .i64 0]) ∧ RAt w' h0 n I' { g with calls := answer g.calls cb at' e.val } u0 u1 u2 rs' ∧ ∀ b, I' b → I b ∨ b < B ∨ w.heap.size ≤ b) ∧ Below h0 w w' := by
  have hrl : rs.length = g.calls.length := by have := congrArg List.length hg.same; simpa using this
  obtain ⟨a0, c0, rfl⟩ := rowLen hg.pr
  obtain ⟨a1, c1, rfl⟩ := rowLen hg.ob
  obtain ⟨a2, c2, rfl⟩ := rowLen hg.cl
  obtain ⟨sa, sc, rfl, _⟩ := hi.len
  obtain ⟨W1, hW1⟩ : ∃ W, w.alloc (.cells #[.slice a0 g.procs.length c0, .slice a1 g.objs.length c1, .slice a2 g.calls.length c2] 25) = W := ⟨_, rfl⟩
  obtain ⟨W2, hW2⟩ : ∃ W, W1.alloc (.cells (evCells e (.slice sa e.val.items.length sc)) 61) = W := ⟨_, rfl⟩
  obtain ⟨W, hW⟩ : ∃ W, W2.alloc (.cells #[.slice none 0 0, .slice none 0 0, .slice none 0 0] 25) = W := ⟨_, rfl⟩
  have b1 : Below w.heap.size w W1 := by rw [← hW1]; exact alloc_v (Below.refl _ _) _
  have b2 : Below W1.heap.size W1 W2 := by rw [← hW2]; exact alloc_v (Below.refl _ _) _
  have b3 : Below W2.heap.size W2 W := by rw [← hW]; exact alloc_v (Below.refl _ _) _
  have z1 : W1.heap.size = w.heap.size + 1 := by rw [← hW1]; simp
  have z2 : W2.heap.size = w.heap.size + 2 := by rw [← hW2]; simp [z1]
  have z3 : W.heap.size = w.heap.size + 3 := by rw [← hW]; simp [z2]
  have bW := trans_v (trans_v b1 b2) b3
  have e1 : W.heap[w.heap.size]? = some (.cells #[.slice a0 g.procs.length c0, .slice a1 g.objs.length c1, .slice a2 g.calls.length c2] 25 (0, 0)) := by
    refine (b3.block _ (by omega)).trans ((b2.block _ (by omega)).trans ?_)
    rw [← hW1]; exact World.alloc_heap_new w _
  have e2 : W.heap[w.heap.size + 1]? = some (.cells (evCells e (.slice sa e.val.items.length sc)) 61 (0, 0)) := by
    refine (b3.block _ (by omega)).trans ?_
    rw [← hW2, ← z1]; exact World.alloc_heap_new W1 _
  have e3 : W.heap[w.heap.size + 2]? = some (.cells #[.slice none 0 0, .slice none 0 0, .slice none 0 0] 25 (0, 0)) := by rw [← hW, ← z2]; exact World.alloc_heap_new W2 _
  have hgW := hg.below bW
  have HFD := hide (find_k7 g.procs e.proc W _ _ (NamesAt.row hgW.pr (by omega)) (Nat.le_refl _))
  have hclA : ClAt W W.heap.size (.slice a2 g.calls.length c2) g.calls := by
    have h1 := hgW.cl
    rw [← hrl] at h1
    have h2 := (HvsAt.row h1 (by omega)).cl
    rw [hg.same, hrl] at h2
    exact h2
  have HOP := hide (fun (p : Nat) => open_k7 W (.slice a0 g.procs.length c0) (.slice a1 g.objs.length c1) (.slice a2 g.calls.length c2) ⟨_, _, _, rfl⟩ ⟨_, _, _, rfl⟩ g.calls hclA p)
  have x0 := cells_at e1 0 _ rfl
  have x1 := cells_at e1 1 _ rfl
  have x2 := cells_at e1 2 _ rfl
  have y0 := cells_at e2 0 _ rfl
  have y1 := cells_at e2 1 _ rfl
  have BW := hide bW
  have E1 := hide e1
  have E2 := hide e2
  have E3 := hide e3
  have HG := hide hgW
  have Z3 := hide z3
  clear hclA e1 e2 e3 bW b1 b2 b3 hgW z3
  have hk2 : (e.kind == 2) = true := by simp [hk]
  have hf := fnd_in hm
  have ho : opnR g.calls (g.procs.idxOf e.proc) g.calls.length = (cb : Int) := by unfold whoR at hw; rwa [if_pos hm] at hw
  rw [hf] at HFD
  have HOP2 := hide (HOP.out (g.procs.idxOf e.proc))
  rw [ho] at HOP2
  clear HOP hf ho hw hm hk
  have HOP := HOP2
  clear HOP2
  generalize g.procs.idxOf e.proc = ix at *
  have i0 : (0 : Int) ≤ (ix : Int) := by omega
  have j0 : (0 : Int) ≤ (cb : Int) := by omega
  have j1 : (cb : Int) < (g.calls.length : Int) := by omega
  obtain ⟨gc, cc, ec, lc, ltc⟩ := hg.cl.form (by omega)
  simp only [Value.slice.injEq, true_and] at ec
  obtain ⟨rfl, rfl⟩ := ec
  go_enter Tryz.func55, Tryz.ntmps55
  go_upto_region 8 with (first
    | (go_at_call 64; refine HFD.out.mono ?_; clear HFD; rintro r w9 ⟨rfl, rfl⟩)
    | (go_at_call 65; refine HOP.out.mono ?_; clear HOP; rintro r w2 ⟨rfl, b2⟩; have B2 := hide b2; have f1 := (b2.block w.heap.size (by have := Z3.out; omega)).trans E1.out; have f2 := (b2.block (w.heap.size + 1) (by have := Z3.out; omega)).trans E2.out; have u0 := cells_at f1 0 _ rfl; have u1 := cells_at f1 1 _ rfl; have u2 := cells_at f1 2 _ rfl; have t0 := cells_at f2 0 _ rfl; have F3 := hide ((b2.block (w.heap.size + 2) (by have := Z3.out; omega)).trans E3.out); have r0 := cells_at F3.out 0 _ rfl; have r1 := cells_at F3.out 1 _ rfl; have r2 := cells_at F3.out 2 _ rfl; have q0 := frozen_at F3.out 0; have q1 := frozen_at F3.out 1; have q2 := frozen_at F3.out 2; clear b2 f1 f2))
  have HG2 := hide (HG.out.below B2.out)
  have hb2 := B2.out.size
  have hz3 := Z3.out
  obtain ⟨x0', hx0⟩ : ∃ x0', rs[cb]'(by omega) = x0' := ⟨_, rfl⟩
  have hce : ∀ i v, (clOf x0')[i]? = some v → w2.cell? ⟨gc, cb * 15 + i, none⟩ = some v := fun i v h => by
    have hi15 : i < 15 := by
      have := (List.getElem?_eq_some_iff.1 h).1
      rwa [clOf_len] at this
    rw [HG2.out.cl.cellAt (cb * 15 + i) (by have := Nat.mul_le_mul_right 15 (show cb + 1 ≤ g.calls.length by omega); omega), crow_get rs cb (by omega) i hi15, hx0]
    exact h
  have p9 := hce 9 _ rfl
  have z9 := HG2.out.cl.frozenAt (cb * 15 + 9)
  have gne : gc < w.heap.size := ltc
  have HZ3 := hide hz3
  clear hz3
  go_upto_region 9 with (fail)
  obtain ⟨X1, hX1⟩ : ∃ X, w2.setCell ⟨gc, cb * 15 + 9, none⟩ (.int .i64 (at' : Int)) = X := ⟨_, rfl⟩
  have k1 : Keeps (fun x => x = gc) w2 X1 := by rw [← hX1]; exact Keeps.set _ _ _ _
  have row1 : X1.ownsRow h0 69 15 (.slice (some ⟨gc, 0, none⟩) g.calls.length c2) g.calls.length (crow (rs.set cb ({ x0'.1 with res := (at' : Int) }, x0'.2.1, x0'.2.2))) := by
    have s1 := (HG2.out.cl.stored (cb * 15 + 9) (.int .i64 (at' : Int))).1
    rw [crow_split rs cb (by omega), hx0, crow_set rs cb (by omega) _ (by rfl) 9 (by omega)] at s1
    rw [crow_with rs cb (by omega), ← hX1]
    exact s1
  rw [hX1]
  have zX := k1.size
  have hz3 := HZ3.out
  have hgz := hg.sz
  have f1 := (k1.block w.heap.size (by omega) (by omega)).trans ((B2.out.block _ (by omega)).trans E1.out)
  have f2 := (k1.block (w.heap.size + 1) (by omega) (by omega)).trans ((B2.out.block _ (by omega)).trans E2.out)
  have f3 := (k1.block (w.heap.size + 2) (by omega) (by omega)).trans F3.out
  have bX : Below h0 w X1 := (((trans_v BW.out B2.out).mono hgz)).trans (k1.toBelow (by omega) (fun x h => by omega))
  have HCP := hide (fun (U : World) (b : Below X1.heap.size X1 U) => refCopy_k e.val U n (.slice sa e.val.items.length sc) hz ((hi.below ((bX.trans (b.mono (by omega))).mono hB)).up (by have := b.size; omega)))
  have HSS := hide (fun (U : World) (b : Below X1.heap.size X1 U) => (show U.cell? ⟨w.heap.size, 2, none⟩ = some (.slice (some ⟨gc, 0, none⟩) g.calls.length c2) ∧ U.cell? ⟨w.heap.size + 1, 4, none⟩ = some (.int .i64 e.val.kind) ∧ U.cell? ⟨w.heap.size + 1, 5, none⟩ = some (.int .i64 e.val.int) ∧ U.cell? ⟨w.heap.size + 1, 6, none⟩ = some (.int .i64 e.val.im) ∧ U.cell? ⟨w.heap.size + 1, 7, none⟩ = some (.string e.val.text) ∧ U.cell? ⟨w.heap.size + 1, 8, none⟩ = some (.slice sa e.val.items.length sc) from by
    have h1 := (b.block _ (by omega)).trans f1
    have h2 := (b.block _ (by omega)).trans f2
    exact ⟨cells_at h1 2 _ rfl, cells_at h2 4 _ rfl, cells_at h2 5 _ rfl, cells_at h2 6 _ rfl, cells_at h2 7 _ rfl, cells_at h2 8 _ rfl⟩))
  have HS1 := hide (HSS.out X1.drew (drewB 1 X1))
  have ROW1 := hide row1
  have KX := hide k1
  have F1 := hide f1
  have F33 := hide f3
  have BX := hide bX
  clear hX1 p9 z9 hce row1 k1 f1 f2 f3 bX hz3
  refine wp_region_E 8 9 (fun U => U.cell? ⟨w.heap.size, 2, none⟩ = some (.slice (some ⟨gc, 0, none⟩) g.calls.length c2) ∧ U.cell? ⟨w.heap.size + 1, 4, none⟩ = some (.int .i64 e.val.kind) ∧ U.cell? ⟨w.heap.size + 1, 5, none⟩ = some (.int .i64 e.val.int) ∧ U.cell? ⟨w.heap.size + 1, 6, none⟩ = some (.int .i64 e.val.im) ∧ U.cell? ⟨w.heap.size + 1, 7, none⟩ = some (.string e.val.text) ∧ U.cell? ⟨w.heap.size + 1, 8, none⟩ = some (.slice sa e.val.items.length sc)) (by kernel_rfl) (by kernel_rfl) (by kernel_rfl) (by kernel_rfl) (by decide) (by kernel_rfl) ?_
  intro hsk inv
  refine wpAnyE_take (i := 0) (v := ?v0) hsk inv (by decide) rfl (by kernel_rfl) (by kernel_rfl) (fun _ _ _ h => h) (Or.inl ⟨by rfl, ?hy0⟩) HS1.out ?rest0
  case hy0 => intro U hSU; (try dsimp only at hSU); go_simp; (try with_reducible rfl)
  case rest0 =>
  clear inv
  intro inv
  (try simp only [Act.put, List.setIfInBounds_toArray])
  refine wpAnyE_take (i := 1) (v := ?v1) hsk inv (by decide) rfl (by kernel_rfl) (by kernel_rfl) (fun _ _ _ h => h) (Or.inl ⟨by rfl, ?hy1⟩) HS1.out ?rest1
  case hy1 => intro U hSU; (try dsimp only at hSU); go_simp; (try with_reducible rfl)
  case rest1 =>
  clear inv
  intro inv
  (try simp only [Act.put])
  refine wpAnyE_take (i := 2) (v := ?v2) hsk inv (by decide) rfl (by kernel_rfl) (by kernel_rfl) (fun _ _ _ h => h) (Or.inl ⟨by rfl, ?hy2⟩) HS1.out ?rest2
  case hy2 => intro U hSU; (try dsimp only at hSU); go_simp; (try with_reducible rfl)
  case rest2 =>
  clear inv
  intro inv
  (try simp only [Act.put])
  refine wpAnyE_take (i := 3) (v := ?v3) hsk inv (by decide) rfl (by kernel_rfl) (by kernel_rfl) (fun _ _ _ h => h) (Or.inl ⟨by rfl, ?hy3⟩) HS1.out ?rest3
  case hy3 => intro U hSU; (try dsimp only at hSU); go_simp; (try with_reducible rfl)
  case rest3 =>
  clear inv
  intro inv
  (try simp only [Act.put])
  refine wpAnyE_take (i := 4) (v := ?v4) hsk inv (by decide) rfl (by kernel_rfl) (by kernel_rfl) (fun _ _ _ h => h) (Or.inl ⟨by rfl, ?hy4⟩) HS1.out ?rest4
  case hy4 => intro U hSU; (try dsimp only at hSU); go_simp; (try with_reducible rfl)
  case rest4 =>
  clear inv
  intro inv
  (try simp only [Act.put])
  refine wpAnyE_one (i := 5) inv (by decide) (by kernel_rfl) rfl (fun K hK => ?_)
  go_simp
  go_at_call 38
  refine (HCP.out _ (drewB 1 X1)).mono ?_
  rintro r w4 ⟨s', rfl, hi4, _, hor4, b4⟩
  have bX4 : Below X1.heap.size X1 w4 := trans_v (drewB 1 X1) b4
  have HS4 := hide (HSS.out w4 bX4)
  obtain ⟨s1', s3', rfl, _⟩ := hi4.len
  have r4 := (Keeps.below (M := fun _ => False) bX4).row ROW1.out (fun _ _ h => h)
  have R4 := hide r4
  have HI4 := hide hi4
  have HO4 := hide hor4
  have B4 := hide bX4
  have hlen4 : (rs.set cb ({ x0'.1 with res := (at' : Int) }, x0'.2.1, x0'.2.2)).length = rs.length := List.length_set
  have hce4 : ∀ i v, (clOf (({ x0'.1 with res := (at' : Int) }, x0'.2.1, x0'.2.2) : CV))[i]? = some v → w4.cell? ⟨gc, cb * 15 + i, none⟩ = some v := fun i v h => by
    have hi15 : i < 15 := by
      have := (List.getElem?_eq_some_iff.1 h).1
      rwa [clOf_len] at this
    rw [R4.out.cellAt (cb * 15 + i) (by have := Nat.mul_le_mul_right 15 (show cb + 1 ≤ g.calls.length by omega); omega), crow_get _ cb (by omega) i hi15, List.getElem_set_self]
    exact h
  have p10 := hce4 10 _ rfl
  have p11 := hce4 11 _ rfl
  have p12 := hce4 12 _ rfl
  have p13 := hce4 13 _ rfl
  have p14 := hce4 14 _ rfl
  have z10 := R4.out.frozenAt (cb * 15 + 10)
  have z11 := R4.out.frozenAt (cb * 15 + 11)
  have z12 := R4.out.frozenAt (cb * 15 + 12)
  have z13 := R4.out.frozenAt (cb * 15 + 13)
  have z14 := R4.out.frozenAt (cb * 15 + 14)
  clear hce4 r4 hi4 hor4 bX4 b4
  refine hK.out _ _ HS4.out ?_
  clear hK K inv
  intro inv
  (try simp only [Act.put, List.setIfInBounds_toArray, List.set_cons_zero, List.set_cons_succ])
  refine wpAnyE_take (i := 6) (v := ?v6) hsk inv (by decide) rfl (by kernel_rfl) (by kernel_rfl) (fun _ _ _ h => h) (Or.inl ⟨by rfl, ?hy6⟩) HS4.out ?rest6
  case hy6 => intro U hSU; (try dsimp only at hSU); go_simp; (try with_reducible rfl)
  case rest6 =>
  clear inv
  intro inv
  (try simp only [Act.put, List.setIfInBounds_toArray])
  refine wpAnyE_take (i := 7) (v := ?v7) hsk inv (by decide) rfl (by kernel_rfl) (by kernel_rfl) (fun _ _ _ h => h) (Or.inl ⟨by rfl, ?hy7⟩) HS4.out ?rest7
  case hy7 => intro U hSU; (try dsimp only at hSU); go_simp; (try with_reducible rfl)
  case rest7 =>
  clear inv
  intro inv
  (try simp only [Act.put])
  refine wpAnyE_last (by kernel_rfl) (by kernel_rfl) rfl (fun K hK => ?_)
  go_simp
  refine hK.out _ _ ?_
  clear hK K
  obtain ⟨X6, hX6⟩ : ∃ X, ((((w4.setCell ⟨gc, cb * 15 + 10, none⟩ (.int .i64 e.val.kind)).setCell ⟨gc, cb * 15 + 10 + 1, none⟩ (.int .i64 e.val.int)).setCell ⟨gc, cb * 15 + 10 + 2, none⟩ (.int .i64 e.val.im)).setCell ⟨gc, cb * 15 + 10 + 3, none⟩ (.string e.val.text)).setCell ⟨gc, cb * 15 + 10 + 4, none⟩ (.slice s1' e.val.items.length s3') = X := ⟨_, rfl⟩
  obtain ⟨row6, k6⟩ := crow_put5 R4.out cb 10 (by rw [hlen4]; omega) (by omega) e.val (.slice s1' e.val.items.length s3') ({ x0'.1 with res := (at' : Int), reply := e.val }, x0'.2.1, .slice s1' e.val.items.length s3') (by rw [List.getElem_set_self]; rfl)
  rw [List.set_set] at row6
  rw [hX6] at row6 k6
  rw [hX6]
  clear hX6 p10 p11 p12 p13 p14 z10 z11 z12 z13 z14
  have z4 := B4.out.size
  have z6 := k6.size
  have hz3 := HZ3.out
  have g1 := (k6.block w.heap.size (by omega) (by omega)).trans ((B4.out.block _ (by omega)).trans F1.out)
  have F3' := hide ((k6.block (w.heap.size + 2) (by omega) (by omega)).trans ((B4.out.block _ (by omega)).trans F33.out))
  clear F3
  have F3 := F3'
  clear F3'
  clear u0 u1 u2 r0 r1 r2 q0 q1 q2
  have u0 := cells_at g1 0 _ rfl
  have u1 := cells_at g1 1 _ rfl
  have u2 := cells_at g1 2 _ rfl
  have r0 := cells_at F3.out 0 _ rfl
  have r1 := cells_at F3.out 1 _ rfl
  have r2 := cells_at F3.out 2 _ rfl
  have q0 := frozen_at F3.out 0
  have q1 := frozen_at F3.out 1
  have q2 := frozen_at F3.out 2
  have ROW6 := hide row6
  have K6 := hide k6
  have HX0 := hide hx0
  have HL4 := hide hlen4
  clear g1 row6 k6 hz3 hx0 hlen4
  go_wp2
  have g1 := heap_setCell_same _ _ 0 _ _ (.slice a0 g.procs.length c0) F3.out
  have g2 := heap_setCell_same _ _ 1 _ _ (.slice a1 g.objs.length c1) g1
  have g3 := heap_setCell_same _ _ 2 _ _ (.slice (some ⟨gc, 0, none⟩) g.calls.length c2) g2
  refine bodyPost_ret (results_struct_tmpH rfl _ _ (w.heap.size + 2) _ _ _ _ rfl g3 Tryz.underlying25 rfl infoPast) rfl ?_
  have kp := ((Keeps.set X6 (w.heap.size + 2) 0 (.slice a0 g.procs.length c0)).trans (Keeps.set _ (w.heap.size + 2) 1 (.slice a1 g.objs.length c1)) (fun _ _ h => h)).trans (Keeps.set _ (w.heap.size + 2) 2 (.slice (some ⟨gc, 0, none⟩) g.calls.length c2)) (fun _ _ h => h)
  have hz3 := HZ3.out
  have kw : Keeps (fun x => x = gc) w2 X6 := (KX.out.trans (Keeps.below (M := fun _ => False) B4.out) (fun _ _ h => h.elim)).trans K6.out (fun _ _ h => h)
  have b46 : Below h0 w X6 := (BX.out.trans (B4.out.mono (by omega))).trans (K6.out.toBelow (by omega) (fun x h => by omega))
  have hrow : X6.ownsRow h0 69 15 (.slice (some ⟨gc, 0, none⟩) g.calls.length c2) g.calls.length (crow (rs.set cb ({ (rs[cb]'(by omega)).1 with res := (at' : Int), reply := e.val }, (rs[cb]'(by omega)).2.1, .slice s1' e.val.items.length s3'))) := by rw [HX0.out]; exact ROW6.out
  have hnr : ∀ {v : Value} {t : TypeId} {z m : Nat} {xs : List Value}, w.ownsRow h0 t z v m xs → ∀ b, (b < h0 ∨ X1.heap.size ≤ b) → v.ownBlock ≠ some b := fun hr b hb ex => by
    have := hr.lt b ex
    omega
  have hI : ∀ b, I b → b < w.heap.size := fun b hb => (hg.no b hb).1
  have hne2 : ∀ {v : Value} {t : TypeId} {z m : Nat} {xs : List Value}, w.ownsRow h0 t z v m xs → v.ownBlock ≠ some (w.heap.size + 2) := fun hr ex => by
    have := (hr.lt _ ex).2
    omega
  refine ⟨?_, b46.trans (kp.toBelow (by omega) (fun x h => by omega))⟩
  rcases HO4.out with hs | hs
  · have hin : ItemsIn X6 (fun b => b < B) n (.slice s1' e.val.items.length s3') e.val.items := by rw [hs]; exact (hi.below (b46.mono hB)).toIn
    have ha := HG2.out.answered cb at' (by omega) e.val _ kw hrow hin (fun b hb => ⟨by omega, hnr hg.pr b (.inl (by omega)), hnr hg.ob b (.inl (by omega)), hnr hg.cl b (.inl (by omega))⟩) hok hz
    have hfin := ha.keep kp (fun h => by rcases h with h | h; (have := hI _ h; omega); omega) (hne2 hg.pr) (hne2 hg.ob) (hne2 hg.cl)
    have hI2 : ∀ b, (I b ∨ b < B) → I b ∨ b < B ∨ w.heap.size ≤ b := fun b h => by rcases h with h | h; exact .inl h; first | exact .inr (.inl h) | exact .inr (.inr (by omega))
    first | exact ⟨_, _, _, _, _, rfl, hfin, hI2⟩ | exact ⟨_, _, _, rfl, _, _, hfin, hI2⟩ | exact ⟨_, _, _, rfl, _, ⟨_, hfin⟩, hI2⟩
  · have hin : ItemsIn X6 (fun b => X1.heap.size ≤ b ∧ b < w4.heap.size) n (.slice s1' e.val.items.length s3') e.val.items := hs.kept (fun b o hb => cell_block (K6.out.block b hb.2 (fun e => by have : X1.heap.size ≤ b := hb.1; omega)) o) (fun _ hb => hb)
    have ha := HG2.out.answered cb at' (by omega) e.val _ kw hrow hin (fun b hb => ⟨by omega, hnr hg.pr b (.inr hb.1), hnr hg.ob b (.inr hb.1), hnr hg.cl b (.inr hb.1)⟩) hok hz
    have hfin := ha.keep kp (fun h => by rcases h with h | h; (have := hI _ h; omega); omega) (hne2 hg.pr) (hne2 hg.ob) (hne2 hg.cl)
    have hI2 : ∀ b, (I b ∨ X1.heap.size ≤ b ∧ b < w4.heap.size) → I b ∨ b < B ∨ w.heap.size ≤ b := fun b h => by rcases h with h | h; exact .inl h; first | exact .inr (.inl h) | exact .inr (.inr (by omega))
    first | exact ⟨_, _, _, _, _, rfl, hfin, hI2⟩ | exact ⟨_, _, _, rfl, _, _, hfin, hI2⟩ | exact ⟨_, _, _, rfl, _, ⟨_, hfin⟩, hI2⟩
end Go.Proofs.YtnmkggoampkekaaGreatDoor

/- The reference's add of an invocation. -/
namespace Go.Proofs.YtnmkggoampkekaaGreatDoor
open Go.RowKit Go.Maps

set_option maxRecDepth 100000 in
set_option maxHeartbeats 8000000 in
theorem addInv1_k (e : Evn) (at' : Nat) (w : World) (h0 n : Nat) (I : Nat → Prop) (g : Gs) (v0 v1 v2 : Value) (rs : List CV) (s : Value) (B : Nat) (hB : B ≤ h0) (hg : RAt w h0 (n + 1) I g v0 v1 v2 rs) (hi : ItemsAt w B (n + 1) s e.val.items) (he : EvOk e) (hz : e.val.size ≤ 1000000000) (hl0 : g.procs.length + 1 ≤ 1000000000) (hl1 : g.objs.length + 1 ≤ 1000000000) (hl2 : g.calls.length + 1 ≤ 1000000000) (hk : e.kind = 1) (hw : whoR g e.proc = -1) (hm : e.proc ∈ g.procs) (hmo : e.obj ∈ g.objs) :
    Calls Tryz.prog 55 #[.agg #[v0, v1, v2], .agg (evCells e s), .int .i64 (at' : Int)] w fun r w' => (∃ u0 u1 u2 I' rs', r = .returned (.tuple #[.agg #[u0, u1, u2], .int .i64 0]) ∧ RAt w' h0 (n + 1) I' { g with procs := addN g.procs e.proc, objs := addN g.objs e.obj, calls := g.calls ++ [⟨g.procs.idxOf e.proc, g.objs.idxOf e.obj, e.op, e.val, at', -1, zeroVl⟩] } u0 u1 u2 rs' ∧ ∀ b, I' b → I b ∨ b < B ∨ w.heap.size ≤ b) ∧ Below h0 w w' := by
  have hrl : rs.length = g.calls.length := by have := congrArg List.length hg.same; simpa using this
  obtain ⟨a0, c0, rfl⟩ := rowLen hg.pr
  obtain ⟨a1, c1, rfl⟩ := rowLen hg.ob
  obtain ⟨a2, c2, rfl⟩ := rowLen hg.cl
  obtain ⟨sa, sc, rfl, _⟩ := hi.len
  obtain ⟨W1, hW1⟩ : ∃ W, w.alloc (.cells #[.slice a0 g.procs.length c0, .slice a1 g.objs.length c1, .slice a2 g.calls.length c2] 25) = W := ⟨_, rfl⟩
  obtain ⟨W2, hW2⟩ : ∃ W, W1.alloc (.cells (evCells e (.slice sa e.val.items.length sc)) 61) = W := ⟨_, rfl⟩
  obtain ⟨W, hW⟩ : ∃ W, W2.alloc (.cells #[.slice none 0 0, .slice none 0 0, .slice none 0 0] 25) = W := ⟨_, rfl⟩
  have b1 : Below w.heap.size w W1 := by rw [← hW1]; exact alloc_v (Below.refl _ _) _
  have b2 : Below W1.heap.size W1 W2 := by rw [← hW2]; exact alloc_v (Below.refl _ _) _
  have b3 : Below W2.heap.size W2 W := by rw [← hW]; exact alloc_v (Below.refl _ _) _
  have z1 : W1.heap.size = w.heap.size + 1 := by rw [← hW1]; simp
  have z2 : W2.heap.size = w.heap.size + 2 := by rw [← hW2]; simp [z1]
  have z3 : W.heap.size = w.heap.size + 3 := by rw [← hW]; simp [z2]
  have bW := trans_v (trans_v b1 b2) b3
  have e1 : W.heap[w.heap.size]? = some (.cells #[.slice a0 g.procs.length c0, .slice a1 g.objs.length c1, .slice a2 g.calls.length c2] 25 (0, 0)) := by
    refine (b3.block _ (by omega)).trans ((b2.block _ (by omega)).trans ?_)
    rw [← hW1]; exact World.alloc_heap_new w _
  have e2 : W.heap[w.heap.size + 1]? = some (.cells (evCells e (.slice sa e.val.items.length sc)) 61 (0, 0)) := by
    refine (b3.block _ (by omega)).trans ?_
    rw [← hW2, ← z1]; exact World.alloc_heap_new W1 _
  have e3 : W.heap[w.heap.size + 2]? = some (.cells #[.slice none 0 0, .slice none 0 0, .slice none 0 0] 25 (0, 0)) := by rw [← hW, ← z2]; exact World.alloc_heap_new W2 _
  have hgW := hg.below bW
  have HFD := hide (find_k7 g.procs e.proc W _ _ (NamesAt.row hgW.pr (by omega)) (Nat.le_refl _))
  have hclA : ClAt W W.heap.size (.slice a2 g.calls.length c2) g.calls := by
    have h1 := hgW.cl
    rw [← hrl] at h1
    have h2 := (HvsAt.row h1 (by omega)).cl
    rw [hg.same, hrl] at h2
    exact h2
  have HOP := hide (fun (p : Nat) => open_k7 W (.slice a0 g.procs.length c0) (.slice a1 g.objs.length c1) (.slice a2 g.calls.length c2) ⟨_, _, _, rfl⟩ ⟨_, _, _, rfl⟩ g.calls hclA p)
  have x0 := cells_at e1 0 _ rfl
  have x1 := cells_at e1 1 _ rfl
  have x2 := cells_at e1 2 _ rfl
  have y0 := cells_at e2 0 _ rfl
  have y1 := cells_at e2 1 _ rfl
  have BW := hide bW
  have E1 := hide e1
  have E2 := hide e2
  have E3 := hide e3
  have HG := hide hgW
  have Z3 := hide z3
  clear hclA e1 e2 e3 bW b1 b2 b3 hgW z3
  have hk2 : (e.kind == 2) = false := by simp [hk]
  have hgz := hg.sz
  have hf := fnd_in hm
  have ho : opnR g.calls (g.procs.idxOf e.proc) g.calls.length = -1 := by unfold whoR at hw; rwa [if_pos hm] at hw
  have hadd : addN g.procs e.proc = g.procs := if_pos hm
  rw [hf] at HFD
  have HOP2 := hide (HOP.out (g.procs.idxOf e.proc))
  rw [ho] at HOP2
  clear HOP hf ho
  have HOP := HOP2
  clear HOP2
  have HADD := hide hadd
  clear hadd hw hm hk
  obtain ⟨ix, hix⟩ : ∃ ix, g.procs.idxOf e.proc = ix := ⟨_, rfl⟩
  rw [hix] at HFD HOP
  have HIX := hide hix
  clear hix
  have i0 : (0 : Int) ≤ (ix : Int) := by omega
  have hfo := fnd_in hmo
  have haddo : addN g.objs e.obj = g.objs := if_pos hmo
  obtain ⟨jx, hjx⟩ : ∃ jx, g.objs.idxOf e.obj = jx := ⟨_, rfl⟩
  rw [hjx] at hfo
  have HJX := hide hjx
  have j0 : (0 : Int) ≤ (jx : Int) := by omega
  have HADO := hide haddo
  have HFO := hide hfo
  clear haddo hmo hjx hfo
  go_enter Tryz.func55, Tryz.ntmps55
  go_upto_region 16 with (first
    | (go_at_call 64; refine HFD.out.mono ?_; clear HFD; rintro r w9 ⟨rfl, rfl⟩)
    | (go_at_call 65; refine HOP.out.mono ?_; clear HOP; rintro r U ⟨rfl, b2⟩; have B2 := hide b2; have f2 := (b2.block (w.heap.size + 1) (by have := Z3.out; omega)).trans E2.out; have t0 := cells_at f2 0 _ rfl; clear b2 f2))
  have zU := B2.out.size
  have hz3 := Z3.out
  have bwU : Below h0 w U := (trans_v BW.out B2.out).mono hgz
  have G1 := hide (HG.out.below B2.out)
  have P1 := hide ((B2.out.block w.heap.size (by omega)).trans E1.out)
  have V1 := hide ((B2.out.block (w.heap.size + 1) (by omega)).trans E2.out)
  have R1 := hide ((B2.out.block (w.heap.size + 2) (by omega)).trans E3.out)
  have BU := hide bwU
  have NI := hide (fun b (hb : I b) => (hg.no b hb).1)
  have NE0 : Hid (∀ b, w.heap.size ≤ b → b < w.heap.size + 3 → (Value.slice a0 g.procs.length c0).ownBlock ≠ some b) := hide (fun b h1 h2 ex => by have := (hg.pr.lt _ ex).2; omega)
  clear x0 x1 x2 y0 y1 t0 bwU
  have P2 : Hid (U.heap[w.heap.size]? = some (.cells #[.slice a0 g.procs.length c0, .slice a1 g.objs.length c1, .slice a2 g.calls.length c2] 25 (0, 0))) := hide P1.out
  have zU3 : w.heap.size + 3 ≤ U.heap.size := by have := Z3.out; omega
  clear zU P1
  have HFD2 := hide (find_k7 g.objs e.obj U _ _ (NamesAt.row G1.out.ob (by omega)) (Nat.le_refl _))
  rw [HFO.out] at HFD2
  have x1 := cells_at P2.out 1 _ rfl
  have y2 := cells_at V1.out 2 _ rfl
  clear hz3
  go_upto_region 20 with (go_at_call 64; refine HFD2.out.mono ?_; clear HFD2; rintro r w9 ⟨rfl, rfl⟩)
  clear x1 y2
  have NE1 : Hid (∀ b, w.heap.size ≤ b → b < w.heap.size + 3 → (Value.slice a1 g.objs.length c1).ownBlock ≠ some b) := hide (fun b h1 h2 ex => by have := (hg.ob.lt _ ex).2; omega)
  have P3 := P2
  have G3 := G1
  have V3 := V1
  have R3 := R1
  have BV := BU
  obtain ⟨V, hV⟩ : ∃ V, U = V := ⟨_, rfl⟩
  rw [hV] at P3 G3 V3 R3 BV zU3
  rw [hV]
  clear hV P2 G1 V1 R1 BU
  have hgV := G3.out.sz
  have HCP := hide (fun (X : World) (b : Below V.heap.size V X) => refCopy_k e.val X (n + 1) (.slice sa e.val.items.length sc) hz ((hi.below ((BV.out.trans (b.mono (by omega))).mono hB)).up (by have := b.size; omega)))
  have HSS := hide (fun (U : World) (hp : U.heap[w.heap.size]? = V.heap[w.heap.size]?) (hv : U.heap[w.heap.size + 1]? = V.heap[w.heap.size + 1]?) => (show U.cell? ⟨w.heap.size, 2, none⟩ = some (.slice a2 g.calls.length c2) ∧ U.cell? ⟨w.heap.size + 1, 3, none⟩ = some (.string (bsN e.op)) ∧ U.cell? ⟨w.heap.size + 1, 4, none⟩ = some (.int .i64 e.val.kind) ∧ U.cell? ⟨w.heap.size + 1, 5, none⟩ = some (.int .i64 e.val.int) ∧ U.cell? ⟨w.heap.size + 1, 6, none⟩ = some (.int .i64 e.val.im) ∧ U.cell? ⟨w.heap.size + 1, 7, none⟩ = some (.string e.val.text) ∧ U.cell? ⟨w.heap.size + 1, 8, none⟩ = some (.slice sa e.val.items.length sc) from by
    have h1 := hp.trans P3.out
    have h2 := hv.trans V3.out
    exact ⟨cells_at h1 2 _ rfl, cells_at h2 3 _ rfl, cells_at h2 4 _ rfl, cells_at h2 5 _ rfl, cells_at h2 6 _ rfl, cells_at h2 7 _ rfl, cells_at h2 8 _ rfl⟩))
  have HS1 := hide (HSS.out V.drew rfl rfl)
  refine wp_region_E 14 15 (fun U => U.cell? ⟨w.heap.size, 2, none⟩ = some (.slice a2 g.calls.length c2) ∧ U.cell? ⟨w.heap.size + 1, 3, none⟩ = some (.string (bsN e.op)) ∧ U.cell? ⟨w.heap.size + 1, 4, none⟩ = some (.int .i64 e.val.kind) ∧ U.cell? ⟨w.heap.size + 1, 5, none⟩ = some (.int .i64 e.val.int) ∧ U.cell? ⟨w.heap.size + 1, 6, none⟩ = some (.int .i64 e.val.im) ∧ U.cell? ⟨w.heap.size + 1, 7, none⟩ = some (.string e.val.text) ∧ U.cell? ⟨w.heap.size + 1, 8, none⟩ = some (.slice sa e.val.items.length sc)) (by kernel_rfl) (by kernel_rfl) (by kernel_rfl) (by kernel_rfl) (by decide) (by kernel_rfl) ?_
  intro hsk inv
  refine wpAnyE_take (i := 0) (v := ?v0) hsk inv (by decide) rfl (by kernel_rfl) (by kernel_rfl) (fun _ _ _ h => h) (Or.inl ⟨by rfl, ?hy0⟩) HS1.out ?rest0
  case hy0 => intro U hSU; (try dsimp only at hSU); go_simp; (try with_reducible rfl)
  case rest0 =>
  clear inv
  intro inv
  (try simp only [Act.put, List.setIfInBounds_toArray])
  refine wpAnyE_take (i := 1) (v := ?v1) hsk inv (by decide) rfl (by kernel_rfl) (by kernel_rfl) (fun _ _ _ h => h) (Or.inl ⟨by rfl, ?hy1⟩) HS1.out ?rest1
  case hy1 => intro U hSU; (try dsimp only at hSU); go_simp; (try with_reducible rfl)
  case rest1 =>
  clear inv
  intro inv
  (try simp only [Act.put])
  refine wpAnyE_take (i := 2) (v := ?v2) hsk inv (by decide) rfl (by kernel_rfl) (by kernel_rfl) (fun _ _ _ h => h) (Or.inl ⟨by rfl, ?hy2⟩) HS1.out ?rest2
  case hy2 => intro U hSU; (try dsimp only at hSU); go_simp; (try with_reducible rfl)
  case rest2 =>
  clear inv
  intro inv
  (try simp only [Act.put])
  refine wpAnyE_take (i := 3) (v := ?v3) hsk inv (by decide) rfl (by kernel_rfl) (by kernel_rfl) (fun _ _ _ h => h) (Or.inl ⟨by rfl, ?hy3⟩) HS1.out ?rest3
  case hy3 => intro U hSU; (try dsimp only at hSU); go_simp; (try with_reducible rfl)
  case rest3 =>
  clear inv
  intro inv
  (try simp only [Act.put])
  refine wpAnyE_take (i := 4) (v := ?v4) hsk inv (by decide) rfl (by kernel_rfl) (by kernel_rfl) (fun _ _ _ h => h) (Or.inl ⟨by rfl, ?hy4⟩) HS1.out ?rest4
  case hy4 => intro U hSU; (try dsimp only at hSU); go_simp; (try with_reducible rfl)
  case rest4 =>
  clear inv
  intro inv
  (try simp only [Act.put])
  refine wpAnyE_take (i := 5) (v := ?v5) hsk inv (by decide) rfl (by kernel_rfl) (by kernel_rfl) (fun _ _ _ h => h) (Or.inl ⟨by rfl, ?hy5⟩) HS1.out ?rest5
  case hy5 => intro U hSU; (try dsimp only at hSU); go_simp; (try with_reducible rfl)
  case rest5 =>
  clear inv
  intro inv
  (try simp only [Act.put])
  refine wpAnyE_take (i := 6) (v := ?v6) hsk inv (by decide) rfl (by kernel_rfl) (by kernel_rfl) (fun _ _ _ h => h) (Or.inl ⟨by rfl, ?hy6⟩) HS1.out ?rest6
  case hy6 => intro U hSU; (try dsimp only at hSU); go_simp; (try with_reducible rfl)
  case rest6 =>
  clear inv
  intro inv
  (try simp only [Act.put])
  refine wpAnyE_take (i := 7) (v := ?v7) hsk inv (by decide) rfl (by kernel_rfl) (by kernel_rfl) (fun _ _ _ h => h) (Or.inl ⟨by rfl, ?hy7⟩) HS1.out ?rest7
  case hy7 => intro U hSU; (try dsimp only at hSU); go_simp; (try with_reducible rfl)
  case rest7 =>
  clear inv
  intro inv
  (try simp only [Act.put])
  refine wpAnyE_take (i := 9) (v := ?v9) hsk inv (by decide) rfl (by kernel_rfl) (by kernel_rfl) (fun _ _ _ h => h) (Or.inl ⟨by rfl, ?hy9⟩) HS1.out ?rest9
  case hy9 => intro U hSU; (try dsimp only at hSU); go_simp; (try with_reducible rfl)
  case rest9 =>
  clear inv
  intro inv
  (try simp only [Act.put])
  refine wpAnyE_one (i := 8) inv (by decide) (by kernel_rfl) rfl (fun K hK => ?_)
  go_simp
  go_at_call 38
  refine (HCP.out _ (drewB 1 V)).mono ?_
  rintro r w4 ⟨s', rfl, hi4, _, hor4, b4⟩
  have bV4 : Below V.heap.size V w4 := trans_v (drewB 1 V) b4
  have z4 := bV4.size
  have HS4 := hide (HSS.out w4 (bV4.block _ (by omega)) (bV4.block _ (by omega)))
  obtain ⟨s1', s3', rfl, _⟩ := hi4.len
  have g4 := G3.out.below bV4
  obtain ⟨q5, cap5, w5, hrun, r5, gr5, lie5⟩ := callPush g4.cl (by omega) hl2 (⟨ix, jx, e.op, e.val, at', -1, zeroVl⟩, .slice s1' e.val.items.length s3', .slice none 0 0) 23 ⟨_, _, _, rfl⟩ ⟨_, _, _, rfl⟩
  have HRUN := hide hrun
  have HOR := hide hor4
  have G4 := hide g4
  have B4 := hide bV4
  have R5 := hide (And.intro r5 (And.intro gr5 lie5))
  have hneq : ∀ b, w.heap.size ≤ b → b < w.heap.size + 3 → (Value.slice a2 g.calls.length c2).ownBlock ≠ some b := fun b h1 h2 ex => by have := (hg.cl.lt _ ex).2; omega
  have p5 := gr5.block w.heap.size (by omega) (fun h => hneq _ (Nat.le_refl _) (by omega) h.symm)
  have v5 := gr5.block (w.heap.size + 1) (by omega) (fun h => hneq _ (by omega) (by omega) h.symm)
  have s5 := gr5.block (w.heap.size + 2) (by omega) (fun h => hneq _ (by omega) (by omega) h.symm)
  have P5 := hide (p5.trans ((bV4.block _ (by omega)).trans P3.out))
  have RR5 := hide (s5.trans ((bV4.block _ (by omega)).trans R3.out))
  have HS6 := hide (HSS.out w5 (p5.trans (bV4.block _ (by omega))) (v5.trans (bV4.block _ (by omega))))
  have bA : Below w4.heap.size w4 (w4.alloc (.cells ⟨clOf (⟨ix, jx, e.op, e.val, at', -1, zeroVl⟩, .slice s1' e.val.items.length s3', .slice none 0 0)⟩ 69)) := alloc_v (Below.refl _ _) _
  have HS5 := hide (HSS.out (w4.alloc (.cells ⟨clOf (⟨ix, jx, e.op, e.val, at', -1, zeroVl⟩, .slice s1' e.val.items.length s3', .slice none 0 0)⟩ 69)) ((bA.block _ (by omega)).trans (bV4.block _ (by omega))) ((bA.block _ (by omega)).trans (bV4.block _ (by omega))))
  have m0 := cells_at P5.out 0 _ rfl
  have m1 := cells_at P5.out 1 _ rfl
  have m2 := cells_at P5.out 2 _ rfl
  have mf := frozen_at P5.out 2
  have HNQ := hide hneq
  clear hi4 hor4 b4 bV4 g4 hrun r5 gr5 lie5 p5 v5 s5 bA hneq
  refine hK.out _ _ HS4.out ?_
  clear hK K inv
  intro inv
  (try simp only [Act.put, List.setIfInBounds_toArray, List.set_cons_zero, List.set_cons_succ])
  refine wpAnyE_take (i := 10) (v := ?v10) hsk inv (by decide) rfl (by kernel_rfl) (by kernel_rfl) (fun _ _ _ h => h) (Or.inl ⟨by rfl, ?hy10⟩) HS4.out ?rest10
  case hy10 => intro U hSU; (try dsimp only at hSU); go_simp; (try with_reducible rfl)
  case rest10 =>
  clear inv
  intro inv
  (try simp only [Act.put, List.setIfInBounds_toArray])
  refine wpAnyE_one (i := 11) inv (by decide) (by kernel_rfl) rfl (fun K hK => ?_)
  go_simp
  refine hK.out _ _ HS5.out ?_
  clear hK K inv
  intro inv
  (try simp only [Act.put, List.setIfInBounds_toArray, List.set_cons_zero, List.set_cons_succ])
  refine wpAnyE_one (i := 12) inv (by decide) (by kernel_rfl) rfl (fun K hK => ?_)
  refine step_ex _ (by rfl) (.tmp 75) (.tmp 85) 23 (by rfl) _ _ (by rfl) (by rfl) (fun v' w' => v' = .slice (some ⟨q5, 0, none⟩) (g.calls.length + 1) cap5 ∧ w' = w5) ⟨_, _, HRUN.out, rfl, rfl⟩ ?_
  rintro v4 w6 ⟨rfl, rfl⟩
  refine hK.out _ _ HS6.out ?_
  clear hK K inv HRUN
  intro inv
  (try simp only [Act.put, List.setIfInBounds_toArray])
  refine wpAnyE_take (i := 13) (v := ?v13) hsk inv (by decide) rfl (by kernel_rfl) (by kernel_rfl) (fun _ _ _ h => h) (Or.inl ⟨by rfl, ?hy13⟩) HS6.out ?rest13
  case hy13 => intro U hSU; (try dsimp only at hSU); go_simp; (try with_reducible rfl)
  case rest13 =>
  clear inv
  intro inv
  (try simp only [Act.put])
  refine wpAnyE_last (by kernel_rfl) (by kernel_rfl) rfl (fun K hK => ?_)
  go_simp
  refine hK.out _ _ ?_
  clear hK K
  obtain ⟨X, hX⟩ : ∃ X, w6.setCell ⟨w.heap.size, 2, none⟩ (.slice (some ⟨q5, 0, none⟩) (g.calls.length + 1) cap5) = X := ⟨_, rfl⟩
  have P6 := heap_setCell_same _ _ 2 _ _ (.slice (some ⟨q5, 0, none⟩) (g.calls.length + 1) cap5) P5.out
  have kS := Keeps.set w6 w.heap.size 2 (.slice (some ⟨q5, 0, none⟩) (g.calls.length + 1) cap5)
  rw [hX] at P6 kS
  rw [hX]
  clear hX m0 m1 m2 mf
  have zz4 := B4.out.size
  have zz6 := R5.out.2.1.size
  have zzX := kS.size
  have F3 := hide ((kS.block (w.heap.size + 2) (by omega) (by omega)).trans RR5.out)
  have u0 := cells_at P6 0 _ rfl
  have u1 := cells_at P6 1 _ rfl
  have u2 := cells_at P6 2 _ rfl
  have r0 := cells_at F3.out 0 _ rfl
  have r1 := cells_at F3.out 1 _ rfl
  have r2 := cells_at F3.out 2 _ rfl
  have q0 := frozen_at F3.out 0
  have q1 := frozen_at F3.out 1
  have q2 := frozen_at F3.out 2
  have KS := hide kS
  clear P6 kS
  go_wp2
  have g1 := heap_setCell_same _ _ 0 _ _ (.slice a0 g.procs.length c0) F3.out
  have g2 := heap_setCell_same _ _ 1 _ _ (.slice a1 g.objs.length c1) g1
  have g3 := heap_setCell_same _ _ 2 _ _ (.slice (some ⟨q5, 0, none⟩) (g.calls.length + 1) cap5) g2
  refine bodyPost_ret (results_struct_tmpH rfl _ _ (w.heap.size + 2) _ _ _ _ rfl g3 Tryz.underlying25 rfl infoPast) rfl ?_
  have kp := ((Keeps.set X (w.heap.size + 2) 0 (.slice a0 g.procs.length c0)).trans (Keeps.set _ (w.heap.size + 2) 1 (.slice a1 g.objs.length c1)) (fun _ _ h => h)).trans (Keeps.set _ (w.heap.size + 2) 2 (.slice (some ⟨q5, 0, none⟩) (g.calls.length + 1) cap5)) (fun _ _ h => h)
  obtain ⟨r5, gr5, lie5⟩ := R5.out
  have bl6 : Below h0 w4 w6 := (Keeps.grown (M := fun y => (Value.slice a2 g.calls.length c2).ownBlock = some y) gr5 (fun r e => e)).toBelow (by omega) (fun x h => (hg.cl.lt x h).1)
  have b4w : Below h0 w w4 := BV.out.trans (B4.out.mono (by omega))
  have bX : Below h0 w X := (b4w.trans bl6).trans (KS.out.toBelow (by omega) (fun x h => by omega))
  have hnr : ∀ {v : Value} {t : TypeId} {z m : Nat} {xs : List Value}, V.ownsRow h0 t z v m xs → ∀ b, (b < h0 ∨ V.heap.size ≤ b) → v.ownBlock ≠ some b := fun hr b hb ex => by
    have := hr.lt b ex
    omega
  have NE2 : ∀ b, w.heap.size ≤ b → b < w.heap.size + 3 → (Value.slice (some ⟨q5, 0, none⟩) (g.calls.length + 1) cap5).ownBlock ≠ some b := fun b h1 h2 ex => by
    have e' : q5 = b := Option.some.inj ex
    rcases lie5 with l | l
    · exact HNQ.out b h1 h2 (by rw [l, e'])
    · omega
  have hzi : ∀ J : Nat → Prop, ItemsIn w4 J (n + 1) (.slice none 0 0) zeroVl.items := fun J => ⟨none, 0, rfl, by simp [zeroVl], fun j h => absurd h (by simp [zeroVl])⟩
  have hzok : zeroVl.ok := by refine ⟨by show 0 ≤ 1048576; omega, ?_, ?_⟩ <;> (show (-9223372036854775808 : Int) ≤ 0 ∧ (0 : Int) ≤ 9223372036854775807; omega)
  have hzz : zeroVl.size ≤ 1000000000 := by rw [Vl.size_eq]; simp [zeroVl]
  refine ⟨?_, bX.trans (kp.toBelow (by omega) (fun x h => by omega))⟩
  rw [HADD.out, HADO.out, HIX.out, HJX.out]
  rcases HOR.out with hs | hs
  · have hin : ItemsIn w4 (fun b => b < B) (n + 1) (.slice s1' e.val.items.length s3') e.val.items := by rw [hs]; exact (hi.below (b4w.mono hB)).toIn
    have ha := G4.out.pushed (⟨ix, jx, e.op, e.val, at', -1, zeroVl⟩, .slice s1' e.val.items.length s3', .slice none 0 0) r5 gr5 lie5 ⟨hin, hzi _, he.val, hzok, hz, hzz, he.op⟩ (fun b hb => ⟨by omega, hnr G3.out.pr b (.inl (by omega)), hnr G3.out.ob b (.inl (by omega)), hnr G3.out.cl b (.inl (by omega))⟩)
    have hfin := (ha.keep KS.out (fun h => by rcases h with h | h; (have := NI.out _ h; omega); omega) (NE0.out _ (by omega) (by omega)) (NE1.out _ (by omega) (by omega)) (NE2 _ (by omega) (by omega))).keep kp (fun h => by rcases h with h | h; (have := NI.out _ h; omega); omega) (NE0.out _ (by omega) (by omega)) (NE1.out _ (by omega) (by omega)) (NE2 _ (by omega) (by omega))
    have hI2 : ∀ b, (I b ∨ b < B) → I b ∨ b < B ∨ w.heap.size ≤ b := fun b h => by rcases h with h | h; exact .inl h; first | exact .inr (.inl h) | exact .inr (.inr (by omega))
    first | exact ⟨_, _, _, _, _, rfl, hfin, hI2⟩ | exact ⟨_, _, _, rfl, _, _, hfin, hI2⟩ | exact ⟨_, _, _, rfl, _, ⟨_, hfin⟩, hI2⟩ | exact ⟨_, _, _, _, ⟨_, rfl, hfin⟩, hI2⟩
  · have hin : ItemsIn w4 (fun b => V.heap.size ≤ b ∧ b < w4.heap.size) (n + 1) (.slice s1' e.val.items.length s3') e.val.items := hs
    have ha := G4.out.pushed (⟨ix, jx, e.op, e.val, at', -1, zeroVl⟩, .slice s1' e.val.items.length s3', .slice none 0 0) r5 gr5 lie5 ⟨hin, hzi _, he.val, hzok, hz, hzz, he.op⟩ (fun b hb => ⟨hb.2, hnr G3.out.pr b (.inr hb.1), hnr G3.out.ob b (.inr hb.1), hnr G3.out.cl b (.inr hb.1)⟩)
    have hfin := (ha.keep KS.out (fun h => by rcases h with h | h; (have := NI.out _ h; omega); omega) (NE0.out _ (by omega) (by omega)) (NE1.out _ (by omega) (by omega)) (NE2 _ (by omega) (by omega))).keep kp (fun h => by rcases h with h | h; (have := NI.out _ h; omega); omega) (NE0.out _ (by omega) (by omega)) (NE1.out _ (by omega) (by omega)) (NE2 _ (by omega) (by omega))
    have hI2 : ∀ b, (I b ∨ V.heap.size ≤ b ∧ b < w4.heap.size) → I b ∨ b < B ∨ w.heap.size ≤ b := fun b h => by rcases h with h | h; exact .inl h; first | exact .inr (.inl h) | exact .inr (.inr (by omega))
    first | exact ⟨_, _, _, _, _, rfl, hfin, hI2⟩ | exact ⟨_, _, _, rfl, _, _, hfin, hI2⟩ | exact ⟨_, _, _, rfl, _, ⟨_, hfin⟩, hI2⟩ | exact ⟨_, _, _, _, ⟨_, rfl, hfin⟩, hI2⟩
set_option maxRecDepth 100000 in
set_option maxHeartbeats 8000000 in
theorem addInv2_k (e : Evn) (at' : Nat) (w : World) (h0 n : Nat) (I : Nat → Prop) (g : Gs) (v0 v1 v2 : Value) (rs : List CV) (s : Value) (B : Nat) (hB : B ≤ h0) (hg : RAt w h0 (n + 1) I g v0 v1 v2 rs) (hi : ItemsAt w B (n + 1) s e.val.items) (he : EvOk e) (hz : e.val.size ≤ 1000000000) (hl0 : g.procs.length + 1 ≤ 1000000000) (hl1 : g.objs.length + 1 ≤ 1000000000) (hl2 : g.calls.length + 1 ≤ 1000000000) (hk : e.kind = 1) (hw : whoR g e.proc = -1) (hm : e.proc ∈ g.procs) (hmo : e.obj ∉ g.objs) :
    Calls Tryz.prog 55 #[.agg #[v0, v1, v2], .agg (evCells e s), .int .i64 (at' : Int)] w fun r w' => (∃ u0 u1 u2 I' rs', r = .returned (.tuple #[.agg #[u0, u1, u2], .int .i64 0]) ∧ RAt w' h0 (n + 1) I' { g with procs := addN g.procs e.proc, objs := addN g.objs e.obj, calls := g.calls ++ [⟨g.procs.idxOf e.proc, g.objs.idxOf e.obj, e.op, e.val, at', -1, zeroVl⟩] } u0 u1 u2 rs' ∧ ∀ b, I' b → I b ∨ b < B ∨ w.heap.size ≤ b) ∧ Below h0 w w' := by
  have hrl : rs.length = g.calls.length := by have := congrArg List.length hg.same; simpa using this
  obtain ⟨a0, c0, rfl⟩ := rowLen hg.pr
  obtain ⟨a1, c1, rfl⟩ := rowLen hg.ob
  obtain ⟨a2, c2, rfl⟩ := rowLen hg.cl
  obtain ⟨sa, sc, rfl, _⟩ := hi.len
  obtain ⟨W1, hW1⟩ : ∃ W, w.alloc (.cells #[.slice a0 g.procs.length c0, .slice a1 g.objs.length c1, .slice a2 g.calls.length c2] 25) = W := ⟨_, rfl⟩
  obtain ⟨W2, hW2⟩ : ∃ W, W1.alloc (.cells (evCells e (.slice sa e.val.items.length sc)) 61) = W := ⟨_, rfl⟩
  obtain ⟨W, hW⟩ : ∃ W, W2.alloc (.cells #[.slice none 0 0, .slice none 0 0, .slice none 0 0] 25) = W := ⟨_, rfl⟩
  have b1 : Below w.heap.size w W1 := by rw [← hW1]; exact alloc_v (Below.refl _ _) _
  have b2 : Below W1.heap.size W1 W2 := by rw [← hW2]; exact alloc_v (Below.refl _ _) _
  have b3 : Below W2.heap.size W2 W := by rw [← hW]; exact alloc_v (Below.refl _ _) _
  have z1 : W1.heap.size = w.heap.size + 1 := by rw [← hW1]; simp
  have z2 : W2.heap.size = w.heap.size + 2 := by rw [← hW2]; simp [z1]
  have z3 : W.heap.size = w.heap.size + 3 := by rw [← hW]; simp [z2]
  have bW := trans_v (trans_v b1 b2) b3
  have e1 : W.heap[w.heap.size]? = some (.cells #[.slice a0 g.procs.length c0, .slice a1 g.objs.length c1, .slice a2 g.calls.length c2] 25 (0, 0)) := by
    refine (b3.block _ (by omega)).trans ((b2.block _ (by omega)).trans ?_)
    rw [← hW1]; exact World.alloc_heap_new w _
  have e2 : W.heap[w.heap.size + 1]? = some (.cells (evCells e (.slice sa e.val.items.length sc)) 61 (0, 0)) := by
    refine (b3.block _ (by omega)).trans ?_
    rw [← hW2, ← z1]; exact World.alloc_heap_new W1 _
  have e3 : W.heap[w.heap.size + 2]? = some (.cells #[.slice none 0 0, .slice none 0 0, .slice none 0 0] 25 (0, 0)) := by rw [← hW, ← z2]; exact World.alloc_heap_new W2 _
  have hgW := hg.below bW
  have HFD := hide (find_k7 g.procs e.proc W _ _ (NamesAt.row hgW.pr (by omega)) (Nat.le_refl _))
  have hclA : ClAt W W.heap.size (.slice a2 g.calls.length c2) g.calls := by
    have h1 := hgW.cl
    rw [← hrl] at h1
    have h2 := (HvsAt.row h1 (by omega)).cl
    rw [hg.same, hrl] at h2
    exact h2
  have HOP := hide (fun (p : Nat) => open_k7 W (.slice a0 g.procs.length c0) (.slice a1 g.objs.length c1) (.slice a2 g.calls.length c2) ⟨_, _, _, rfl⟩ ⟨_, _, _, rfl⟩ g.calls hclA p)
  have x0 := cells_at e1 0 _ rfl
  have x1 := cells_at e1 1 _ rfl
  have x2 := cells_at e1 2 _ rfl
  have y0 := cells_at e2 0 _ rfl
  have y1 := cells_at e2 1 _ rfl
  have BW := hide bW
  have E1 := hide e1
  have E2 := hide e2
  have E3 := hide e3
  have HG := hide hgW
  have Z3 := hide z3
  clear hclA e1 e2 e3 bW b1 b2 b3 hgW z3
  have hk2 : (e.kind == 2) = false := by simp [hk]
  have hgz := hg.sz
  have hf := fnd_in hm
  have ho : opnR g.calls (g.procs.idxOf e.proc) g.calls.length = -1 := by unfold whoR at hw; rwa [if_pos hm] at hw
  have hadd : addN g.procs e.proc = g.procs := if_pos hm
  rw [hf] at HFD
  have HOP2 := hide (HOP.out (g.procs.idxOf e.proc))
  rw [ho] at HOP2
  clear HOP hf ho
  have HOP := HOP2
  clear HOP2
  have HADD := hide hadd
  clear hadd hw hm hk
  obtain ⟨ix, hix⟩ : ∃ ix, g.procs.idxOf e.proc = ix := ⟨_, rfl⟩
  rw [hix] at HFD HOP
  have HIX := hide hix
  clear hix
  have i0 : (0 : Int) ≤ (ix : Int) := by omega
  have hfo := fnd_no hmo
  have haddo : addN g.objs e.obj = g.objs ++ [e.obj] := if_neg hmo
  have HJX := hide (List.idxOf_eq_length hmo)
  have HADO := hide haddo
  have HFO := hide hfo
  clear haddo hmo hfo
  go_enter Tryz.func55, Tryz.ntmps55
  go_upto_region 16 with (first
    | (go_at_call 64; refine HFD.out.mono ?_; clear HFD; rintro r w9 ⟨rfl, rfl⟩)
    | (go_at_call 65; refine HOP.out.mono ?_; clear HOP; rintro r U ⟨rfl, b2⟩; have B2 := hide b2; have f2 := (b2.block (w.heap.size + 1) (by have := Z3.out; omega)).trans E2.out; have t0 := cells_at f2 0 _ rfl; clear b2 f2))
  have zU := B2.out.size
  have hz3 := Z3.out
  have bwU : Below h0 w U := (trans_v BW.out B2.out).mono hgz
  have G1 := hide (HG.out.below B2.out)
  have P1 := hide ((B2.out.block w.heap.size (by omega)).trans E1.out)
  have V1 := hide ((B2.out.block (w.heap.size + 1) (by omega)).trans E2.out)
  have R1 := hide ((B2.out.block (w.heap.size + 2) (by omega)).trans E3.out)
  have BU := hide bwU
  have NI := hide (fun b (hb : I b) => (hg.no b hb).1)
  have NE0 : Hid (∀ b, w.heap.size ≤ b → b < w.heap.size + 3 → (Value.slice a0 g.procs.length c0).ownBlock ≠ some b) := hide (fun b h1 h2 ex => by have := (hg.pr.lt _ ex).2; omega)
  clear x0 x1 x2 y0 y1 t0 bwU
  have P2 : Hid (U.heap[w.heap.size]? = some (.cells #[.slice a0 g.procs.length c0, .slice a1 g.objs.length c1, .slice a2 g.calls.length c2] 25 (0, 0))) := hide P1.out
  have zU3 : w.heap.size + 3 ≤ U.heap.size := by have := Z3.out; omega
  clear zU P1
  have HFD2 := hide (find_k7 g.objs e.obj U _ _ (NamesAt.row G1.out.ob (by omega)) (Nat.le_refl _))
  rw [HFO.out] at HFD2
  have x1 := cells_at P2.out 1 _ rfl
  have y2 := cells_at V1.out 2 _ rfl
  clear hz3
  obtain ⟨go, co, WB, hrunB, rB, grB, lieB⟩ := strPushH G1.out.ob (by omega) hl1 (bsN e.obj) 22
  have HRB := hide hrunB
  have neB : ∀ b, w.heap.size ≤ b → (Value.slice a1 g.objs.length c1).ownBlock ≠ some b := fun b hb ex => by have := (hg.ob.lt _ ex).2; omega
  have pB := (grB.block w.heap.size (by omega) (fun h => neB _ (Nat.le_refl _) h.symm)).trans P2.out
  have vB := (grB.block (w.heap.size + 1) (by omega) (fun h => neB _ (by omega) h.symm)).trans V1.out
  have sB := (grB.block (w.heap.size + 2) (by omega) (fun h => neB _ (by omega) h.symm)).trans R1.out
  have rB' : WB.ownsRow h0 9 1 (.slice (some ⟨go, 0, none⟩) (g.objs.length + 1) co) (g.objs.length + 1) (strs (g.objs ++ [e.obj])) := by simpa [strs] using rB
  have gB := G1.out.objd e.obj rB' grB lieB
  have kB : Keeps (fun y => (Value.slice a1 g.objs.length c1).ownBlock = some y) U WB := Keeps.grown grB (fun r e => e)
  have zB := kB.size
  have pB1 := cells_at pB 1 _ rfl
  have pBf := frozen_at pB 1
  have P3 := hide (heap_setCell_same _ _ 1 _ _ (.slice (some ⟨go, 0, none⟩) (g.objs.length + 1) co) pB)
  have kT := Keeps.set WB w.heap.size 1 (.slice (some ⟨go, 0, none⟩) (g.objs.length + 1) co)
  have NE1 : Hid (∀ b, w.heap.size ≤ b → b < w.heap.size + 3 → (Value.slice (some ⟨go, 0, none⟩) (g.objs.length + 1) co).ownBlock ≠ some b) := hide (fun b h1 h2 ex => by
    have e' : go = b := Option.some.inj ex
    rcases lieB with l | l
    · exact neB b h1 (by rw [l, e'])
    · omega)
  obtain ⟨V, hV⟩ : ∃ V, WB.setCell ⟨w.heap.size, 1, none⟩ (.slice (some ⟨go, 0, none⟩) (g.objs.length + 1) co) = V := ⟨_, rfl⟩
  rw [hV] at P3 kT
  have G3 := hide (gB.keep kT (fun h => by have := NI.out _ h; omega) (NE0.out _ (Nat.le_refl _) (by omega)) (NE1.out _ (Nat.le_refl _) (by omega)) (fun h => by have := (hg.cl.lt _ h).2; omega))
  have V3 := hide ((kT.block (w.heap.size + 1) (by omega) (by omega)).trans vB)
  have R3 := hide ((kT.block (w.heap.size + 2) (by omega) (by omega)).trans sB)
  have zT := kT.size
  have hgU := G1.out.sz
  have BV := hide ((BU.out.trans (kB.toBelow (by omega) (fun x h => (hg.ob.lt x h).1))).trans (kT.toBelow (by omega) (fun x h => by omega)))
  have zU4 : w.heap.size + 3 ≤ V.heap.size := by omega
  clear hrunB rB grB lieB pB vB sB rB' gB kB kT neB zB zT hgU
  go_upto_region 17 with (go_at_call 64; refine HFD2.out.mono ?_; clear HFD2; rintro r w9 ⟨rfl, rfl⟩)
  go_upto_region 19 with (fail)
  go_upto_region 20 with ((at_builtin; refine Lib.wpList_append_run _ rfl (.tmp 68) (.tmp 71) 22 22 rfl _ _ rfl rfl _ _ HRB.out ?_; clear HRB))
  (try rw [hV])
  clear hV x1 y2 pB1 pBf zU3 P2 G1 V1 R1 BU
  have zU3 := zU4
  clear zU4
  have hgV := G3.out.sz
  have HCP := hide (fun (X : World) (b : Below V.heap.size V X) => refCopy_k e.val X (n + 1) (.slice sa e.val.items.length sc) hz ((hi.below ((BV.out.trans (b.mono (by omega))).mono hB)).up (by have := b.size; omega)))
  have HSS := hide (fun (U : World) (hp : U.heap[w.heap.size]? = V.heap[w.heap.size]?) (hv : U.heap[w.heap.size + 1]? = V.heap[w.heap.size + 1]?) => (show U.cell? ⟨w.heap.size, 2, none⟩ = some (.slice a2 g.calls.length c2) ∧ U.cell? ⟨w.heap.size + 1, 3, none⟩ = some (.string (bsN e.op)) ∧ U.cell? ⟨w.heap.size + 1, 4, none⟩ = some (.int .i64 e.val.kind) ∧ U.cell? ⟨w.heap.size + 1, 5, none⟩ = some (.int .i64 e.val.int) ∧ U.cell? ⟨w.heap.size + 1, 6, none⟩ = some (.int .i64 e.val.im) ∧ U.cell? ⟨w.heap.size + 1, 7, none⟩ = some (.string e.val.text) ∧ U.cell? ⟨w.heap.size + 1, 8, none⟩ = some (.slice sa e.val.items.length sc) from by
    have h1 := hp.trans P3.out
    have h2 := hv.trans V3.out
    exact ⟨cells_at h1 2 _ rfl, cells_at h2 3 _ rfl, cells_at h2 4 _ rfl, cells_at h2 5 _ rfl, cells_at h2 6 _ rfl, cells_at h2 7 _ rfl, cells_at h2 8 _ rfl⟩))
  have HS1 := hide (HSS.out V.drew rfl rfl)
  refine wp_region_E 14 15 (fun U => U.cell? ⟨w.heap.size, 2, none⟩ = some (.slice a2 g.calls.length c2) ∧ U.cell? ⟨w.heap.size + 1, 3, none⟩ = some (.string (bsN e.op)) ∧ U.cell? ⟨w.heap.size + 1, 4, none⟩ = some (.int .i64 e.val.kind) ∧ U.cell? ⟨w.heap.size + 1, 5, none⟩ = some (.int .i64 e.val.int) ∧ U.cell? ⟨w.heap.size + 1, 6, none⟩ = some (.int .i64 e.val.im) ∧ U.cell? ⟨w.heap.size + 1, 7, none⟩ = some (.string e.val.text) ∧ U.cell? ⟨w.heap.size + 1, 8, none⟩ = some (.slice sa e.val.items.length sc)) (by kernel_rfl) (by kernel_rfl) (by kernel_rfl) (by kernel_rfl) (by decide) (by kernel_rfl) ?_
  intro hsk inv
  refine wpAnyE_take (i := 0) (v := ?v0) hsk inv (by decide) rfl (by kernel_rfl) (by kernel_rfl) (fun _ _ _ h => h) (Or.inl ⟨by rfl, ?hy0⟩) HS1.out ?rest0
  case hy0 => intro U hSU; (try dsimp only at hSU); go_simp; (try with_reducible rfl)
  case rest0 =>
  clear inv
  intro inv
  (try simp only [Act.put, List.setIfInBounds_toArray])
  refine wpAnyE_take (i := 1) (v := ?v1) hsk inv (by decide) rfl (by kernel_rfl) (by kernel_rfl) (fun _ _ _ h => h) (Or.inl ⟨by rfl, ?hy1⟩) HS1.out ?rest1
  case hy1 => intro U hSU; (try dsimp only at hSU); go_simp; (try with_reducible rfl)
  case rest1 =>
  clear inv
  intro inv
  (try simp only [Act.put])
  refine wpAnyE_take (i := 2) (v := ?v2) hsk inv (by decide) rfl (by kernel_rfl) (by kernel_rfl) (fun _ _ _ h => h) (Or.inl ⟨by rfl, ?hy2⟩) HS1.out ?rest2
  case hy2 => intro U hSU; (try dsimp only at hSU); go_simp; (try with_reducible rfl)
  case rest2 =>
  clear inv
  intro inv
  (try simp only [Act.put])
  refine wpAnyE_take (i := 3) (v := ?v3) hsk inv (by decide) rfl (by kernel_rfl) (by kernel_rfl) (fun _ _ _ h => h) (Or.inl ⟨by rfl, ?hy3⟩) HS1.out ?rest3
  case hy3 => intro U hSU; (try dsimp only at hSU); go_simp; (try with_reducible rfl)
  case rest3 =>
  clear inv
  intro inv
  (try simp only [Act.put])
  refine wpAnyE_take (i := 4) (v := ?v4) hsk inv (by decide) rfl (by kernel_rfl) (by kernel_rfl) (fun _ _ _ h => h) (Or.inl ⟨by rfl, ?hy4⟩) HS1.out ?rest4
  case hy4 => intro U hSU; (try dsimp only at hSU); go_simp; (try with_reducible rfl)
  case rest4 =>
  clear inv
  intro inv
  (try simp only [Act.put])
  refine wpAnyE_take (i := 5) (v := ?v5) hsk inv (by decide) rfl (by kernel_rfl) (by kernel_rfl) (fun _ _ _ h => h) (Or.inl ⟨by rfl, ?hy5⟩) HS1.out ?rest5
  case hy5 => intro U hSU; (try dsimp only at hSU); go_simp; (try with_reducible rfl)
  case rest5 =>
  clear inv
  intro inv
  (try simp only [Act.put])
  refine wpAnyE_take (i := 6) (v := ?v6) hsk inv (by decide) rfl (by kernel_rfl) (by kernel_rfl) (fun _ _ _ h => h) (Or.inl ⟨by rfl, ?hy6⟩) HS1.out ?rest6
  case hy6 => intro U hSU; (try dsimp only at hSU); go_simp; (try with_reducible rfl)
  case rest6 =>
  clear inv
  intro inv
  (try simp only [Act.put])
  refine wpAnyE_take (i := 7) (v := ?v7) hsk inv (by decide) rfl (by kernel_rfl) (by kernel_rfl) (fun _ _ _ h => h) (Or.inl ⟨by rfl, ?hy7⟩) HS1.out ?rest7
  case hy7 => intro U hSU; (try dsimp only at hSU); go_simp; (try with_reducible rfl)
  case rest7 =>
  clear inv
  intro inv
  (try simp only [Act.put])
  refine wpAnyE_take (i := 9) (v := ?v9) hsk inv (by decide) rfl (by kernel_rfl) (by kernel_rfl) (fun _ _ _ h => h) (Or.inl ⟨by rfl, ?hy9⟩) HS1.out ?rest9
  case hy9 => intro U hSU; (try dsimp only at hSU); go_simp; (try with_reducible rfl)
  case rest9 =>
  clear inv
  intro inv
  (try simp only [Act.put])
  refine wpAnyE_one (i := 8) inv (by decide) (by kernel_rfl) rfl (fun K hK => ?_)
  go_simp
  go_at_call 38
  refine (HCP.out _ (drewB 1 V)).mono ?_
  rintro r w4 ⟨s', rfl, hi4, _, hor4, b4⟩
  have bV4 : Below V.heap.size V w4 := trans_v (drewB 1 V) b4
  have z4 := bV4.size
  have HS4 := hide (HSS.out w4 (bV4.block _ (by omega)) (bV4.block _ (by omega)))
  obtain ⟨s1', s3', rfl, _⟩ := hi4.len
  have g4 := G3.out.below bV4
  obtain ⟨q5, cap5, w5, hrun, r5, gr5, lie5⟩ := callPush g4.cl (by omega) hl2 (⟨ix, g.objs.length, e.op, e.val, at', -1, zeroVl⟩, .slice s1' e.val.items.length s3', .slice none 0 0) 23 ⟨_, _, _, rfl⟩ ⟨_, _, _, rfl⟩
  have HRUN := hide hrun
  have HOR := hide hor4
  have G4 := hide g4
  have B4 := hide bV4
  have R5 := hide (And.intro r5 (And.intro gr5 lie5))
  have hneq : ∀ b, w.heap.size ≤ b → b < w.heap.size + 3 → (Value.slice a2 g.calls.length c2).ownBlock ≠ some b := fun b h1 h2 ex => by have := (hg.cl.lt _ ex).2; omega
  have p5 := gr5.block w.heap.size (by omega) (fun h => hneq _ (Nat.le_refl _) (by omega) h.symm)
  have v5 := gr5.block (w.heap.size + 1) (by omega) (fun h => hneq _ (by omega) (by omega) h.symm)
  have s5 := gr5.block (w.heap.size + 2) (by omega) (fun h => hneq _ (by omega) (by omega) h.symm)
  have P5 := hide (p5.trans ((bV4.block _ (by omega)).trans P3.out))
  have RR5 := hide (s5.trans ((bV4.block _ (by omega)).trans R3.out))
  have HS6 := hide (HSS.out w5 (p5.trans (bV4.block _ (by omega))) (v5.trans (bV4.block _ (by omega))))
  have bA : Below w4.heap.size w4 (w4.alloc (.cells ⟨clOf (⟨ix, g.objs.length, e.op, e.val, at', -1, zeroVl⟩, .slice s1' e.val.items.length s3', .slice none 0 0)⟩ 69)) := alloc_v (Below.refl _ _) _
  have HS5 := hide (HSS.out (w4.alloc (.cells ⟨clOf (⟨ix, g.objs.length, e.op, e.val, at', -1, zeroVl⟩, .slice s1' e.val.items.length s3', .slice none 0 0)⟩ 69)) ((bA.block _ (by omega)).trans (bV4.block _ (by omega))) ((bA.block _ (by omega)).trans (bV4.block _ (by omega))))
  have m0 := cells_at P5.out 0 _ rfl
  have m1 := cells_at P5.out 1 _ rfl
  have m2 := cells_at P5.out 2 _ rfl
  have mf := frozen_at P5.out 2
  have HNQ := hide hneq
  clear hi4 hor4 b4 bV4 g4 hrun r5 gr5 lie5 p5 v5 s5 bA hneq
  refine hK.out _ _ HS4.out ?_
  clear hK K inv
  intro inv
  (try simp only [Act.put, List.setIfInBounds_toArray, List.set_cons_zero, List.set_cons_succ])
  refine wpAnyE_take (i := 10) (v := ?v10) hsk inv (by decide) rfl (by kernel_rfl) (by kernel_rfl) (fun _ _ _ h => h) (Or.inl ⟨by rfl, ?hy10⟩) HS4.out ?rest10
  case hy10 => intro U hSU; (try dsimp only at hSU); go_simp; (try with_reducible rfl)
  case rest10 =>
  clear inv
  intro inv
  (try simp only [Act.put, List.setIfInBounds_toArray])
  refine wpAnyE_one (i := 11) inv (by decide) (by kernel_rfl) rfl (fun K hK => ?_)
  go_simp
  refine hK.out _ _ HS5.out ?_
  clear hK K inv
  intro inv
  (try simp only [Act.put, List.setIfInBounds_toArray, List.set_cons_zero, List.set_cons_succ])
  refine wpAnyE_one (i := 12) inv (by decide) (by kernel_rfl) rfl (fun K hK => ?_)
  refine step_ex _ (by rfl) (.tmp 75) (.tmp 85) 23 (by rfl) _ _ (by rfl) (by rfl) (fun v' w' => v' = .slice (some ⟨q5, 0, none⟩) (g.calls.length + 1) cap5 ∧ w' = w5) ⟨_, _, HRUN.out, rfl, rfl⟩ ?_
  rintro v4 w6 ⟨rfl, rfl⟩
  refine hK.out _ _ HS6.out ?_
  clear hK K inv HRUN
  intro inv
  (try simp only [Act.put, List.setIfInBounds_toArray])
  refine wpAnyE_take (i := 13) (v := ?v13) hsk inv (by decide) rfl (by kernel_rfl) (by kernel_rfl) (fun _ _ _ h => h) (Or.inl ⟨by rfl, ?hy13⟩) HS6.out ?rest13
  case hy13 => intro U hSU; (try dsimp only at hSU); go_simp; (try with_reducible rfl)
  case rest13 =>
  clear inv
  intro inv
  (try simp only [Act.put])
  refine wpAnyE_last (by kernel_rfl) (by kernel_rfl) rfl (fun K hK => ?_)
  go_simp
  refine hK.out _ _ ?_
  clear hK K
  obtain ⟨X, hX⟩ : ∃ X, w6.setCell ⟨w.heap.size, 2, none⟩ (.slice (some ⟨q5, 0, none⟩) (g.calls.length + 1) cap5) = X := ⟨_, rfl⟩
  have P6 := heap_setCell_same _ _ 2 _ _ (.slice (some ⟨q5, 0, none⟩) (g.calls.length + 1) cap5) P5.out
  have kS := Keeps.set w6 w.heap.size 2 (.slice (some ⟨q5, 0, none⟩) (g.calls.length + 1) cap5)
  rw [hX] at P6 kS
  rw [hX]
  clear hX m0 m1 m2 mf
  have zz4 := B4.out.size
  have zz6 := R5.out.2.1.size
  have zzX := kS.size
  have F3 := hide ((kS.block (w.heap.size + 2) (by omega) (by omega)).trans RR5.out)
  have u0 := cells_at P6 0 _ rfl
  have u1 := cells_at P6 1 _ rfl
  have u2 := cells_at P6 2 _ rfl
  have r0 := cells_at F3.out 0 _ rfl
  have r1 := cells_at F3.out 1 _ rfl
  have r2 := cells_at F3.out 2 _ rfl
  have q0 := frozen_at F3.out 0
  have q1 := frozen_at F3.out 1
  have q2 := frozen_at F3.out 2
  have KS := hide kS
  clear P6 kS
  go_wp2
  have g1 := heap_setCell_same _ _ 0 _ _ (.slice a0 g.procs.length c0) F3.out
  have g2 := heap_setCell_same _ _ 1 _ _ (.slice (some ⟨go, 0, none⟩) (g.objs.length + 1) co) g1
  have g3 := heap_setCell_same _ _ 2 _ _ (.slice (some ⟨q5, 0, none⟩) (g.calls.length + 1) cap5) g2
  refine bodyPost_ret (results_struct_tmpH rfl _ _ (w.heap.size + 2) _ _ _ _ rfl g3 Tryz.underlying25 rfl infoPast) rfl ?_
  have kp := ((Keeps.set X (w.heap.size + 2) 0 (.slice a0 g.procs.length c0)).trans (Keeps.set _ (w.heap.size + 2) 1 (.slice (some ⟨go, 0, none⟩) (g.objs.length + 1) co)) (fun _ _ h => h)).trans (Keeps.set _ (w.heap.size + 2) 2 (.slice (some ⟨q5, 0, none⟩) (g.calls.length + 1) cap5)) (fun _ _ h => h)
  obtain ⟨r5, gr5, lie5⟩ := R5.out
  have bl6 : Below h0 w4 w6 := (Keeps.grown (M := fun y => (Value.slice a2 g.calls.length c2).ownBlock = some y) gr5 (fun r e => e)).toBelow (by omega) (fun x h => (hg.cl.lt x h).1)
  have b4w : Below h0 w w4 := BV.out.trans (B4.out.mono (by omega))
  have bX : Below h0 w X := (b4w.trans bl6).trans (KS.out.toBelow (by omega) (fun x h => by omega))
  have hnr : ∀ {v : Value} {t : TypeId} {z m : Nat} {xs : List Value}, V.ownsRow h0 t z v m xs → ∀ b, (b < h0 ∨ V.heap.size ≤ b) → v.ownBlock ≠ some b := fun hr b hb ex => by
    have := hr.lt b ex
    omega
  have NE2 : ∀ b, w.heap.size ≤ b → b < w.heap.size + 3 → (Value.slice (some ⟨q5, 0, none⟩) (g.calls.length + 1) cap5).ownBlock ≠ some b := fun b h1 h2 ex => by
    have e' : q5 = b := Option.some.inj ex
    rcases lie5 with l | l
    · exact HNQ.out b h1 h2 (by rw [l, e'])
    · omega
  have hzi : ∀ J : Nat → Prop, ItemsIn w4 J (n + 1) (.slice none 0 0) zeroVl.items := fun J => ⟨none, 0, rfl, by simp [zeroVl], fun j h => absurd h (by simp [zeroVl])⟩
  have hzok : zeroVl.ok := by refine ⟨by show 0 ≤ 1048576; omega, ?_, ?_⟩ <;> (show (-9223372036854775808 : Int) ≤ 0 ∧ (0 : Int) ≤ 9223372036854775807; omega)
  have hzz : zeroVl.size ≤ 1000000000 := by rw [Vl.size_eq]; simp [zeroVl]
  refine ⟨?_, bX.trans (kp.toBelow (by omega) (fun x h => by omega))⟩
  rw [HADD.out, HADO.out, HIX.out, HJX.out]
  rcases HOR.out with hs | hs
  · have hin : ItemsIn w4 (fun b => b < B) (n + 1) (.slice s1' e.val.items.length s3') e.val.items := by rw [hs]; exact (hi.below (b4w.mono hB)).toIn
    have ha := G4.out.pushed (⟨ix, g.objs.length, e.op, e.val, at', -1, zeroVl⟩, .slice s1' e.val.items.length s3', .slice none 0 0) r5 gr5 lie5 ⟨hin, hzi _, he.val, hzok, hz, hzz, he.op⟩ (fun b hb => ⟨by omega, hnr G3.out.pr b (.inl (by omega)), hnr G3.out.ob b (.inl (by omega)), hnr G3.out.cl b (.inl (by omega))⟩)
    have hfin := (ha.keep KS.out (fun h => by rcases h with h | h; (have := NI.out _ h; omega); omega) (NE0.out _ (by omega) (by omega)) (NE1.out _ (by omega) (by omega)) (NE2 _ (by omega) (by omega))).keep kp (fun h => by rcases h with h | h; (have := NI.out _ h; omega); omega) (NE0.out _ (by omega) (by omega)) (NE1.out _ (by omega) (by omega)) (NE2 _ (by omega) (by omega))
    have hI2 : ∀ b, (I b ∨ b < B) → I b ∨ b < B ∨ w.heap.size ≤ b := fun b h => by rcases h with h | h; exact .inl h; first | exact .inr (.inl h) | exact .inr (.inr (by omega))
    first | exact ⟨_, _, _, _, _, rfl, hfin, hI2⟩ | exact ⟨_, _, _, rfl, _, _, hfin, hI2⟩ | exact ⟨_, _, _, rfl, _, ⟨_, hfin⟩, hI2⟩ | exact ⟨_, _, _, _, ⟨_, rfl, hfin⟩, hI2⟩
  · have hin : ItemsIn w4 (fun b => V.heap.size ≤ b ∧ b < w4.heap.size) (n + 1) (.slice s1' e.val.items.length s3') e.val.items := hs
    have ha := G4.out.pushed (⟨ix, g.objs.length, e.op, e.val, at', -1, zeroVl⟩, .slice s1' e.val.items.length s3', .slice none 0 0) r5 gr5 lie5 ⟨hin, hzi _, he.val, hzok, hz, hzz, he.op⟩ (fun b hb => ⟨hb.2, hnr G3.out.pr b (.inr hb.1), hnr G3.out.ob b (.inr hb.1), hnr G3.out.cl b (.inr hb.1)⟩)
    have hfin := (ha.keep KS.out (fun h => by rcases h with h | h; (have := NI.out _ h; omega); omega) (NE0.out _ (by omega) (by omega)) (NE1.out _ (by omega) (by omega)) (NE2 _ (by omega) (by omega))).keep kp (fun h => by rcases h with h | h; (have := NI.out _ h; omega); omega) (NE0.out _ (by omega) (by omega)) (NE1.out _ (by omega) (by omega)) (NE2 _ (by omega) (by omega))
    have hI2 : ∀ b, (I b ∨ V.heap.size ≤ b ∧ b < w4.heap.size) → I b ∨ b < B ∨ w.heap.size ≤ b := fun b h => by rcases h with h | h; exact .inl h; first | exact .inr (.inl h) | exact .inr (.inr (by omega))
    first | exact ⟨_, _, _, _, _, rfl, hfin, hI2⟩ | exact ⟨_, _, _, rfl, _, _, hfin, hI2⟩ | exact ⟨_, _, _, rfl, _, ⟨_, hfin⟩, hI2⟩ | exact ⟨_, _, _, _, ⟨_, rfl, hfin⟩, hI2⟩
set_option maxRecDepth 100000 in
set_option maxHeartbeats 8000000 in
theorem addInv3_k (e : Evn) (at' : Nat) (w : World) (h0 n : Nat) (I : Nat → Prop) (g : Gs) (v0 v1 v2 : Value) (rs : List CV) (s : Value) (B : Nat) (hB : B ≤ h0) (hg : RAt w h0 (n + 1) I g v0 v1 v2 rs) (hi : ItemsAt w B (n + 1) s e.val.items) (he : EvOk e) (hz : e.val.size ≤ 1000000000) (hl0 : g.procs.length + 1 ≤ 1000000000) (hl1 : g.objs.length + 1 ≤ 1000000000) (hl2 : g.calls.length + 1 ≤ 1000000000) (hk : e.kind = 1) (_hw : whoR g e.proc = -1) (hm : e.proc ∉ g.procs) (hmo : e.obj ∈ g.objs) :
    Calls Tryz.prog 55 #[.agg #[v0, v1, v2], .agg (evCells e s), .int .i64 (at' : Int)] w fun r w' => (∃ u0 u1 u2 I' rs', r = .returned (.tuple #[.agg #[u0, u1, u2], .int .i64 0]) ∧ RAt w' h0 (n + 1) I' { g with procs := addN g.procs e.proc, objs := addN g.objs e.obj, calls := g.calls ++ [⟨g.procs.idxOf e.proc, g.objs.idxOf e.obj, e.op, e.val, at', -1, zeroVl⟩] } u0 u1 u2 rs' ∧ ∀ b, I' b → I b ∨ b < B ∨ w.heap.size ≤ b) ∧ Below h0 w w' := by
  have hrl : rs.length = g.calls.length := by have := congrArg List.length hg.same; simpa using this
  obtain ⟨a0, c0, rfl⟩ := rowLen hg.pr
  obtain ⟨a1, c1, rfl⟩ := rowLen hg.ob
  obtain ⟨a2, c2, rfl⟩ := rowLen hg.cl
  obtain ⟨sa, sc, rfl, _⟩ := hi.len
  obtain ⟨W1, hW1⟩ : ∃ W, w.alloc (.cells #[.slice a0 g.procs.length c0, .slice a1 g.objs.length c1, .slice a2 g.calls.length c2] 25) = W := ⟨_, rfl⟩
  obtain ⟨W2, hW2⟩ : ∃ W, W1.alloc (.cells (evCells e (.slice sa e.val.items.length sc)) 61) = W := ⟨_, rfl⟩
  obtain ⟨W, hW⟩ : ∃ W, W2.alloc (.cells #[.slice none 0 0, .slice none 0 0, .slice none 0 0] 25) = W := ⟨_, rfl⟩
  have b1 : Below w.heap.size w W1 := by rw [← hW1]; exact alloc_v (Below.refl _ _) _
  have b2 : Below W1.heap.size W1 W2 := by rw [← hW2]; exact alloc_v (Below.refl _ _) _
  have b3 : Below W2.heap.size W2 W := by rw [← hW]; exact alloc_v (Below.refl _ _) _
  have z1 : W1.heap.size = w.heap.size + 1 := by rw [← hW1]; simp
  have z2 : W2.heap.size = w.heap.size + 2 := by rw [← hW2]; simp [z1]
  have z3 : W.heap.size = w.heap.size + 3 := by rw [← hW]; simp [z2]
  have bW := trans_v (trans_v b1 b2) b3
  have e1 : W.heap[w.heap.size]? = some (.cells #[.slice a0 g.procs.length c0, .slice a1 g.objs.length c1, .slice a2 g.calls.length c2] 25 (0, 0)) := by
    refine (b3.block _ (by omega)).trans ((b2.block _ (by omega)).trans ?_)
    rw [← hW1]; exact World.alloc_heap_new w _
  have e2 : W.heap[w.heap.size + 1]? = some (.cells (evCells e (.slice sa e.val.items.length sc)) 61 (0, 0)) := by
    refine (b3.block _ (by omega)).trans ?_
    rw [← hW2, ← z1]; exact World.alloc_heap_new W1 _
  have e3 : W.heap[w.heap.size + 2]? = some (.cells #[.slice none 0 0, .slice none 0 0, .slice none 0 0] 25 (0, 0)) := by rw [← hW, ← z2]; exact World.alloc_heap_new W2 _
  have hgW := hg.below bW
  have HFD := hide (find_k7 g.procs e.proc W _ _ (NamesAt.row hgW.pr (by omega)) (Nat.le_refl _))
  have hclA : ClAt W W.heap.size (.slice a2 g.calls.length c2) g.calls := by
    have h1 := hgW.cl
    rw [← hrl] at h1
    have h2 := (HvsAt.row h1 (by omega)).cl
    rw [hg.same, hrl] at h2
    exact h2
  have HOP := hide (fun (p : Nat) => open_k7 W (.slice a0 g.procs.length c0) (.slice a1 g.objs.length c1) (.slice a2 g.calls.length c2) ⟨_, _, _, rfl⟩ ⟨_, _, _, rfl⟩ g.calls hclA p)
  have x0 := cells_at e1 0 _ rfl
  have x1 := cells_at e1 1 _ rfl
  have x2 := cells_at e1 2 _ rfl
  have y0 := cells_at e2 0 _ rfl
  have y1 := cells_at e2 1 _ rfl
  have BW := hide bW
  have E1 := hide e1
  have E2 := hide e2
  have E3 := hide e3
  have HG := hide hgW
  have Z3 := hide z3
  clear hclA e1 e2 e3 bW b1 b2 b3 hgW z3
  have hk2 : (e.kind == 2) = false := by simp [hk]
  have hgz := hg.sz
  have hf := fnd_no hm
  have hadd : addN g.procs e.proc = g.procs ++ [e.proc] := if_neg hm
  have HIX := hide (List.idxOf_eq_length hm)
  rw [hf] at HFD
  clear HOP hf
  have HADD := hide hadd
  clear hadd _hw hm hk
  have hfo := fnd_in hmo
  have haddo : addN g.objs e.obj = g.objs := if_pos hmo
  obtain ⟨jx, hjx⟩ : ∃ jx, g.objs.idxOf e.obj = jx := ⟨_, rfl⟩
  rw [hjx] at hfo
  have HJX := hide hjx
  have j0 : (0 : Int) ≤ (jx : Int) := by omega
  have HADO := hide haddo
  have HFO := hide hfo
  clear haddo hmo hjx hfo
  obtain ⟨gp, cp, WA, hrun, rA, grA, lieA⟩ := strPushH HG.out.pr (by have := Z3.out; omega) hl0 (bsN e.proc) 22
  have HRN := hide hrun
  have hz3 := Z3.out
  have ne : ∀ {v : Value} {t : TypeId} {z m : Nat} {xs : List Value} {b : Nat}, w.ownsRow h0 t z v m xs → w.heap.size ≤ b → v.ownBlock ≠ some b := fun hr hb ex => by have := (hr.lt _ ex).2; omega
  have pA := (grA.block w.heap.size (by omega) (fun h => ne hg.pr (Nat.le_refl _) h.symm)).trans E1.out
  have vA := (grA.block (w.heap.size + 1) (by omega) (fun h => ne hg.pr (by omega) h.symm)).trans E2.out
  have sA := (grA.block (w.heap.size + 2) (by omega) (fun h => ne hg.pr (by omega) h.symm)).trans E3.out
  have rA' : WA.ownsRow h0 9 1 (.slice (some ⟨gp, 0, none⟩) (g.procs.length + 1) cp) (g.procs.length + 1) (strs (g.procs ++ [e.proc])) := by simpa [strs] using rA
  have gA := HG.out.procd e.proc rA' grA lieA
  have kA : Keeps (fun y => (Value.slice a0 g.procs.length c0).ownBlock = some y) W WA := Keeps.grown grA (fun r e => e)
  have zA := kA.size
  have pA0 := cells_at pA 0 _ rfl
  have pAf := frozen_at pA 0
  have P1 := hide (heap_setCell_same _ _ 0 _ _ (.slice (some ⟨gp, 0, none⟩) (g.procs.length + 1) cp) pA)
  have kS := Keeps.set WA w.heap.size 0 (.slice (some ⟨gp, 0, none⟩) (g.procs.length + 1) cp)
  have gpn : gp ≠ w.heap.size := fun h => by
    rcases lieA with l | l
    · exact ne hg.pr (Nat.le_refl _) (by rw [l, h])
    · omega
  have nI : ∀ b, I b → b < w.heap.size := fun b hb => (hg.no b hb).1
  obtain ⟨U, hU⟩ : ∃ U, WA.setCell ⟨w.heap.size, 0, none⟩ (.slice (some ⟨gp, 0, none⟩) (g.procs.length + 1) cp) = U := ⟨_, rfl⟩
  rw [hU] at P1 kS
  have G1 := hide (gA.keep kS (fun h => by have := nI _ h; omega) (fun h => gpn (Option.some.inj h)) (ne hg.ob (Nat.le_refl _)) (ne hg.cl (Nat.le_refl _)))
  have V1 := hide ((kS.block (w.heap.size + 1) (by omega) (by omega)).trans vA)
  have R1 := hide ((kS.block (w.heap.size + 2) (by omega) (by omega)).trans sA)
  have zU := kS.size
  have BU := hide (((BW.out.mono hgz).trans (kA.toBelow (by omega) (fun x h => (hg.pr.lt x h).1))).trans (kS.toBelow (by omega) (fun x h => by omega)))
  have NI := hide nI
  have NE0 : Hid (∀ b, w.heap.size ≤ b → b < w.heap.size + 3 → (Value.slice (some ⟨gp, 0, none⟩) (g.procs.length + 1) cp).ownBlock ≠ some b) := hide (fun b h1 h2 ex => by
    have e' : gp = b := Option.some.inj ex
    rcases lieA with l | l
    · exact ne hg.pr h1 (by rw [l, e'])
    · omega)
  clear hrun rA grA lieA pA vA sA rA' gA kA kS ne nI gpn hz3
  go_enter Tryz.func55, Tryz.ntmps55
  go_upto_region 3 with (go_at_call 64; refine HFD.out.mono ?_; clear HFD; rintro r w9 ⟨rfl, rfl⟩)
  go_upto_region 15 with (fail)
  go_upto_region 16 with ((at_builtin; refine Lib.wpList_append_run _ rfl (.tmp 51) (.tmp 54) 22 22 rfl _ _ rfl rfl _ _ HRN.out ?_; clear HRN))
  (try rw [hU])
  clear hU x0 x1 x2 y0 y1 pA0 pAf
  have P2 : Hid (U.heap[w.heap.size]? = some (.cells #[.slice (some ⟨gp, 0, none⟩) (g.procs.length + 1) cp, .slice a1 g.objs.length c1, .slice a2 g.calls.length c2] 25 (0, 0))) := hide P1.out
  have zU3 : w.heap.size + 3 ≤ U.heap.size := by have := Z3.out; omega
  clear zU P1
  have HFD2 := hide (find_k7 g.objs e.obj U _ _ (NamesAt.row G1.out.ob (by omega)) (Nat.le_refl _))
  rw [HFO.out] at HFD2
  have x1 := cells_at P2.out 1 _ rfl
  have y2 := cells_at V1.out 2 _ rfl
  clear zA
  go_upto_region 20 with (go_at_call 64; refine HFD2.out.mono ?_; clear HFD2; rintro r w9 ⟨rfl, rfl⟩)
  clear x1 y2
  have NE1 : Hid (∀ b, w.heap.size ≤ b → b < w.heap.size + 3 → (Value.slice a1 g.objs.length c1).ownBlock ≠ some b) := hide (fun b h1 h2 ex => by have := (hg.ob.lt _ ex).2; omega)
  have P3 := P2
  have G3 := G1
  have V3 := V1
  have R3 := R1
  have BV := BU
  obtain ⟨V, hV⟩ : ∃ V, U = V := ⟨_, rfl⟩
  rw [hV] at P3 G3 V3 R3 BV zU3
  rw [hV]
  clear hV P2 G1 V1 R1 BU
  have hgV := G3.out.sz
  have HCP := hide (fun (X : World) (b : Below V.heap.size V X) => refCopy_k e.val X (n + 1) (.slice sa e.val.items.length sc) hz ((hi.below ((BV.out.trans (b.mono (by omega))).mono hB)).up (by have := b.size; omega)))
  have HSS := hide (fun (U : World) (hp : U.heap[w.heap.size]? = V.heap[w.heap.size]?) (hv : U.heap[w.heap.size + 1]? = V.heap[w.heap.size + 1]?) => (show U.cell? ⟨w.heap.size, 2, none⟩ = some (.slice a2 g.calls.length c2) ∧ U.cell? ⟨w.heap.size + 1, 3, none⟩ = some (.string (bsN e.op)) ∧ U.cell? ⟨w.heap.size + 1, 4, none⟩ = some (.int .i64 e.val.kind) ∧ U.cell? ⟨w.heap.size + 1, 5, none⟩ = some (.int .i64 e.val.int) ∧ U.cell? ⟨w.heap.size + 1, 6, none⟩ = some (.int .i64 e.val.im) ∧ U.cell? ⟨w.heap.size + 1, 7, none⟩ = some (.string e.val.text) ∧ U.cell? ⟨w.heap.size + 1, 8, none⟩ = some (.slice sa e.val.items.length sc) from by
    have h1 := hp.trans P3.out
    have h2 := hv.trans V3.out
    exact ⟨cells_at h1 2 _ rfl, cells_at h2 3 _ rfl, cells_at h2 4 _ rfl, cells_at h2 5 _ rfl, cells_at h2 6 _ rfl, cells_at h2 7 _ rfl, cells_at h2 8 _ rfl⟩))
  have HS1 := hide (HSS.out V.drew rfl rfl)
  refine wp_region_E 14 15 (fun U => U.cell? ⟨w.heap.size, 2, none⟩ = some (.slice a2 g.calls.length c2) ∧ U.cell? ⟨w.heap.size + 1, 3, none⟩ = some (.string (bsN e.op)) ∧ U.cell? ⟨w.heap.size + 1, 4, none⟩ = some (.int .i64 e.val.kind) ∧ U.cell? ⟨w.heap.size + 1, 5, none⟩ = some (.int .i64 e.val.int) ∧ U.cell? ⟨w.heap.size + 1, 6, none⟩ = some (.int .i64 e.val.im) ∧ U.cell? ⟨w.heap.size + 1, 7, none⟩ = some (.string e.val.text) ∧ U.cell? ⟨w.heap.size + 1, 8, none⟩ = some (.slice sa e.val.items.length sc)) (by kernel_rfl) (by kernel_rfl) (by kernel_rfl) (by kernel_rfl) (by decide) (by kernel_rfl) ?_
  intro hsk inv
  refine wpAnyE_take (i := 0) (v := ?v0) hsk inv (by decide) rfl (by kernel_rfl) (by kernel_rfl) (fun _ _ _ h => h) (Or.inl ⟨by rfl, ?hy0⟩) HS1.out ?rest0
  case hy0 => intro U hSU; (try dsimp only at hSU); go_simp; (try with_reducible rfl)
  case rest0 =>
  clear inv
  intro inv
  (try simp only [Act.put, List.setIfInBounds_toArray])
  refine wpAnyE_take (i := 1) (v := ?v1) hsk inv (by decide) rfl (by kernel_rfl) (by kernel_rfl) (fun _ _ _ h => h) (Or.inl ⟨by rfl, ?hy1⟩) HS1.out ?rest1
  case hy1 => intro U hSU; (try dsimp only at hSU); go_simp; (try with_reducible rfl)
  case rest1 =>
  clear inv
  intro inv
  (try simp only [Act.put])
  refine wpAnyE_take (i := 2) (v := ?v2) hsk inv (by decide) rfl (by kernel_rfl) (by kernel_rfl) (fun _ _ _ h => h) (Or.inl ⟨by rfl, ?hy2⟩) HS1.out ?rest2
  case hy2 => intro U hSU; (try dsimp only at hSU); go_simp; (try with_reducible rfl)
  case rest2 =>
  clear inv
  intro inv
  (try simp only [Act.put])
  refine wpAnyE_take (i := 3) (v := ?v3) hsk inv (by decide) rfl (by kernel_rfl) (by kernel_rfl) (fun _ _ _ h => h) (Or.inl ⟨by rfl, ?hy3⟩) HS1.out ?rest3
  case hy3 => intro U hSU; (try dsimp only at hSU); go_simp; (try with_reducible rfl)
  case rest3 =>
  clear inv
  intro inv
  (try simp only [Act.put])
  refine wpAnyE_take (i := 4) (v := ?v4) hsk inv (by decide) rfl (by kernel_rfl) (by kernel_rfl) (fun _ _ _ h => h) (Or.inl ⟨by rfl, ?hy4⟩) HS1.out ?rest4
  case hy4 => intro U hSU; (try dsimp only at hSU); go_simp; (try with_reducible rfl)
  case rest4 =>
  clear inv
  intro inv
  (try simp only [Act.put])
  refine wpAnyE_take (i := 5) (v := ?v5) hsk inv (by decide) rfl (by kernel_rfl) (by kernel_rfl) (fun _ _ _ h => h) (Or.inl ⟨by rfl, ?hy5⟩) HS1.out ?rest5
  case hy5 => intro U hSU; (try dsimp only at hSU); go_simp; (try with_reducible rfl)
  case rest5 =>
  clear inv
  intro inv
  (try simp only [Act.put])
  refine wpAnyE_take (i := 6) (v := ?v6) hsk inv (by decide) rfl (by kernel_rfl) (by kernel_rfl) (fun _ _ _ h => h) (Or.inl ⟨by rfl, ?hy6⟩) HS1.out ?rest6
  case hy6 => intro U hSU; (try dsimp only at hSU); go_simp; (try with_reducible rfl)
  case rest6 =>
  clear inv
  intro inv
  (try simp only [Act.put])
  refine wpAnyE_take (i := 7) (v := ?v7) hsk inv (by decide) rfl (by kernel_rfl) (by kernel_rfl) (fun _ _ _ h => h) (Or.inl ⟨by rfl, ?hy7⟩) HS1.out ?rest7
  case hy7 => intro U hSU; (try dsimp only at hSU); go_simp; (try with_reducible rfl)
  case rest7 =>
  clear inv
  intro inv
  (try simp only [Act.put])
  refine wpAnyE_take (i := 9) (v := ?v9) hsk inv (by decide) rfl (by kernel_rfl) (by kernel_rfl) (fun _ _ _ h => h) (Or.inl ⟨by rfl, ?hy9⟩) HS1.out ?rest9
  case hy9 => intro U hSU; (try dsimp only at hSU); go_simp; (try with_reducible rfl)
  case rest9 =>
  clear inv
  intro inv
  (try simp only [Act.put])
  refine wpAnyE_one (i := 8) inv (by decide) (by kernel_rfl) rfl (fun K hK => ?_)
  go_simp
  go_at_call 38
  refine (HCP.out _ (drewB 1 V)).mono ?_
  rintro r w4 ⟨s', rfl, hi4, _, hor4, b4⟩
  have bV4 : Below V.heap.size V w4 := trans_v (drewB 1 V) b4
  have z4 := bV4.size
  have HS4 := hide (HSS.out w4 (bV4.block _ (by omega)) (bV4.block _ (by omega)))
  obtain ⟨s1', s3', rfl, _⟩ := hi4.len
  have g4 := G3.out.below bV4
  obtain ⟨q5, cap5, w5, hrun, r5, gr5, lie5⟩ := callPush g4.cl (by omega) hl2 (⟨g.procs.length, jx, e.op, e.val, at', -1, zeroVl⟩, .slice s1' e.val.items.length s3', .slice none 0 0) 23 ⟨_, _, _, rfl⟩ ⟨_, _, _, rfl⟩
  have HRUN := hide hrun
  have HOR := hide hor4
  have G4 := hide g4
  have B4 := hide bV4
  have R5 := hide (And.intro r5 (And.intro gr5 lie5))
  have hneq : ∀ b, w.heap.size ≤ b → b < w.heap.size + 3 → (Value.slice a2 g.calls.length c2).ownBlock ≠ some b := fun b h1 h2 ex => by have := (hg.cl.lt _ ex).2; omega
  have p5 := gr5.block w.heap.size (by omega) (fun h => hneq _ (Nat.le_refl _) (by omega) h.symm)
  have v5 := gr5.block (w.heap.size + 1) (by omega) (fun h => hneq _ (by omega) (by omega) h.symm)
  have s5 := gr5.block (w.heap.size + 2) (by omega) (fun h => hneq _ (by omega) (by omega) h.symm)
  have P5 := hide (p5.trans ((bV4.block _ (by omega)).trans P3.out))
  have RR5 := hide (s5.trans ((bV4.block _ (by omega)).trans R3.out))
  have HS6 := hide (HSS.out w5 (p5.trans (bV4.block _ (by omega))) (v5.trans (bV4.block _ (by omega))))
  have bA : Below w4.heap.size w4 (w4.alloc (.cells ⟨clOf (⟨g.procs.length, jx, e.op, e.val, at', -1, zeroVl⟩, .slice s1' e.val.items.length s3', .slice none 0 0)⟩ 69)) := alloc_v (Below.refl _ _) _
  have HS5 := hide (HSS.out (w4.alloc (.cells ⟨clOf (⟨g.procs.length, jx, e.op, e.val, at', -1, zeroVl⟩, .slice s1' e.val.items.length s3', .slice none 0 0)⟩ 69)) ((bA.block _ (by omega)).trans (bV4.block _ (by omega))) ((bA.block _ (by omega)).trans (bV4.block _ (by omega))))
  have m0 := cells_at P5.out 0 _ rfl
  have m1 := cells_at P5.out 1 _ rfl
  have m2 := cells_at P5.out 2 _ rfl
  have mf := frozen_at P5.out 2
  have HNQ := hide hneq
  clear hi4 hor4 b4 bV4 g4 hrun r5 gr5 lie5 p5 v5 s5 bA hneq
  refine hK.out _ _ HS4.out ?_
  clear hK K inv
  intro inv
  (try simp only [Act.put, List.setIfInBounds_toArray, List.set_cons_zero, List.set_cons_succ])
  refine wpAnyE_take (i := 10) (v := ?v10) hsk inv (by decide) rfl (by kernel_rfl) (by kernel_rfl) (fun _ _ _ h => h) (Or.inl ⟨by rfl, ?hy10⟩) HS4.out ?rest10
  case hy10 => intro U hSU; (try dsimp only at hSU); go_simp; (try with_reducible rfl)
  case rest10 =>
  clear inv
  intro inv
  (try simp only [Act.put, List.setIfInBounds_toArray])
  refine wpAnyE_one (i := 11) inv (by decide) (by kernel_rfl) rfl (fun K hK => ?_)
  go_simp
  refine hK.out _ _ HS5.out ?_
  clear hK K inv
  intro inv
  (try simp only [Act.put, List.setIfInBounds_toArray, List.set_cons_zero, List.set_cons_succ])
  refine wpAnyE_one (i := 12) inv (by decide) (by kernel_rfl) rfl (fun K hK => ?_)
  refine step_ex _ (by rfl) (.tmp 75) (.tmp 85) 23 (by rfl) _ _ (by rfl) (by rfl) (fun v' w' => v' = .slice (some ⟨q5, 0, none⟩) (g.calls.length + 1) cap5 ∧ w' = w5) ⟨_, _, HRUN.out, rfl, rfl⟩ ?_
  rintro v4 w6 ⟨rfl, rfl⟩
  refine hK.out _ _ HS6.out ?_
  clear hK K inv HRUN
  intro inv
  (try simp only [Act.put, List.setIfInBounds_toArray])
  refine wpAnyE_take (i := 13) (v := ?v13) hsk inv (by decide) rfl (by kernel_rfl) (by kernel_rfl) (fun _ _ _ h => h) (Or.inl ⟨by rfl, ?hy13⟩) HS6.out ?rest13
  case hy13 => intro U hSU; (try dsimp only at hSU); go_simp; (try with_reducible rfl)
  case rest13 =>
  clear inv
  intro inv
  (try simp only [Act.put])
  refine wpAnyE_last (by kernel_rfl) (by kernel_rfl) rfl (fun K hK => ?_)
  go_simp
  refine hK.out _ _ ?_
  clear hK K
  obtain ⟨X, hX⟩ : ∃ X, w6.setCell ⟨w.heap.size, 2, none⟩ (.slice (some ⟨q5, 0, none⟩) (g.calls.length + 1) cap5) = X := ⟨_, rfl⟩
  have P6 := heap_setCell_same _ _ 2 _ _ (.slice (some ⟨q5, 0, none⟩) (g.calls.length + 1) cap5) P5.out
  have kS := Keeps.set w6 w.heap.size 2 (.slice (some ⟨q5, 0, none⟩) (g.calls.length + 1) cap5)
  rw [hX] at P6 kS
  rw [hX]
  clear hX m0 m1 m2 mf
  have zz4 := B4.out.size
  have zz6 := R5.out.2.1.size
  have zzX := kS.size
  have F3 := hide ((kS.block (w.heap.size + 2) (by omega) (by omega)).trans RR5.out)
  have u0 := cells_at P6 0 _ rfl
  have u1 := cells_at P6 1 _ rfl
  have u2 := cells_at P6 2 _ rfl
  have r0 := cells_at F3.out 0 _ rfl
  have r1 := cells_at F3.out 1 _ rfl
  have r2 := cells_at F3.out 2 _ rfl
  have q0 := frozen_at F3.out 0
  have q1 := frozen_at F3.out 1
  have q2 := frozen_at F3.out 2
  have KS := hide kS
  clear P6 kS
  go_wp2
  have g1 := heap_setCell_same _ _ 0 _ _ (.slice (some ⟨gp, 0, none⟩) (g.procs.length + 1) cp) F3.out
  have g2 := heap_setCell_same _ _ 1 _ _ (.slice a1 g.objs.length c1) g1
  have g3 := heap_setCell_same _ _ 2 _ _ (.slice (some ⟨q5, 0, none⟩) (g.calls.length + 1) cap5) g2
  refine bodyPost_ret (results_struct_tmpH rfl _ _ (w.heap.size + 2) _ _ _ _ rfl g3 Tryz.underlying25 rfl infoPast) rfl ?_
  have kp := ((Keeps.set X (w.heap.size + 2) 0 (.slice (some ⟨gp, 0, none⟩) (g.procs.length + 1) cp)).trans (Keeps.set _ (w.heap.size + 2) 1 (.slice a1 g.objs.length c1)) (fun _ _ h => h)).trans (Keeps.set _ (w.heap.size + 2) 2 (.slice (some ⟨q5, 0, none⟩) (g.calls.length + 1) cap5)) (fun _ _ h => h)
  obtain ⟨r5, gr5, lie5⟩ := R5.out
  have bl6 : Below h0 w4 w6 := (Keeps.grown (M := fun y => (Value.slice a2 g.calls.length c2).ownBlock = some y) gr5 (fun r e => e)).toBelow (by omega) (fun x h => (hg.cl.lt x h).1)
  have b4w : Below h0 w w4 := BV.out.trans (B4.out.mono (by omega))
  have bX : Below h0 w X := (b4w.trans bl6).trans (KS.out.toBelow (by omega) (fun x h => by omega))
  have hnr : ∀ {v : Value} {t : TypeId} {z m : Nat} {xs : List Value}, V.ownsRow h0 t z v m xs → ∀ b, (b < h0 ∨ V.heap.size ≤ b) → v.ownBlock ≠ some b := fun hr b hb ex => by
    have := hr.lt b ex
    omega
  have NE2 : ∀ b, w.heap.size ≤ b → b < w.heap.size + 3 → (Value.slice (some ⟨q5, 0, none⟩) (g.calls.length + 1) cap5).ownBlock ≠ some b := fun b h1 h2 ex => by
    have e' : q5 = b := Option.some.inj ex
    rcases lie5 with l | l
    · exact HNQ.out b h1 h2 (by rw [l, e'])
    · omega
  have hzi : ∀ J : Nat → Prop, ItemsIn w4 J (n + 1) (.slice none 0 0) zeroVl.items := fun J => ⟨none, 0, rfl, by simp [zeroVl], fun j h => absurd h (by simp [zeroVl])⟩
  have hzok : zeroVl.ok := by refine ⟨by show 0 ≤ 1048576; omega, ?_, ?_⟩ <;> (show (-9223372036854775808 : Int) ≤ 0 ∧ (0 : Int) ≤ 9223372036854775807; omega)
  have hzz : zeroVl.size ≤ 1000000000 := by rw [Vl.size_eq]; simp [zeroVl]
  refine ⟨?_, bX.trans (kp.toBelow (by omega) (fun x h => by omega))⟩
  rw [HADD.out, HADO.out, HIX.out, HJX.out]
  rcases HOR.out with hs | hs
  · have hin : ItemsIn w4 (fun b => b < B) (n + 1) (.slice s1' e.val.items.length s3') e.val.items := by rw [hs]; exact (hi.below (b4w.mono hB)).toIn
    have ha := G4.out.pushed (⟨g.procs.length, jx, e.op, e.val, at', -1, zeroVl⟩, .slice s1' e.val.items.length s3', .slice none 0 0) r5 gr5 lie5 ⟨hin, hzi _, he.val, hzok, hz, hzz, he.op⟩ (fun b hb => ⟨by omega, hnr G3.out.pr b (.inl (by omega)), hnr G3.out.ob b (.inl (by omega)), hnr G3.out.cl b (.inl (by omega))⟩)
    have hfin := (ha.keep KS.out (fun h => by rcases h with h | h; (have := NI.out _ h; omega); omega) (NE0.out _ (by omega) (by omega)) (NE1.out _ (by omega) (by omega)) (NE2 _ (by omega) (by omega))).keep kp (fun h => by rcases h with h | h; (have := NI.out _ h; omega); omega) (NE0.out _ (by omega) (by omega)) (NE1.out _ (by omega) (by omega)) (NE2 _ (by omega) (by omega))
    have hI2 : ∀ b, (I b ∨ b < B) → I b ∨ b < B ∨ w.heap.size ≤ b := fun b h => by rcases h with h | h; exact .inl h; first | exact .inr (.inl h) | exact .inr (.inr (by omega))
    first | exact ⟨_, _, _, _, _, rfl, hfin, hI2⟩ | exact ⟨_, _, _, rfl, _, _, hfin, hI2⟩ | exact ⟨_, _, _, rfl, _, ⟨_, hfin⟩, hI2⟩ | exact ⟨_, _, _, _, ⟨_, rfl, hfin⟩, hI2⟩
  · have hin : ItemsIn w4 (fun b => V.heap.size ≤ b ∧ b < w4.heap.size) (n + 1) (.slice s1' e.val.items.length s3') e.val.items := hs
    have ha := G4.out.pushed (⟨g.procs.length, jx, e.op, e.val, at', -1, zeroVl⟩, .slice s1' e.val.items.length s3', .slice none 0 0) r5 gr5 lie5 ⟨hin, hzi _, he.val, hzok, hz, hzz, he.op⟩ (fun b hb => ⟨hb.2, hnr G3.out.pr b (.inr hb.1), hnr G3.out.ob b (.inr hb.1), hnr G3.out.cl b (.inr hb.1)⟩)
    have hfin := (ha.keep KS.out (fun h => by rcases h with h | h; (have := NI.out _ h; omega); omega) (NE0.out _ (by omega) (by omega)) (NE1.out _ (by omega) (by omega)) (NE2 _ (by omega) (by omega))).keep kp (fun h => by rcases h with h | h; (have := NI.out _ h; omega); omega) (NE0.out _ (by omega) (by omega)) (NE1.out _ (by omega) (by omega)) (NE2 _ (by omega) (by omega))
    have hI2 : ∀ b, (I b ∨ V.heap.size ≤ b ∧ b < w4.heap.size) → I b ∨ b < B ∨ w.heap.size ≤ b := fun b h => by rcases h with h | h; exact .inl h; first | exact .inr (.inl h) | exact .inr (.inr (by omega))
    first | exact ⟨_, _, _, _, _, rfl, hfin, hI2⟩ | exact ⟨_, _, _, rfl, _, _, hfin, hI2⟩ | exact ⟨_, _, _, rfl, _, ⟨_, hfin⟩, hI2⟩ | exact ⟨_, _, _, _, ⟨_, rfl, hfin⟩, hI2⟩
set_option maxRecDepth 100000 in
set_option maxHeartbeats 8000000 in
theorem addInv4_k (e : Evn) (at' : Nat) (w : World) (h0 n : Nat) (I : Nat → Prop) (g : Gs) (v0 v1 v2 : Value) (rs : List CV) (s : Value) (B : Nat) (hB : B ≤ h0) (hg : RAt w h0 (n + 1) I g v0 v1 v2 rs) (hi : ItemsAt w B (n + 1) s e.val.items) (he : EvOk e) (hz : e.val.size ≤ 1000000000) (hl0 : g.procs.length + 1 ≤ 1000000000) (hl1 : g.objs.length + 1 ≤ 1000000000) (hl2 : g.calls.length + 1 ≤ 1000000000) (hk : e.kind = 1) (_hw : whoR g e.proc = -1) (hm : e.proc ∉ g.procs) (hmo : e.obj ∉ g.objs) :
    Calls Tryz.prog 55 #[.agg #[v0, v1, v2], .agg (evCells e s), .int .i64 (at' : Int)] w fun r w' => (∃ u0 u1 u2 I' rs', r = .returned (.tuple #[.agg #[u0, u1, u2], .int .i64 0]) ∧ RAt w' h0 (n + 1) I' { g with procs := addN g.procs e.proc, objs := addN g.objs e.obj, calls := g.calls ++ [⟨g.procs.idxOf e.proc, g.objs.idxOf e.obj, e.op, e.val, at', -1, zeroVl⟩] } u0 u1 u2 rs' ∧ ∀ b, I' b → I b ∨ b < B ∨ w.heap.size ≤ b) ∧ Below h0 w w' := by
  have hrl : rs.length = g.calls.length := by have := congrArg List.length hg.same; simpa using this
  obtain ⟨a0, c0, rfl⟩ := rowLen hg.pr
  obtain ⟨a1, c1, rfl⟩ := rowLen hg.ob
  obtain ⟨a2, c2, rfl⟩ := rowLen hg.cl
  obtain ⟨sa, sc, rfl, _⟩ := hi.len
  obtain ⟨W1, hW1⟩ : ∃ W, w.alloc (.cells #[.slice a0 g.procs.length c0, .slice a1 g.objs.length c1, .slice a2 g.calls.length c2] 25) = W := ⟨_, rfl⟩
  obtain ⟨W2, hW2⟩ : ∃ W, W1.alloc (.cells (evCells e (.slice sa e.val.items.length sc)) 61) = W := ⟨_, rfl⟩
  obtain ⟨W, hW⟩ : ∃ W, W2.alloc (.cells #[.slice none 0 0, .slice none 0 0, .slice none 0 0] 25) = W := ⟨_, rfl⟩
  have b1 : Below w.heap.size w W1 := by rw [← hW1]; exact alloc_v (Below.refl _ _) _
  have b2 : Below W1.heap.size W1 W2 := by rw [← hW2]; exact alloc_v (Below.refl _ _) _
  have b3 : Below W2.heap.size W2 W := by rw [← hW]; exact alloc_v (Below.refl _ _) _
  have z1 : W1.heap.size = w.heap.size + 1 := by rw [← hW1]; simp
  have z2 : W2.heap.size = w.heap.size + 2 := by rw [← hW2]; simp [z1]
  have z3 : W.heap.size = w.heap.size + 3 := by rw [← hW]; simp [z2]
  have bW := trans_v (trans_v b1 b2) b3
  have e1 : W.heap[w.heap.size]? = some (.cells #[.slice a0 g.procs.length c0, .slice a1 g.objs.length c1, .slice a2 g.calls.length c2] 25 (0, 0)) := by
    refine (b3.block _ (by omega)).trans ((b2.block _ (by omega)).trans ?_)
    rw [← hW1]; exact World.alloc_heap_new w _
  have e2 : W.heap[w.heap.size + 1]? = some (.cells (evCells e (.slice sa e.val.items.length sc)) 61 (0, 0)) := by
    refine (b3.block _ (by omega)).trans ?_
    rw [← hW2, ← z1]; exact World.alloc_heap_new W1 _
  have e3 : W.heap[w.heap.size + 2]? = some (.cells #[.slice none 0 0, .slice none 0 0, .slice none 0 0] 25 (0, 0)) := by rw [← hW, ← z2]; exact World.alloc_heap_new W2 _
  have hgW := hg.below bW
  have HFD := hide (find_k7 g.procs e.proc W _ _ (NamesAt.row hgW.pr (by omega)) (Nat.le_refl _))
  have hclA : ClAt W W.heap.size (.slice a2 g.calls.length c2) g.calls := by
    have h1 := hgW.cl
    rw [← hrl] at h1
    have h2 := (HvsAt.row h1 (by omega)).cl
    rw [hg.same, hrl] at h2
    exact h2
  have HOP := hide (fun (p : Nat) => open_k7 W (.slice a0 g.procs.length c0) (.slice a1 g.objs.length c1) (.slice a2 g.calls.length c2) ⟨_, _, _, rfl⟩ ⟨_, _, _, rfl⟩ g.calls hclA p)
  have x0 := cells_at e1 0 _ rfl
  have x1 := cells_at e1 1 _ rfl
  have x2 := cells_at e1 2 _ rfl
  have y0 := cells_at e2 0 _ rfl
  have y1 := cells_at e2 1 _ rfl
  have BW := hide bW
  have E1 := hide e1
  have E2 := hide e2
  have E3 := hide e3
  have HG := hide hgW
  have Z3 := hide z3
  clear hclA e1 e2 e3 bW b1 b2 b3 hgW z3
  have hk2 : (e.kind == 2) = false := by simp [hk]
  have hgz := hg.sz
  have hf := fnd_no hm
  have hadd : addN g.procs e.proc = g.procs ++ [e.proc] := if_neg hm
  have HIX := hide (List.idxOf_eq_length hm)
  rw [hf] at HFD
  clear HOP hf
  have HADD := hide hadd
  clear hadd _hw hm hk
  have hfo := fnd_no hmo
  have haddo : addN g.objs e.obj = g.objs ++ [e.obj] := if_neg hmo
  have HJX := hide (List.idxOf_eq_length hmo)
  have HADO := hide haddo
  have HFO := hide hfo
  clear haddo hmo hfo
  obtain ⟨gp, cp, WA, hrun, rA, grA, lieA⟩ := strPushH HG.out.pr (by have := Z3.out; omega) hl0 (bsN e.proc) 22
  have HRN := hide hrun
  have hz3 := Z3.out
  have ne : ∀ {v : Value} {t : TypeId} {z m : Nat} {xs : List Value} {b : Nat}, w.ownsRow h0 t z v m xs → w.heap.size ≤ b → v.ownBlock ≠ some b := fun hr hb ex => by have := (hr.lt _ ex).2; omega
  have pA := (grA.block w.heap.size (by omega) (fun h => ne hg.pr (Nat.le_refl _) h.symm)).trans E1.out
  have vA := (grA.block (w.heap.size + 1) (by omega) (fun h => ne hg.pr (by omega) h.symm)).trans E2.out
  have sA := (grA.block (w.heap.size + 2) (by omega) (fun h => ne hg.pr (by omega) h.symm)).trans E3.out
  have rA' : WA.ownsRow h0 9 1 (.slice (some ⟨gp, 0, none⟩) (g.procs.length + 1) cp) (g.procs.length + 1) (strs (g.procs ++ [e.proc])) := by simpa [strs] using rA
  have gA := HG.out.procd e.proc rA' grA lieA
  have kA : Keeps (fun y => (Value.slice a0 g.procs.length c0).ownBlock = some y) W WA := Keeps.grown grA (fun r e => e)
  have zA := kA.size
  have pA0 := cells_at pA 0 _ rfl
  have pAf := frozen_at pA 0
  have P1 := hide (heap_setCell_same _ _ 0 _ _ (.slice (some ⟨gp, 0, none⟩) (g.procs.length + 1) cp) pA)
  have kS := Keeps.set WA w.heap.size 0 (.slice (some ⟨gp, 0, none⟩) (g.procs.length + 1) cp)
  have gpn : gp ≠ w.heap.size := fun h => by
    rcases lieA with l | l
    · exact ne hg.pr (Nat.le_refl _) (by rw [l, h])
    · omega
  have nI : ∀ b, I b → b < w.heap.size := fun b hb => (hg.no b hb).1
  obtain ⟨U, hU⟩ : ∃ U, WA.setCell ⟨w.heap.size, 0, none⟩ (.slice (some ⟨gp, 0, none⟩) (g.procs.length + 1) cp) = U := ⟨_, rfl⟩
  rw [hU] at P1 kS
  have G1 := hide (gA.keep kS (fun h => by have := nI _ h; omega) (fun h => gpn (Option.some.inj h)) (ne hg.ob (Nat.le_refl _)) (ne hg.cl (Nat.le_refl _)))
  have V1 := hide ((kS.block (w.heap.size + 1) (by omega) (by omega)).trans vA)
  have R1 := hide ((kS.block (w.heap.size + 2) (by omega) (by omega)).trans sA)
  have zU := kS.size
  have BU := hide (((BW.out.mono hgz).trans (kA.toBelow (by omega) (fun x h => (hg.pr.lt x h).1))).trans (kS.toBelow (by omega) (fun x h => by omega)))
  have NI := hide nI
  have NE0 : Hid (∀ b, w.heap.size ≤ b → b < w.heap.size + 3 → (Value.slice (some ⟨gp, 0, none⟩) (g.procs.length + 1) cp).ownBlock ≠ some b) := hide (fun b h1 h2 ex => by
    have e' : gp = b := Option.some.inj ex
    rcases lieA with l | l
    · exact ne hg.pr h1 (by rw [l, e'])
    · omega)
  clear hrun rA grA lieA pA vA sA rA' gA kA kS ne nI gpn hz3
  go_enter Tryz.func55, Tryz.ntmps55
  go_upto_region 3 with (go_at_call 64; refine HFD.out.mono ?_; clear HFD; rintro r w9 ⟨rfl, rfl⟩)
  go_upto_region 15 with (fail)
  go_upto_region 16 with ((at_builtin; refine Lib.wpList_append_run _ rfl (.tmp 51) (.tmp 54) 22 22 rfl _ _ rfl rfl _ _ HRN.out ?_; clear HRN))
  (try rw [hU])
  clear hU x0 x1 x2 y0 y1 pA0 pAf
  have P2 : Hid (U.heap[w.heap.size]? = some (.cells #[.slice (some ⟨gp, 0, none⟩) (g.procs.length + 1) cp, .slice a1 g.objs.length c1, .slice a2 g.calls.length c2] 25 (0, 0))) := hide P1.out
  have zU3 : w.heap.size + 3 ≤ U.heap.size := by have := Z3.out; omega
  clear zU P1
  have HFD2 := hide (find_k7 g.objs e.obj U _ _ (NamesAt.row G1.out.ob (by omega)) (Nat.le_refl _))
  rw [HFO.out] at HFD2
  have x1 := cells_at P2.out 1 _ rfl
  have y2 := cells_at V1.out 2 _ rfl
  clear zA
  obtain ⟨go, co, WB, hrunB, rB, grB, lieB⟩ := strPushH G1.out.ob (by omega) hl1 (bsN e.obj) 22
  have HRB := hide hrunB
  have neB : ∀ b, w.heap.size ≤ b → (Value.slice a1 g.objs.length c1).ownBlock ≠ some b := fun b hb ex => by have := (hg.ob.lt _ ex).2; omega
  have pB := (grB.block w.heap.size (by omega) (fun h => neB _ (Nat.le_refl _) h.symm)).trans P2.out
  have vB := (grB.block (w.heap.size + 1) (by omega) (fun h => neB _ (by omega) h.symm)).trans V1.out
  have sB := (grB.block (w.heap.size + 2) (by omega) (fun h => neB _ (by omega) h.symm)).trans R1.out
  have rB' : WB.ownsRow h0 9 1 (.slice (some ⟨go, 0, none⟩) (g.objs.length + 1) co) (g.objs.length + 1) (strs (g.objs ++ [e.obj])) := by simpa [strs] using rB
  have gB := G1.out.objd e.obj rB' grB lieB
  have kB : Keeps (fun y => (Value.slice a1 g.objs.length c1).ownBlock = some y) U WB := Keeps.grown grB (fun r e => e)
  have zB := kB.size
  have pB1 := cells_at pB 1 _ rfl
  have pBf := frozen_at pB 1
  have P3 := hide (heap_setCell_same _ _ 1 _ _ (.slice (some ⟨go, 0, none⟩) (g.objs.length + 1) co) pB)
  have kT := Keeps.set WB w.heap.size 1 (.slice (some ⟨go, 0, none⟩) (g.objs.length + 1) co)
  have NE1 : Hid (∀ b, w.heap.size ≤ b → b < w.heap.size + 3 → (Value.slice (some ⟨go, 0, none⟩) (g.objs.length + 1) co).ownBlock ≠ some b) := hide (fun b h1 h2 ex => by
    have e' : go = b := Option.some.inj ex
    rcases lieB with l | l
    · exact neB b h1 (by rw [l, e'])
    · omega)
  obtain ⟨V, hV⟩ : ∃ V, WB.setCell ⟨w.heap.size, 1, none⟩ (.slice (some ⟨go, 0, none⟩) (g.objs.length + 1) co) = V := ⟨_, rfl⟩
  rw [hV] at P3 kT
  have G3 := hide (gB.keep kT (fun h => by have := NI.out _ h; omega) (NE0.out _ (Nat.le_refl _) (by omega)) (NE1.out _ (Nat.le_refl _) (by omega)) (fun h => by have := (hg.cl.lt _ h).2; omega))
  have V3 := hide ((kT.block (w.heap.size + 1) (by omega) (by omega)).trans vB)
  have R3 := hide ((kT.block (w.heap.size + 2) (by omega) (by omega)).trans sB)
  have zT := kT.size
  have hgU := G1.out.sz
  have BV := hide ((BU.out.trans (kB.toBelow (by omega) (fun x h => (hg.ob.lt x h).1))).trans (kT.toBelow (by omega) (fun x h => by omega)))
  have zU4 : w.heap.size + 3 ≤ V.heap.size := by omega
  clear hrunB rB grB lieB pB vB sB rB' gB kB kT neB zB zT hgU
  go_upto_region 17 with (go_at_call 64; refine HFD2.out.mono ?_; clear HFD2; rintro r w9 ⟨rfl, rfl⟩)
  go_upto_region 19 with (fail)
  go_upto_region 20 with ((at_builtin; refine Lib.wpList_append_run _ rfl (.tmp 68) (.tmp 71) 22 22 rfl _ _ rfl rfl _ _ HRB.out ?_; clear HRB))
  (try rw [hV])
  clear hV x1 y2 pB1 pBf zU3 P2 G1 V1 R1 BU
  have zU3 := zU4
  clear zU4
  have hgV := G3.out.sz
  have HCP := hide (fun (X : World) (b : Below V.heap.size V X) => refCopy_k e.val X (n + 1) (.slice sa e.val.items.length sc) hz ((hi.below ((BV.out.trans (b.mono (by omega))).mono hB)).up (by have := b.size; omega)))
  have HSS := hide (fun (U : World) (hp : U.heap[w.heap.size]? = V.heap[w.heap.size]?) (hv : U.heap[w.heap.size + 1]? = V.heap[w.heap.size + 1]?) => (show U.cell? ⟨w.heap.size, 2, none⟩ = some (.slice a2 g.calls.length c2) ∧ U.cell? ⟨w.heap.size + 1, 3, none⟩ = some (.string (bsN e.op)) ∧ U.cell? ⟨w.heap.size + 1, 4, none⟩ = some (.int .i64 e.val.kind) ∧ U.cell? ⟨w.heap.size + 1, 5, none⟩ = some (.int .i64 e.val.int) ∧ U.cell? ⟨w.heap.size + 1, 6, none⟩ = some (.int .i64 e.val.im) ∧ U.cell? ⟨w.heap.size + 1, 7, none⟩ = some (.string e.val.text) ∧ U.cell? ⟨w.heap.size + 1, 8, none⟩ = some (.slice sa e.val.items.length sc) from by
    have h1 := hp.trans P3.out
    have h2 := hv.trans V3.out
    exact ⟨cells_at h1 2 _ rfl, cells_at h2 3 _ rfl, cells_at h2 4 _ rfl, cells_at h2 5 _ rfl, cells_at h2 6 _ rfl, cells_at h2 7 _ rfl, cells_at h2 8 _ rfl⟩))
  have HS1 := hide (HSS.out V.drew rfl rfl)
  refine wp_region_E 14 15 (fun U => U.cell? ⟨w.heap.size, 2, none⟩ = some (.slice a2 g.calls.length c2) ∧ U.cell? ⟨w.heap.size + 1, 3, none⟩ = some (.string (bsN e.op)) ∧ U.cell? ⟨w.heap.size + 1, 4, none⟩ = some (.int .i64 e.val.kind) ∧ U.cell? ⟨w.heap.size + 1, 5, none⟩ = some (.int .i64 e.val.int) ∧ U.cell? ⟨w.heap.size + 1, 6, none⟩ = some (.int .i64 e.val.im) ∧ U.cell? ⟨w.heap.size + 1, 7, none⟩ = some (.string e.val.text) ∧ U.cell? ⟨w.heap.size + 1, 8, none⟩ = some (.slice sa e.val.items.length sc)) (by kernel_rfl) (by kernel_rfl) (by kernel_rfl) (by kernel_rfl) (by decide) (by kernel_rfl) ?_
  intro hsk inv
  refine wpAnyE_take (i := 0) (v := ?v0) hsk inv (by decide) rfl (by kernel_rfl) (by kernel_rfl) (fun _ _ _ h => h) (Or.inl ⟨by rfl, ?hy0⟩) HS1.out ?rest0
  case hy0 => intro U hSU; (try dsimp only at hSU); go_simp; (try with_reducible rfl)
  case rest0 =>
  clear inv
  intro inv
  (try simp only [Act.put, List.setIfInBounds_toArray])
  refine wpAnyE_take (i := 1) (v := ?v1) hsk inv (by decide) rfl (by kernel_rfl) (by kernel_rfl) (fun _ _ _ h => h) (Or.inl ⟨by rfl, ?hy1⟩) HS1.out ?rest1
  case hy1 => intro U hSU; (try dsimp only at hSU); go_simp; (try with_reducible rfl)
  case rest1 =>
  clear inv
  intro inv
  (try simp only [Act.put])
  refine wpAnyE_take (i := 2) (v := ?v2) hsk inv (by decide) rfl (by kernel_rfl) (by kernel_rfl) (fun _ _ _ h => h) (Or.inl ⟨by rfl, ?hy2⟩) HS1.out ?rest2
  case hy2 => intro U hSU; (try dsimp only at hSU); go_simp; (try with_reducible rfl)
  case rest2 =>
  clear inv
  intro inv
  (try simp only [Act.put])
  refine wpAnyE_take (i := 3) (v := ?v3) hsk inv (by decide) rfl (by kernel_rfl) (by kernel_rfl) (fun _ _ _ h => h) (Or.inl ⟨by rfl, ?hy3⟩) HS1.out ?rest3
  case hy3 => intro U hSU; (try dsimp only at hSU); go_simp; (try with_reducible rfl)
  case rest3 =>
  clear inv
  intro inv
  (try simp only [Act.put])
  refine wpAnyE_take (i := 4) (v := ?v4) hsk inv (by decide) rfl (by kernel_rfl) (by kernel_rfl) (fun _ _ _ h => h) (Or.inl ⟨by rfl, ?hy4⟩) HS1.out ?rest4
  case hy4 => intro U hSU; (try dsimp only at hSU); go_simp; (try with_reducible rfl)
  case rest4 =>
  clear inv
  intro inv
  (try simp only [Act.put])
  refine wpAnyE_take (i := 5) (v := ?v5) hsk inv (by decide) rfl (by kernel_rfl) (by kernel_rfl) (fun _ _ _ h => h) (Or.inl ⟨by rfl, ?hy5⟩) HS1.out ?rest5
  case hy5 => intro U hSU; (try dsimp only at hSU); go_simp; (try with_reducible rfl)
  case rest5 =>
  clear inv
  intro inv
  (try simp only [Act.put])
  refine wpAnyE_take (i := 6) (v := ?v6) hsk inv (by decide) rfl (by kernel_rfl) (by kernel_rfl) (fun _ _ _ h => h) (Or.inl ⟨by rfl, ?hy6⟩) HS1.out ?rest6
  case hy6 => intro U hSU; (try dsimp only at hSU); go_simp; (try with_reducible rfl)
  case rest6 =>
  clear inv
  intro inv
  (try simp only [Act.put])
  refine wpAnyE_take (i := 7) (v := ?v7) hsk inv (by decide) rfl (by kernel_rfl) (by kernel_rfl) (fun _ _ _ h => h) (Or.inl ⟨by rfl, ?hy7⟩) HS1.out ?rest7
  case hy7 => intro U hSU; (try dsimp only at hSU); go_simp; (try with_reducible rfl)
  case rest7 =>
  clear inv
  intro inv
  (try simp only [Act.put])
  refine wpAnyE_take (i := 9) (v := ?v9) hsk inv (by decide) rfl (by kernel_rfl) (by kernel_rfl) (fun _ _ _ h => h) (Or.inl ⟨by rfl, ?hy9⟩) HS1.out ?rest9
  case hy9 => intro U hSU; (try dsimp only at hSU); go_simp; (try with_reducible rfl)
  case rest9 =>
  clear inv
  intro inv
  (try simp only [Act.put])
  refine wpAnyE_one (i := 8) inv (by decide) (by kernel_rfl) rfl (fun K hK => ?_)
  go_simp
  go_at_call 38
  refine (HCP.out _ (drewB 1 V)).mono ?_
  rintro r w4 ⟨s', rfl, hi4, _, hor4, b4⟩
  have bV4 : Below V.heap.size V w4 := trans_v (drewB 1 V) b4
  have z4 := bV4.size
  have HS4 := hide (HSS.out w4 (bV4.block _ (by omega)) (bV4.block _ (by omega)))
  obtain ⟨s1', s3', rfl, _⟩ := hi4.len
  have g4 := G3.out.below bV4
  obtain ⟨q5, cap5, w5, hrun, r5, gr5, lie5⟩ := callPush g4.cl (by omega) hl2 (⟨g.procs.length, g.objs.length, e.op, e.val, at', -1, zeroVl⟩, .slice s1' e.val.items.length s3', .slice none 0 0) 23 ⟨_, _, _, rfl⟩ ⟨_, _, _, rfl⟩
  have HRUN := hide hrun
  have HOR := hide hor4
  have G4 := hide g4
  have B4 := hide bV4
  have R5 := hide (And.intro r5 (And.intro gr5 lie5))
  have hneq : ∀ b, w.heap.size ≤ b → b < w.heap.size + 3 → (Value.slice a2 g.calls.length c2).ownBlock ≠ some b := fun b h1 h2 ex => by have := (hg.cl.lt _ ex).2; omega
  have p5 := gr5.block w.heap.size (by omega) (fun h => hneq _ (Nat.le_refl _) (by omega) h.symm)
  have v5 := gr5.block (w.heap.size + 1) (by omega) (fun h => hneq _ (by omega) (by omega) h.symm)
  have s5 := gr5.block (w.heap.size + 2) (by omega) (fun h => hneq _ (by omega) (by omega) h.symm)
  have P5 := hide (p5.trans ((bV4.block _ (by omega)).trans P3.out))
  have RR5 := hide (s5.trans ((bV4.block _ (by omega)).trans R3.out))
  have HS6 := hide (HSS.out w5 (p5.trans (bV4.block _ (by omega))) (v5.trans (bV4.block _ (by omega))))
  have bA : Below w4.heap.size w4 (w4.alloc (.cells ⟨clOf (⟨g.procs.length, g.objs.length, e.op, e.val, at', -1, zeroVl⟩, .slice s1' e.val.items.length s3', .slice none 0 0)⟩ 69)) := alloc_v (Below.refl _ _) _
  have HS5 := hide (HSS.out (w4.alloc (.cells ⟨clOf (⟨g.procs.length, g.objs.length, e.op, e.val, at', -1, zeroVl⟩, .slice s1' e.val.items.length s3', .slice none 0 0)⟩ 69)) ((bA.block _ (by omega)).trans (bV4.block _ (by omega))) ((bA.block _ (by omega)).trans (bV4.block _ (by omega))))
  have m0 := cells_at P5.out 0 _ rfl
  have m1 := cells_at P5.out 1 _ rfl
  have m2 := cells_at P5.out 2 _ rfl
  have mf := frozen_at P5.out 2
  have HNQ := hide hneq
  clear hi4 hor4 b4 bV4 g4 hrun r5 gr5 lie5 p5 v5 s5 bA hneq
  refine hK.out _ _ HS4.out ?_
  clear hK K inv
  intro inv
  (try simp only [Act.put, List.setIfInBounds_toArray, List.set_cons_zero, List.set_cons_succ])
  refine wpAnyE_take (i := 10) (v := ?v10) hsk inv (by decide) rfl (by kernel_rfl) (by kernel_rfl) (fun _ _ _ h => h) (Or.inl ⟨by rfl, ?hy10⟩) HS4.out ?rest10
  case hy10 => intro U hSU; (try dsimp only at hSU); go_simp; (try with_reducible rfl)
  case rest10 =>
  clear inv
  intro inv
  (try simp only [Act.put, List.setIfInBounds_toArray])
  refine wpAnyE_one (i := 11) inv (by decide) (by kernel_rfl) rfl (fun K hK => ?_)
  go_simp
  refine hK.out _ _ HS5.out ?_
  clear hK K inv
  intro inv
  (try simp only [Act.put, List.setIfInBounds_toArray, List.set_cons_zero, List.set_cons_succ])
  refine wpAnyE_one (i := 12) inv (by decide) (by kernel_rfl) rfl (fun K hK => ?_)
  refine step_ex _ (by rfl) (.tmp 75) (.tmp 85) 23 (by rfl) _ _ (by rfl) (by rfl) (fun v' w' => v' = .slice (some ⟨q5, 0, none⟩) (g.calls.length + 1) cap5 ∧ w' = w5) ⟨_, _, HRUN.out, rfl, rfl⟩ ?_
  rintro v4 w6 ⟨rfl, rfl⟩
  refine hK.out _ _ HS6.out ?_
  clear hK K inv HRUN
  intro inv
  (try simp only [Act.put, List.setIfInBounds_toArray])
  refine wpAnyE_take (i := 13) (v := ?v13) hsk inv (by decide) rfl (by kernel_rfl) (by kernel_rfl) (fun _ _ _ h => h) (Or.inl ⟨by rfl, ?hy13⟩) HS6.out ?rest13
  case hy13 => intro U hSU; (try dsimp only at hSU); go_simp; (try with_reducible rfl)
  case rest13 =>
  clear inv
  intro inv
  (try simp only [Act.put])
  refine wpAnyE_last (by kernel_rfl) (by kernel_rfl) rfl (fun K hK => ?_)
  go_simp
  refine hK.out _ _ ?_
  clear hK K
  obtain ⟨X, hX⟩ : ∃ X, w6.setCell ⟨w.heap.size, 2, none⟩ (.slice (some ⟨q5, 0, none⟩) (g.calls.length + 1) cap5) = X := ⟨_, rfl⟩
  have P6 := heap_setCell_same _ _ 2 _ _ (.slice (some ⟨q5, 0, none⟩) (g.calls.length + 1) cap5) P5.out
  have kS := Keeps.set w6 w.heap.size 2 (.slice (some ⟨q5, 0, none⟩) (g.calls.length + 1) cap5)
  rw [hX] at P6 kS
  rw [hX]
  clear hX m0 m1 m2 mf
  have zz4 := B4.out.size
  have zz6 := R5.out.2.1.size
  have zzX := kS.size
  have F3 := hide ((kS.block (w.heap.size + 2) (by omega) (by omega)).trans RR5.out)
  have u0 := cells_at P6 0 _ rfl
  have u1 := cells_at P6 1 _ rfl
  have u2 := cells_at P6 2 _ rfl
  have r0 := cells_at F3.out 0 _ rfl
  have r1 := cells_at F3.out 1 _ rfl
  have r2 := cells_at F3.out 2 _ rfl
  have q0 := frozen_at F3.out 0
  have q1 := frozen_at F3.out 1
  have q2 := frozen_at F3.out 2
  have KS := hide kS
  clear P6 kS
  go_wp2
  have g1 := heap_setCell_same _ _ 0 _ _ (.slice (some ⟨gp, 0, none⟩) (g.procs.length + 1) cp) F3.out
  have g2 := heap_setCell_same _ _ 1 _ _ (.slice (some ⟨go, 0, none⟩) (g.objs.length + 1) co) g1
  have g3 := heap_setCell_same _ _ 2 _ _ (.slice (some ⟨q5, 0, none⟩) (g.calls.length + 1) cap5) g2
  refine bodyPost_ret (results_struct_tmpH rfl _ _ (w.heap.size + 2) _ _ _ _ rfl g3 Tryz.underlying25 rfl infoPast) rfl ?_
  have kp := ((Keeps.set X (w.heap.size + 2) 0 (.slice (some ⟨gp, 0, none⟩) (g.procs.length + 1) cp)).trans (Keeps.set _ (w.heap.size + 2) 1 (.slice (some ⟨go, 0, none⟩) (g.objs.length + 1) co)) (fun _ _ h => h)).trans (Keeps.set _ (w.heap.size + 2) 2 (.slice (some ⟨q5, 0, none⟩) (g.calls.length + 1) cap5)) (fun _ _ h => h)
  obtain ⟨r5, gr5, lie5⟩ := R5.out
  have bl6 : Below h0 w4 w6 := (Keeps.grown (M := fun y => (Value.slice a2 g.calls.length c2).ownBlock = some y) gr5 (fun r e => e)).toBelow (by omega) (fun x h => (hg.cl.lt x h).1)
  have b4w : Below h0 w w4 := BV.out.trans (B4.out.mono (by omega))
  have bX : Below h0 w X := (b4w.trans bl6).trans (KS.out.toBelow (by omega) (fun x h => by omega))
  have hnr : ∀ {v : Value} {t : TypeId} {z m : Nat} {xs : List Value}, V.ownsRow h0 t z v m xs → ∀ b, (b < h0 ∨ V.heap.size ≤ b) → v.ownBlock ≠ some b := fun hr b hb ex => by
    have := hr.lt b ex
    omega
  have NE2 : ∀ b, w.heap.size ≤ b → b < w.heap.size + 3 → (Value.slice (some ⟨q5, 0, none⟩) (g.calls.length + 1) cap5).ownBlock ≠ some b := fun b h1 h2 ex => by
    have e' : q5 = b := Option.some.inj ex
    rcases lie5 with l | l
    · exact HNQ.out b h1 h2 (by rw [l, e'])
    · omega
  have hzi : ∀ J : Nat → Prop, ItemsIn w4 J (n + 1) (.slice none 0 0) zeroVl.items := fun J => ⟨none, 0, rfl, by simp [zeroVl], fun j h => absurd h (by simp [zeroVl])⟩
  have hzok : zeroVl.ok := by refine ⟨by show 0 ≤ 1048576; omega, ?_, ?_⟩ <;> (show (-9223372036854775808 : Int) ≤ 0 ∧ (0 : Int) ≤ 9223372036854775807; omega)
  have hzz : zeroVl.size ≤ 1000000000 := by rw [Vl.size_eq]; simp [zeroVl]
  refine ⟨?_, bX.trans (kp.toBelow (by omega) (fun x h => by omega))⟩
  rw [HADD.out, HADO.out, HIX.out, HJX.out]
  rcases HOR.out with hs | hs
  · have hin : ItemsIn w4 (fun b => b < B) (n + 1) (.slice s1' e.val.items.length s3') e.val.items := by rw [hs]; exact (hi.below (b4w.mono hB)).toIn
    have ha := G4.out.pushed (⟨g.procs.length, g.objs.length, e.op, e.val, at', -1, zeroVl⟩, .slice s1' e.val.items.length s3', .slice none 0 0) r5 gr5 lie5 ⟨hin, hzi _, he.val, hzok, hz, hzz, he.op⟩ (fun b hb => ⟨by omega, hnr G3.out.pr b (.inl (by omega)), hnr G3.out.ob b (.inl (by omega)), hnr G3.out.cl b (.inl (by omega))⟩)
    have hfin := (ha.keep KS.out (fun h => by rcases h with h | h; (have := NI.out _ h; omega); omega) (NE0.out _ (by omega) (by omega)) (NE1.out _ (by omega) (by omega)) (NE2 _ (by omega) (by omega))).keep kp (fun h => by rcases h with h | h; (have := NI.out _ h; omega); omega) (NE0.out _ (by omega) (by omega)) (NE1.out _ (by omega) (by omega)) (NE2 _ (by omega) (by omega))
    have hI2 : ∀ b, (I b ∨ b < B) → I b ∨ b < B ∨ w.heap.size ≤ b := fun b h => by rcases h with h | h; exact .inl h; first | exact .inr (.inl h) | exact .inr (.inr (by omega))
    first | exact ⟨_, _, _, _, _, rfl, hfin, hI2⟩ | exact ⟨_, _, _, rfl, _, _, hfin, hI2⟩ | exact ⟨_, _, _, rfl, _, ⟨_, hfin⟩, hI2⟩ | exact ⟨_, _, _, _, ⟨_, rfl, hfin⟩, hI2⟩
  · have hin : ItemsIn w4 (fun b => V.heap.size ≤ b ∧ b < w4.heap.size) (n + 1) (.slice s1' e.val.items.length s3') e.val.items := hs
    have ha := G4.out.pushed (⟨g.procs.length, g.objs.length, e.op, e.val, at', -1, zeroVl⟩, .slice s1' e.val.items.length s3', .slice none 0 0) r5 gr5 lie5 ⟨hin, hzi _, he.val, hzok, hz, hzz, he.op⟩ (fun b hb => ⟨hb.2, hnr G3.out.pr b (.inr hb.1), hnr G3.out.ob b (.inr hb.1), hnr G3.out.cl b (.inr hb.1)⟩)
    have hfin := (ha.keep KS.out (fun h => by rcases h with h | h; (have := NI.out _ h; omega); omega) (NE0.out _ (by omega) (by omega)) (NE1.out _ (by omega) (by omega)) (NE2 _ (by omega) (by omega))).keep kp (fun h => by rcases h with h | h; (have := NI.out _ h; omega); omega) (NE0.out _ (by omega) (by omega)) (NE1.out _ (by omega) (by omega)) (NE2 _ (by omega) (by omega))
    have hI2 : ∀ b, (I b ∨ V.heap.size ≤ b ∧ b < w4.heap.size) → I b ∨ b < B ∨ w.heap.size ≤ b := fun b h => by rcases h with h | h; exact .inl h; first | exact .inr (.inl h) | exact .inr (.inr (by omega))
    first | exact ⟨_, _, _, _, _, rfl, hfin, hI2⟩ | exact ⟨_, _, _, rfl, _, _, hfin, hI2⟩ | exact ⟨_, _, _, rfl, _, ⟨_, hfin⟩, hI2⟩ | exact ⟨_, _, _, _, ⟨_, rfl, hfin⟩, hI2⟩
end Go.Proofs.YtnmkggoampkekaaGreatDoor
