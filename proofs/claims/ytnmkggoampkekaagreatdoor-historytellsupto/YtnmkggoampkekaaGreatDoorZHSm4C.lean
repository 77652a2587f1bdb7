/- The reference's Same of two that differ first in field 2 of an operation. -/
import Derived.Test.YtnmkggoampkekaaGreatDoorGHSmG
namespace Go.Proofs.YtnmkggoampkekaaGreatDoor
open Go.RowKit Go.Maps

set_option maxRecDepth 100000 in
set_option maxHeartbeats 8000000 in
theorem sameP_d2 (w : World) (n m : Nat) (v0 v1 v2 u0 u1 u2 : Value) (P O : List (List UInt8)) (cs cs' : List HV) (h : HPast w w.heap.size n v0 v1 v2 P O cs) (h' : HPast w w.heap.size m u0 u1 u2 P O cs') (k0 : Nat) (hk0 : k0 < cs.length) (hk0' : k0 < cs'.length) (hlen : cs.length = cs'.length) (hpre : ∀ j (h : j < cs.length) (h' : j < cs'.length), j < k0 → cs[j].1 = cs'[j].1) (hat : cs[k0].1.proc = cs'[k0].1.proc ∧ cs[k0].1.obj = cs'[k0].1.obj ∧ cs[k0].1.op ≠ cs'[k0].1.op) :
    Calls Tryz.prog 40 #[.agg #[v0, v1, v2], .agg #[u0, u1, u2]] w fun e w' => e = .returned (.bool false) ∧ Below w.heap.size w w' := by
  obtain ⟨W, hW⟩ : ∃ W, (w.alloc (.cells #[v0, v1, v2] 25)).alloc (.cells #[u0, u1, u2] 25) = W := ⟨_, rfl⟩
  have bW : Below w.heap.size w W := by rw [← hW]; exact alloc_v (alloc_v (Below.refl _ _) _) _
  have e1 : W.heap[w.heap.size]? = some (.cells #[v0, v1, v2] 25 (0, 0)) := by rw [← hW]; exact (Below.heap_alloc _ _ _ (by simp)).trans (World.alloc_heap_new w _)
  have e2 : W.heap[w.heap.size + 1]? = some (.cells #[u0, u1, u2] 25 (0, 0)) := by rw [← hW]; have := World.alloc_heap_new (w.alloc (.cells #[v0, v1, v2] 25)) (.cells #[u0, u1, u2] 25); rwa [World.size_alloc] at this
  have zW : W.heap.size = w.heap.size + 2 := by rw [← hW]; simp
  have HN0 := hide (names_k7 P P W w.heap.size w.heap.size v0 u0 (h.pr.below bW) (h'.pr.below bW) bW.size bW.size)
  have HN1 := hide (fun (U : World) (b : Below W.heap.size W U) => names_k7 O O U w.heap.size w.heap.size v1 u1 (h.ob.below (trans_v bW b)) (h'.ob.below (trans_v bW b)) (trans_v bW b).size (trans_v bW b).size)
  have HH := hide h
  have HH' := hide h'
  obtain ⟨a0, c0, rfl, _⟩ := h.pr.len
  obtain ⟨a1, c1, rfl, _⟩ := h.ob.len
  obtain ⟨a2, c2, rfl, hl2⟩ := h.cl.len
  obtain ⟨a3, c3, rfl, _⟩ := h'.pr.len
  obtain ⟨a4, c4, rfl, _⟩ := h'.ob.len
  obtain ⟨a5, c5, rfl, hl5⟩ := h'.cl.len
  have x0 := cells_at e1 0 _ rfl
  have x1 := cells_at e1 1 _ rfl
  have x2 := cells_at e1 2 _ rfl
  have y0 := cells_at e2 0 _ rfl
  have y1 := cells_at e2 1 _ rfl
  have y2 := cells_at e2 2 _ rfl
  have E1 := hide e1
  have E2 := hide e2
  have HZ := hide zW
  clear e1 e2 h h' zW
  rw [decide_eq_true rfl] at HN0
  have HN1' : Hid (∀ (U : World), Below W.heap.size W U → Calls Tryz.prog 57 #[.slice a1 O.length c1, .slice a4 O.length c4] U fun e w' => e = .returned (.bool true) ∧ Below U.heap.size U w') := hide (fun U b => by
    have := HN1.out U b
    rwa [decide_eq_true rfl] at this)
  have hne : ((cs.length : Int) != (cs'.length : Int)) = false := by simp [hlen]
  have HL := hide hlen
  have HPRE := hide hpre
  have HAT := hide hat
  clear hlen HN1 hpre hat
  go_enter Tryz.func40, Tryz.ntmps40
  go_upto_if 30 with (first
    | (go_at_call 57; refine HN0.out.mono ?_; clear HN0; rintro r w1 ⟨rfl, b1⟩; have f1 := (b1.block _ (show w.heap.size < W.heap.size by have := HZ.out; omega)).trans E1.out; have f2 := (b1.block _ (show w.heap.size + 1 < W.heap.size by have := HZ.out; omega)).trans E2.out; have t1 := cells_at f1 1 _ rfl; have t2 := cells_at f1 2 _ rfl; have s1 := cells_at f2 1 _ rfl; have s2 := cells_at f2 2 _ rfl; clear f1 f2 x0 x1 x2 y0 y1 y2)
    | (go_at_call 57; refine (HN1'.out _ b1).mono ?_; clear HN1'; rintro r w2 ⟨rfl, b2⟩; have b12 := trans_v b1 b2; have f1 := (b12.block _ (show w.heap.size < W.heap.size by have := HZ.out; omega)).trans E1.out; have f2 := (b12.block _ (show w.heap.size + 1 < W.heap.size by have := HZ.out; omega)).trans E2.out; have t2' := cells_at f1 2 _ rfl; have s2' := cells_at f2 2 _ rfl; clear f1 f2))
  have HB := hide b12
  clear b1 b2 b12 t1 t2 s1 s2 t2' s2' hne
  go_wp2
  go_loopw [5] (fun i wr => ∃ k : Nat, k ≤ k0 ∧ i = .int .i64 k ∧ Below W.heap.size W wr) (fun i _ => k0 - (intOf i).toNat)
  case atStart => exact ⟨0, Nat.zero_le _, rfl, HB.out⟩
  case round =>
    clear HB
    obtain ⟨k, hk, rfl, hbel⟩ := hrel
    have bw := trans_v bW hbel
    have hzz := HZ.out
    have f1 := (hbel.block _ (show w.heap.size < W.heap.size by omega)).trans E1.out
    have f2 := (hbel.block _ (show w.heap.size + 1 < W.heap.size by omega)).trans E2.out
    have x2 := cells_at f1 2 _ rfl
    have y2 := cells_at f2 2 _ rfl
    have hlt : k < cs.length := by omega
    have hlt' : k < cs'.length := by omega
    by_cases hkk : k < k0
    · have hcase := HPRE.out k hlt hlt' hkk
      obtain ⟨b3, o3, rfl, g3, p0, p1, p2, p3, p4, p5, p6, p7, p8, p9, p10, p11, p12, p13, p14⟩ := (HH.out.cl.below bw).item k hlt
      obtain ⟨b4, o4, rfl, g4, r0, r1, r2, r3, r4, r5, r6, r7, r8, r9, r10, r11, r12, r13, r14⟩ := (HH'.out.cl.below bw).item k hlt'
      obtain ⟨i1, i2, _⟩ := HH.out.its _ (List.getElem_mem hlt)
      obtain ⟨j1, j2, _⟩ := HH'.out.its _ (List.getElem_mem hlt')
      generalize cs'[k] = y at *
      generalize cs[k] = x at *
      obtain ⟨⟨xp, xo, xop, xg, xi, xr, xy⟩, sa, sr⟩ := x
      obtain ⟨⟨yp, yo, yop, yg, yi, yr, yy⟩, ta, tr⟩ := y
      dsimp only at *
      obtain ⟨xa, xc, e1, _⟩ := i1.len
      obtain ⟨xa', xc', e2, _⟩ := i2.len
      obtain ⟨ya1, yc1, e3, _⟩ := j1.len
      obtain ⟨ya2, yc2, e4, _⟩ := j2.len
      subst e1 e2 e3 e4
      · obtain ⟨h0, h1, h2, h5, h3, h4, h6⟩ := Ch.mk.inj hcase
        subst h0
        subst h1
        subst h2
        subst h3
        subst h4
        subst h5
        subst h6
        obtain ⟨U1, hU1⟩ : ∃ U, wr.alloc (.cells (hvArr (⟨xp, xo, xop, xg, xi, xr, xy⟩, .slice xa xg.items.length xc, .slice xa' xy.items.length xc')) 69) = U := ⟨_, rfl⟩
        obtain ⟨U, hU⟩ : ∃ U, U1.alloc (.cells (hvArr (⟨xp, xo, xop, xg, xi, xr, xy⟩, .slice ya1 xg.items.length yc1, .slice ya2 xy.items.length yc2)) 69) = U := ⟨_, rfl⟩
        have d1 : Below wr.heap.size wr U1 := by rw [← hU1]; exact alloc_v (Below.refl _ _) _
        have d2 : Below U1.heap.size U1 U := by rw [← hU]; exact alloc_v (Below.refl _ _) _
        have n1 : U1.heap.size = wr.heap.size + 1 := by rw [← hU1]; simp
        have n2 : U.heap.size = wr.heap.size + 2 := by rw [← hU]; simp [n1]
        have k1 : U1.heap[wr.heap.size]? = some (.cells (hvArr (⟨xp, xo, xop, xg, xi, xr, xy⟩, .slice xa xg.items.length xc, .slice xa' xy.items.length xc')) 69 (0, 0)) := by rw [← hU1]; exact World.alloc_heap_new wr _
        have k2 : U.heap[wr.heap.size + 1]? = some (.cells (hvArr (⟨xp, xo, xop, xg, xi, xr, xy⟩, .slice ya1 xg.items.length yc1, .slice ya2 xy.items.length yc2)) 69 (0, 0)) := by rw [← hU, ← n1]; exact World.alloc_heap_new U1 _
        have k1' := (d2.block _ (show wr.heap.size < U1.heap.size by omega)).trans k1
        have dd := trans_v d1 d2
        have HS1 := hide (sameV_k xg xg U w.heap.size n m (.slice xa xg.items.length xc) (.slice ya1 xg.items.length yc1) (by have := bw.size; omega) (i1.below (bw.trans (dd.mono bw.size))) (j1.below (bw.trans (dd.mono bw.size))))
        rw [decide_eq_true ((ordV_iff _ _).2 rfl)] at HS1
        have HS2 := hide (fun (V : World) (b : Below U.heap.size U V) => sameV_k xy xy V w.heap.size n m (.slice xa' xy.items.length xc') (.slice ya2 xy.items.length yc2) (by have := bw.size; have := b.size; omega) (i2.below ((bw.trans (dd.mono bw.size)).trans (b.mono (by have := bw.size; omega)))) (j2.below ((bw.trans (dd.mono bw.size)).trans (b.mono (by have := bw.size; omega)))))
        simp only [decide_eq_true ((ordV_iff xy xy).2 rfl)] at HS2
        have F1 := hide k1'
        have F2 := hide k2
        have HDD := hide (trans_v hbel dd)
        have N2 := hide n2
        have hb1 : b3 < wr.heap.size := by have := bw.size; omega
        have hb2 : b4 < U1.heap.size := by have := bw.size; omega
        have w0 := (d1.cell (p := ⟨b4, _, none⟩) (show b4 < wr.heap.size by have := bw.size; omega)).trans r0
        have w1 := (d1.cell (p := ⟨b4, _, none⟩) (show b4 < wr.heap.size by have := bw.size; omega)).trans r1
        have w2 := (d1.cell (p := ⟨b4, _, none⟩) (show b4 < wr.heap.size by have := bw.size; omega)).trans r2
        have w3 := (d1.cell (p := ⟨b4, _, none⟩) (show b4 < wr.heap.size by have := bw.size; omega)).trans r3
        have w4 := (d1.cell (p := ⟨b4, _, none⟩) (show b4 < wr.heap.size by have := bw.size; omega)).trans r4
        have w5 := (d1.cell (p := ⟨b4, _, none⟩) (show b4 < wr.heap.size by have := bw.size; omega)).trans r5
        have w6 := (d1.cell (p := ⟨b4, _, none⟩) (show b4 < wr.heap.size by have := bw.size; omega)).trans r6
        have w7 := (d1.cell (p := ⟨b4, _, none⟩) (show b4 < wr.heap.size by have := bw.size; omega)).trans r7
        have w8 := (d1.cell (p := ⟨b4, _, none⟩) (show b4 < wr.heap.size by have := bw.size; omega)).trans r8
        have w9 := (d1.cell (p := ⟨b4, _, none⟩) (show b4 < wr.heap.size by have := bw.size; omega)).trans r9
        have w10 := (d1.cell (p := ⟨b4, _, none⟩) (show b4 < wr.heap.size by have := bw.size; omega)).trans r10
        have w11 := (d1.cell (p := ⟨b4, _, none⟩) (show b4 < wr.heap.size by have := bw.size; omega)).trans r11
        have w12 := (d1.cell (p := ⟨b4, _, none⟩) (show b4 < wr.heap.size by have := bw.size; omega)).trans r12
        have w13 := (d1.cell (p := ⟨b4, _, none⟩) (show b4 < wr.heap.size by have := bw.size; omega)).trans r13
        have w14 := (d1.cell (p := ⟨b4, _, none⟩) (show b4 < wr.heap.size by have := bw.size; omega)).trans r14
        have y2' := (d1.cell (p := ⟨w.heap.size + 1, 2, none⟩) (show w.heap.size + 1 < wr.heap.size by have := hbel.size; omega)).trans y2
        have s0 := cells_at k1' 0 _ rfl
        have t0 := cells_at k2 0 _ rfl
        have s1 := cells_at k1' 1 _ rfl
        have t1 := cells_at k2 1 _ rfl
        have s2 := cells_at k1' 2 _ rfl
        have t2 := cells_at k2 2 _ rfl
        have s3 := cells_at k1' 3 _ rfl
        have t3 := cells_at k2 3 _ rfl
        have s4 := cells_at k1' 4 _ rfl
        have t4 := cells_at k2 4 _ rfl
        have s5 := cells_at k1' 5 _ rfl
        have t5 := cells_at k2 5 _ rfl
        have s6 := cells_at k1' 6 _ rfl
        have t6 := cells_at k2 6 _ rfl
        have s7 := cells_at k1' 7 _ rfl
        have t7 := cells_at k2 7 _ rfl
        have s8 := cells_at k1' 8 _ rfl
        have t8 := cells_at k2 8 _ rfl
        have s9 := cells_at k1' 9 _ rfl
        have t9 := cells_at k2 9 _ rfl
        clear i1 i2 j1 j2 k1 k2 k1' d1 d2 dd bw hbel f1 f2 g3 g4 r0 r1 r2 r3 r4 r5 r6 r7 r8 r9 r10 r11 r12 r13 r14 n2
        go_upto_if 96 with (first
          | (go_at_call 58; refine HS1.out.mono ?_; clear HS1; rintro r w5 ⟨rfl, b5⟩; have f5 := (b5.block _ (show wr.heap.size < U.heap.size by have := N2.out; omega)).trans F1.out; have f6 := (b5.block _ (show wr.heap.size + 1 < U.heap.size by have := N2.out; omega)).trans F2.out; have s10 := cells_at f5 10 _ rfl; have s11 := cells_at f5 11 _ rfl; have s12 := cells_at f5 12 _ rfl; have s13 := cells_at f5 13 _ rfl; have s14 := cells_at f5 14 _ rfl; have t10 := cells_at f6 10 _ rfl; have t11 := cells_at f6 11 _ rfl; have t12 := cells_at f6 12 _ rfl; have t13 := cells_at f6 13 _ rfl; have t14 := cells_at f6 14 _ rfl; have HS3 := hide (HS2.out _ b5); have B5 := hide b5; clear b5 f5 f6 HS2)
          | (go_at_call 58; refine HS3.out.mono ?_; clear HS3; rintro r w6 ⟨rfl, b6⟩; have B6 := hide (trans_v B5.out b6); clear b6))
        go_wp2
        go_roundw
        case rel => exact ⟨k + 1, by omega, by go_num, trans_v HDD.out B6.out⟩
        case measure => simp [intOf]; omega
    · have hke : k = k0 := by omega
      subst hke
      have hcase := HAT.out
      obtain ⟨b3, o3, rfl, g3, p0, p1, p2, p3, p4, p5, p6, p7, p8, p9, p10, p11, p12, p13, p14⟩ := (HH.out.cl.below bw).item k hlt
      obtain ⟨b4, o4, rfl, g4, r0, r1, r2, r3, r4, r5, r6, r7, r8, r9, r10, r11, r12, r13, r14⟩ := (HH'.out.cl.below bw).item k hlt'
      obtain ⟨i1, i2, _⟩ := HH.out.its _ (List.getElem_mem hlt)
      obtain ⟨j1, j2, _⟩ := HH'.out.its _ (List.getElem_mem hlt')
      generalize cs'[k] = y at *
      generalize cs[k] = x at *
      obtain ⟨⟨xp, xo, xop, xg, xi, xr, xy⟩, sa, sr⟩ := x
      obtain ⟨⟨yp, yo, yop, yg, yi, yr, yy⟩, ta, tr⟩ := y
      dsimp only at *
      obtain ⟨xa, xc, e1, _⟩ := i1.len
      obtain ⟨xa', xc', e2, _⟩ := i2.len
      obtain ⟨ya1, yc1, e3, _⟩ := j1.len
      obtain ⟨ya2, yc2, e4, _⟩ := j2.len
      subst e1 e2 e3 e4
      · obtain ⟨h0, h1, hd⟩ := hcase
        subst h0
        subst h1
        obtain ⟨U1, hU1⟩ : ∃ U, wr.alloc (.cells (hvArr (⟨xp, xo, xop, xg, xi, xr, xy⟩, .slice xa xg.items.length xc, .slice xa' xy.items.length xc')) 69) = U := ⟨_, rfl⟩
        obtain ⟨U, hU⟩ : ∃ U, U1.alloc (.cells (hvArr (⟨xp, xo, yop, yg, yi, yr, yy⟩, .slice ya1 yg.items.length yc1, .slice ya2 yy.items.length yc2)) 69) = U := ⟨_, rfl⟩
        have d1 : Below wr.heap.size wr U1 := by rw [← hU1]; exact alloc_v (Below.refl _ _) _
        have d2 : Below U1.heap.size U1 U := by rw [← hU]; exact alloc_v (Below.refl _ _) _
        have n1 : U1.heap.size = wr.heap.size + 1 := by rw [← hU1]; simp
        have n2 : U.heap.size = wr.heap.size + 2 := by rw [← hU]; simp [n1]
        have k1 : U1.heap[wr.heap.size]? = some (.cells (hvArr (⟨xp, xo, xop, xg, xi, xr, xy⟩, .slice xa xg.items.length xc, .slice xa' xy.items.length xc')) 69 (0, 0)) := by rw [← hU1]; exact World.alloc_heap_new wr _
        have k2 : U.heap[wr.heap.size + 1]? = some (.cells (hvArr (⟨xp, xo, yop, yg, yi, yr, yy⟩, .slice ya1 yg.items.length yc1, .slice ya2 yy.items.length yc2)) 69 (0, 0)) := by rw [← hU, ← n1]; exact World.alloc_heap_new U1 _
        have k1' := (d2.block _ (show wr.heap.size < U1.heap.size by omega)).trans k1
        have dd := trans_v d1 d2
        have F1 := hide k1'
        have F2 := hide k2
        have HDD := hide (trans_v hbel dd)
        have N2 := hide n2
        have hb1 : b3 < wr.heap.size := by have := bw.size; omega
        have hb2 : b4 < U1.heap.size := by have := bw.size; omega
        have w0 := (d1.cell (p := ⟨b4, _, none⟩) (show b4 < wr.heap.size by have := bw.size; omega)).trans r0
        have w1 := (d1.cell (p := ⟨b4, _, none⟩) (show b4 < wr.heap.size by have := bw.size; omega)).trans r1
        have w2 := (d1.cell (p := ⟨b4, _, none⟩) (show b4 < wr.heap.size by have := bw.size; omega)).trans r2
        have w3 := (d1.cell (p := ⟨b4, _, none⟩) (show b4 < wr.heap.size by have := bw.size; omega)).trans r3
        have w4 := (d1.cell (p := ⟨b4, _, none⟩) (show b4 < wr.heap.size by have := bw.size; omega)).trans r4
        have w5 := (d1.cell (p := ⟨b4, _, none⟩) (show b4 < wr.heap.size by have := bw.size; omega)).trans r5
        have w6 := (d1.cell (p := ⟨b4, _, none⟩) (show b4 < wr.heap.size by have := bw.size; omega)).trans r6
        have w7 := (d1.cell (p := ⟨b4, _, none⟩) (show b4 < wr.heap.size by have := bw.size; omega)).trans r7
        have w8 := (d1.cell (p := ⟨b4, _, none⟩) (show b4 < wr.heap.size by have := bw.size; omega)).trans r8
        have w9 := (d1.cell (p := ⟨b4, _, none⟩) (show b4 < wr.heap.size by have := bw.size; omega)).trans r9
        have w10 := (d1.cell (p := ⟨b4, _, none⟩) (show b4 < wr.heap.size by have := bw.size; omega)).trans r10
        have w11 := (d1.cell (p := ⟨b4, _, none⟩) (show b4 < wr.heap.size by have := bw.size; omega)).trans r11
        have w12 := (d1.cell (p := ⟨b4, _, none⟩) (show b4 < wr.heap.size by have := bw.size; omega)).trans r12
        have w13 := (d1.cell (p := ⟨b4, _, none⟩) (show b4 < wr.heap.size by have := bw.size; omega)).trans r13
        have w14 := (d1.cell (p := ⟨b4, _, none⟩) (show b4 < wr.heap.size by have := bw.size; omega)).trans r14
        have y2' := (d1.cell (p := ⟨w.heap.size + 1, 2, none⟩) (show w.heap.size + 1 < wr.heap.size by have := hbel.size; omega)).trans y2
        have s0 := cells_at k1' 0 _ rfl
        have t0 := cells_at k2 0 _ rfl
        have s1 := cells_at k1' 1 _ rfl
        have t1 := cells_at k2 1 _ rfl
        have s2 := cells_at k1' 2 _ rfl
        have t2 := cells_at k2 2 _ rfl
        have s3 := cells_at k1' 3 _ rfl
        have t3 := cells_at k2 3 _ rfl
        have s4 := cells_at k1' 4 _ rfl
        have t4 := cells_at k2 4 _ rfl
        have s5 := cells_at k1' 5 _ rfl
        have t5 := cells_at k2 5 _ rfl
        have s6 := cells_at k1' 6 _ rfl
        have t6 := cells_at k2 6 _ rfl
        have s7 := cells_at k1' 7 _ rfl
        have t7 := cells_at k2 7 _ rfl
        have s8 := cells_at k1' 8 _ rfl
        have t8 := cells_at k2 8 _ rfl
        have s9 := cells_at k1' 9 _ rfl
        have t9 := cells_at k2 9 _ rfl
        have hdd : (xop != yop) = true := by simpa using hd
        have hdd2 : (xop == yop) = false := by simpa using hd
        clear i1 i2 j1 j2 k1 k2 k1' d1 d2 dd bw hbel f1 f2 g3 g4 r0 r1 r2 r3 r4 r5 r6 r7 r8 r9 r10 r11 r12 r13 r14 n2 hd
        go_upto_if 96 with (fail)
        go_wp2
        go_ret
        exact ⟨rfl, trans_v bW (HDD.out)⟩
end Go.Proofs.YtnmkggoampkekaaGreatDoor
