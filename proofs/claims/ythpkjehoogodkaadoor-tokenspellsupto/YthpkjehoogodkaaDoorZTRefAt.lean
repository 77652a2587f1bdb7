/- The document's places. -/
import Derived.Test.YthpkjehoogodkaaDoorZTPlain
namespace Go.Proofs.YthpkjehoogodkaaDoor
open Go.RowKit

theorem infoRefSpot : (Tryd.prog.info? 80).map (·.size) = some 3 := by kernel_rfl
theorem AtT.other {t : TypeId} {W : World} {A : Nat} {a b c : Int} (h : AtT t W A a b c) (B i : Nat) (v : Value) (hne : A ≠ B) : AtT t (W.setCell ⟨B, i, none⟩ v) A a b c := (Below.heap_setCell W ⟨B, i, none⟩ v A hne).trans h
theorem AtT.below {t : TypeId} {W W' : World} {A : Nat} {a b c : Int} (h : AtT t W A a b c) (hb : Below W.heap.size W W') : AtT t W' A a b c := (hb.block _ h.lt).trans h

set_option maxRecDepth 100000 in
set_option maxHeartbeats 4000000 in
theorem refAt_k (s : ByteArray) (hs : s.size ≤ 1048576) (o : Int) (w : World) :
    Calls Tryd.prog 41 #[.string s, .int .i64 o] w fun e w' => e = .returned (.agg #[.int .i64 (clamp s o : Nat), .int .i64 (atR (clamp s o) 0 1 1 (ru s.data.toList)).1, .int .i64 (atR (clamp s o) 0 1 1 (ru s.data.toList)).2]) ∧ Below w.heap.size w w' := by
  have hcl : min (max o 0) (s.size : Int) = (clamp s o : Int) := by unfold clamp; omega
  have hcl2 : clamp s o ≤ s.size := by unfold clamp; omega
  have hr := refRunes_cells s hs
  have hle := rs_le s
  rw [rs_length] at hr hle
  unfold rs at hr
  generalize clamp s o = q at *
  generalize ru s.data.toList = t0 at *
  obtain ⟨R, hR⟩ : ∃ R, atR q 0 1 1 t0 = R := ⟨_, rfl⟩
  rw [hR]
  have HR := hide hR
  clear hR
  go_enter Tryd.func41, Tryd.ntmps41
  go_wp2_with (go_at_call 19; refine (hr _).mono ?_; clear hr; rintro e w1 ⟨a, cp, rfl, hx, hb⟩; have HX := hide hx; clear hx)
  have hsz1 := hb.size
  rw [World.size_alloc] at hsz1
  have hres : AtT 80 (w1.alloc (.cells #[.int .i64 (q : Int), .int .i64 1, .int .i64 1] 80)) w.heap.size 0 0 0 := AtT.alloc (AtT.below (heap_alloc_new w _) hb) _
  have hbw : Below w.heap.size w (w1.alloc (.cells #[.int .i64 (q : Int), .int .i64 1, .int .i64 1] 80)) := (((Below.refl _ w).alloc (Nat.le_refl _) _).trans (hb.mono (by simp))).alloc (by omega) _
  have hp0 : AtT 80 (w1.alloc (.cells #[.int .i64 (q : Int), .int .i64 1, .int .i64 1] 80)) w1.heap.size q 1 1 := heap_alloc_new w1 _
  have hb1 : Below w1.heap.size w1 (w1.alloc (.cells #[.int .i64 (q : Int), .int .i64 1, .int .i64 1] 80)) := (Below.refl _ w1).alloc (Nat.le_refl _) _
  have hw01 : w.heap.size < w1.heap.size := by omega
  go_loopw [7] (fun vi wr => ∃ (i k line col : Nat) (t : List (Int × Nat)), vi = .int .i64 (i : Int) ∧ i ≤ t0.length ∧ line ≤ i + 1 ∧ col ≤ i + 1 ∧ Hid ((rsT 0 t0).drop i = rsT k t) ∧ Hid (atR q k line col t = R) ∧ AtT 80 wr w.heap.size 0 0 0 ∧ AtT 80 wr w1.heap.size q line col ∧ Below w.heap.size w wr ∧ Below w1.heap.size w1 wr)
    (fun v _ => t0.length - (Lib.intOf v).toNat)
  case atStart => exact ⟨0, 0, 1, 1, t0, rfl, Nat.zero_le _, Nat.le_refl _, Nat.le_refl _, rfl, HR, hres, hp0, hbw, hb1⟩
  case round =>
    obtain ⟨i, k, line, col, t, rfl, hi, hl1, hl2, HD, HT, h1, h2, h5, h6⟩ := hrel
    clear hres hbw hp0 HR hb1
    have hlen : (rsT 0 t0).length = t0.length := rsT_length _ _
    obtain ⟨r00, r01, r02, rf00, rf01, rf02⟩ := h1.cells
    obtain ⟨p0, p1, p2, pf0, pf1, pf2⟩ := h2.cells
    have x1 := h1.set0 (q : Int)
    obtain ⟨x10, x11, x12, xf10, xf11, xf12⟩ := x1.cells
    have x2 := x1.set1 (line : Int)
    obtain ⟨x20, x21, x22, xf20, xf21, xf22⟩ := x2.cells
    have x3 := x2.set2 (col : Int)
    have hfin : atR q k line col t = (line, col) → R = (line, col) := fun h => HT.out.symm.trans h
    have B5 := below_set (below_set (below_set h5 w.heap.size 0 (.int .i64 (q : Int)) (Nat.le_refl _)) w.heap.size 1 (.int .i64 (line : Int)) (Nat.le_refl _)) w.heap.size 2 (.int .i64 (col : Int)) (Nat.le_refl _)
    by_cases hlt : i < t0.length
    · have hd := HD.out
      rw [List.drop_eq_getElem_cons (by omega)] at hd
      obtain ⟨g, rfl, d1, d2, -⟩ := HX.out i (by omega)
      match t, hd, HT, hfin with
      | [], hd, _, _ => rw [rsT] at hd; cases hd
      | (r, n) :: t', hd, HT, hfin =>
        rw [rsT] at hd
        obtain ⟨hd1, hd2⟩ := List.cons.inj hd
        rw [hd1] at d1 d2
        dsimp only at d1 d2
        clear HD hd hd1
        have HD2 := hide hd2
        clear hd2
        have e2 := keepCell d2 h6
        by_cases hkq : k < q
        · have hat := HT.out
          rw [atR, if_pos hkq] at hat
          have HAT := hide hat
          clear hat HT x1 x10 x11 x12 xf10 xf11 xf12 x2 x20 x21 x22 xf20 xf21 xf22 x3 hfin B5
          have q1 := h2.set2 ((col : Int) + 1)
          obtain ⟨q10, q11, q12, qf10, qf11, qf12⟩ := q1.cells
          have b1 := below_set h6 w1.heap.size 2 (.int .i64 ((col : Int) + 1)) (Nat.le_refl _)
          have w1b := below_set h5 w1.heap.size 2 (.int .i64 ((col : Int) + 1)) (by omega)
          have r1 := h1.other w1.heap.size 2 (.int .i64 ((col : Int) + 1)) (by omega)
          have dr := keepCell d1 b1
          by_cases hr : r = 10
          · subst hr
            have q2 := q1.set1 ((line : Int) + 1)
            obtain ⟨q20, q21, q22, qf20, qf21, qf22⟩ := q2.cells
            go_wp2
            go_roundw
            case rel =>
              refine ⟨i + 1, k + n, line + 1, 1, t', by simp, by omega, by omega, by omega, HD2, ?_, (r1.other _ _ _ (by omega)).other _ _ _ (by omega), q2.set2 1, below_set (below_set w1b _ _ _ (by omega)) _ _ _ (by omega), below_set (below_set b1 _ _ _ (Nat.le_refl _)) _ _ _ (Nat.le_refl _)⟩
              have := HAT.out
              exact hide (by simpa [bLine, bCol] using this)
            case measure =>
              simp [Lib.intOf]
              omega
          · have hr' : (r == 10) = false := by simpa using hr
            go_wp2
            go_roundw
            case rel =>
              refine ⟨i + 1, k + n, line, col + 1, t', by simp, by omega, by omega, by omega, HD2, ?_, r1, q1, w1b, b1⟩
              have := HAT.out
              exact hide (by simpa [bLine, bCol, hr] using this)
            case measure =>
              simp [Lib.intOf]
              omega
        · have hRR := hfin (by rw [atR, if_neg hkq])
          subst hRR
          clear hfin HT
          go_wp2
          refine bodyPost_ret (results_cell_row rfl _ _ w.heap.size _ _ _ _ rfl x3 Tryd.underlying80 rfl infoRefSpot) rfl ?_
          exact ⟨rfl, B5⟩
    · have hn : t = [] := by
        have hd := HD.out
        rw [List.drop_of_length_le (by omega)] at hd
        match t, hd with
        | [], _ => rfl
        | (r, k) :: t, hd => rw [rsT] at hd; cases hd
      subst hn
      have hRR := hfin (by rw [atR])
      subst hRR
      clear hfin HT
      go_wp2
      refine bodyPost_ret (results_cell_row rfl _ _ w.heap.size _ _ _ _ rfl x3 Tryd.underlying80 rfl infoRefSpot) rfl ?_
      exact ⟨rfl, B5⟩
end Go.Proofs.YthpkjehoogodkaaDoor
