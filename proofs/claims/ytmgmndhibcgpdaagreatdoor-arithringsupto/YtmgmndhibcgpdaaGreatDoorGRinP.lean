/- ArithRings answers true. -/
import Derived.Test.YtmgmndhibcgpdaaGreatDoorGACalls
import Derived.Deep.Cut
import Derived.Test.YtmgmndhibcgpdaaGreatDoorZALaid
import Derived.Test.YtmgmndhibcgpdaaGreatDoorZVOpen
import Derived.ChangeMaps5
namespace Go.Proofs.YtmgmndhibcgpdaaGreatDoor
open Go.RowKit

theorem wrap64_mod (x : Int) : ∃ t : Int, wrap64 x = x + 18446744073709551616 * t := by
  unfold wrap64
  exact ⟨-((x + 9223372036854775808) / 18446744073709551616), by omega⟩
theorem quo_back {a b : Int} (ha1 : -9223372036854775808 ≤ a) (ha2 : a ≤ 9223372036854775807) : wrap64 (wrap64 (wrap64 (a.tdiv b) * b) + a.tmod b) = a := by
  obtain ⟨t1, h1⟩ := wrap64_mod (a.tdiv b)
  obtain ⟨t2, h2⟩ := wrap64_mod (wrap64 (a.tdiv b) * b)
  have h3 : b * a.tdiv b + a.tmod b = a := Int.mul_tdiv_add_tmod a b
  rw [h2, h1, Int.add_mul, Int.mul_assoc, Int.mul_comm (a.tdiv b) b]
  generalize b * a.tdiv b = p at *
  generalize t1 * b = s at *
  unfold wrap64
  omega
theorem norm_mul (i j k l : Int) : (i * k - j * l) * (i * k - j * l) + (i * l + j * k) * (i * l + j * k) = (i * i + j * j) * (k * k + l * l) := by
  have h1 : (i * k) * (j * l) = (i * l) * (j * k) := by ac_rfl
  have h2 : (i * k) * (i * k) = (i * i) * (k * k) := by ac_rfl
  have h3 : (j * l) * (j * l) = (j * j) * (l * l) := by ac_rfl
  have h4 : (i * l) * (i * l) = (i * i) * (l * l) := by ac_rfl
  have h5 : (j * k) * (j * k) = (j * j) * (k * k) := by ac_rfl
  have h6 : (j * l) * (i * k) = (i * l) * (j * k) := by ac_rfl
  have h7 : (j * k) * (i * l) = (i * l) * (j * k) := by ac_rfl
  rw [Int.sub_mul, Int.mul_sub, Int.mul_sub, Int.add_mul, Int.mul_add, Int.mul_add, Int.add_mul, Int.mul_add, Int.mul_add, h1, h2, h3, h4, h5, h6, h7]
  omega
theorem wrap_small {x : Int} (h1 : -9223372036854775808 ≤ x) (h2 : x ≤ 9223372036854775807) : wrap64 x = x := by unfold wrap64; omega
theorem Int.mul_self_nonneg_x (x : Int) : 0 ≤ x * x := by
  rcases Int.le_total 0 x with h | h
  · exact Int.mul_nonneg h h
  · exact Int.mul_nonneg_of_nonpos_of_nonpos h h
theorem gauss_in {i j : Int} (h : gaussB i j = true) : (-1048576 ≤ i ∧ i ≤ 1048576) ∧ (-1048576 ≤ j ∧ j ≤ 1048576) := by
  unfold gaussB at h
  simpa using h
theorem gaussB_in {i j : Int} (h : (-1048576 ≤ i ∧ i ≤ 1048576) ∧ (-1048576 ≤ j ∧ j ≤ 1048576)) : gaussB i j = true := by
  unfold gaussB
  simpa using h
set_option maxRecDepth 100000 in
set_option maxHeartbeats 8000000 in
theorem arithRings_walk (a b : Int) (ha1 : -9223372036854775808 ≤ a) (ha2 : a ≤ 9223372036854775807) (hb1 : -9223372036854775808 ≤ b) (hb2 : b ≤ 9223372036854775807) (z v : Vl) (w : World) (n m : Nat) (sz sv : Value) (hT : TabL w) (oz : z.ok) (ov : v.ok) (hz : ItemsAt w w.heap.size n sz z.items) (hv : ItemsAt w w.heap.size m sv v.items) :
    Calls Tryz.prog 8 #[.int .i64 a, .int .i64 b, .agg (vcells z sz), .agg (vcells v sv)] w fun e w' => e = .returned (.bool true) ∧ Below w.heap.size w w' := by
  obtain ⟨W, hW⟩ : ∃ W, (w.alloc (.cells (vcells z sz) 25)).alloc (.cells (vcells v sv) 25) = W := ⟨_, rfl⟩
  have bW : Below w.heap.size w W := by rw [← hW]; exact two_below _ _ _
  have e1 : W.heap[w.heap.size]? = some (.cells (vcells z sz) 25 (0, 0)) := by rw [← hW]; exact two_first _ _ _
  have e2 : W.heap[w.heap.size + 1]? = some (.cells (vcells v sv) 25 (0, 0)) := by rw [← hW]; exact two_second _ _ _
  have zW : w.heap.size + 1 < W.heap.size := (Array.getElem?_eq_some_iff.1 e2).1
  have E1 := hide e1
  have E2 := hide e2
  have HH := hide (heads5_k W (hT.below bW))
  have HT := hide (hT.below bW)
  have HZ := hide (((hz.below bW).up bW.size).upto (Nat.le_add_right n m))
  have HV := hide (((hv.below bW).up bW.size).upto (Nat.le_add_left m n))
  obtain ⟨az, cz, rfl, _⟩ := hz.len
  obtain ⟨av, cv, rfl, _⟩ := hv.len
  clear hz hv hT e1 e2
  generalize n + m = n at *
  go_enter Tryz.func8, Tryz.ntmps8
  go_upto_if 30 with (go_at_call 30; refine HH.out.mono ?_; clear HH; rintro e w1 ⟨rfl, b1⟩)
  clear hW
  go_cut [] from 9 (fun wx => Below W.heap.size W wx)
  case first =>
    by_cases hb0 : b = 0
    · subst hb0
      go_wp2
      go_meet
      exact b1
    · have hb0' : (b != 0) = true := by simpa using hb0
      have hb0'' : (b == 0) = false := by simpa using hb0
      have H1 := hide (fun (U : World) => refInt5_k a U)
      have H2 := hide (fun (U : World) => refInt5_k b U)
      have H3 := hide (fun (U : World) (bb : Below W.heap.size W U) => binInts_k ⟨#[47]⟩ (intV a) (intV b) U 1 (.slice none 0 0) (.slice none 0 0) (HT.out.below bb) (intV_ok ha1 ha2) (intV_ok hb1 hb2) (items_nil _ _) (items_nil _ _) noCmp_div rfl rfl (right_int5 _) (right_int5 _))
      rw [show intsV ⟨#[47]⟩ (intV a).int (intV b).int = (intV (wrap64 (a.tdiv b)), 0) by rw [ints_div]; simp only [hb0'', cond_false]] at H3
      have H4 := hide (fun (U : World) => refInt5_k a U)
      have H5 := hide (fun (U : World) => refInt5_k b U)
      have H6 := hide (fun (U : World) (bb : Below W.heap.size W U) => binInts_k ⟨#[37]⟩ (intV a) (intV b) U 1 (.slice none 0 0) (.slice none 0 0) (HT.out.below bb) (intV_ok ha1 ha2) (intV_ok hb1 hb2) (items_nil _ _) (items_nil _ _) noCmp_rem rfl rfl (right_int5 _) (right_int5 _))
      rw [show intsV ⟨#[37]⟩ (intV a).int (intV b).int = (intV (a.tmod b), 0) by rw [ints_rem]; simp only [hb0'', cond_false]] at H6
      have hq : (wrap64 (wrap64 (wrap64 (a.tdiv b) * b) + a.tmod b) != a) = false := by rw [quo_back ha1 ha2]; simp
      have hneg : a < 0 → a.tmod b ≤ 0 := fun h => by have := Int.tmod_nonneg (a := -a) b (by omega); rw [Int.neg_tmod] at this; omega
      have hpos : 0 ≤ a → 0 ≤ a.tmod b := fun h => Int.tmod_nonneg b h
      generalize wrap64 (a.tdiv b) = q at *
      generalize a.tmod b = r at *
      have d3 : (intV q).int = q := rfl
      by_cases h1 : b = -1
      · have h1' : (b != -1) = false := by simpa using h1
        clear h1 hneg hpos
        go_wp2_with (first
          | (go_at_call 32; with_reducible refine (H1.out _).mono ?_; clear H1; rintro e w2 ⟨rfl, b2⟩)
          | (go_at_call 32; with_reducible refine (H2.out _).mono ?_; clear H2; rintro e w3 ⟨rfl, b3⟩)
          | (go_at_call 31; with_reducible refine (H3.out _ (trans_v (trans_v b1 b2) b3)).mono ?_; clear H3; rintro e w4 ⟨rfl, b4⟩; have B4 := trans_v (trans_v (trans_v (trans_v b1 b2) b3) b4) (alloc_v (Below.refl _ _) (.cells (vcells (intV q) (.slice none 0 0)) 25)))
          | (go_at_call 32; with_reducible refine (H4.out _).mono ?_; clear H4; rintro e w5 ⟨rfl, b5⟩)
          | (go_at_call 32; with_reducible refine (H5.out _).mono ?_; clear H5; rintro e w6 ⟨rfl, b6⟩)
          | (go_at_call 31; with_reducible refine (H6.out _ (trans_v (trans_v B4 b5) b6)).mono ?_; clear H6; rintro e w7 ⟨rfl, b7⟩; have A7 := trans_v (trans_v (trans_v b5 b6) b7) (alloc_v (Below.refl _ _) (.cells (vcells (intV r) (.slice none 0 0)) 25)); have B7 := trans_v B4 A7; have FQ := (A7.block w4.heap.size (by simp)).trans (World.alloc_heap_new w4 _); have FM := World.alloc_heap_new w7 (.cells (vcells (intV r) (.slice none 0 0)) 25); have cq := cells_at FQ 1 _ rfl; have cm := cells_at FM 1 _ rfl; clear FQ FM A7))
        go_meet
        exact B7
      · have h1' : (b != -1) = true := by simpa using h1
        by_cases h2 : a < 0
        · have h2' := hneg h2
          by_cases h3 : r = 0
          · have h3' : (r != 0) = false := by simpa using h3
            have h4 : ¬ r < 0 := by omega
            clear hneg hpos h2' h3
            go_wp2_with (first
              | (go_at_call 32; with_reducible refine (H1.out _).mono ?_; clear H1; rintro e w2 ⟨rfl, b2⟩)
              | (go_at_call 32; with_reducible refine (H2.out _).mono ?_; clear H2; rintro e w3 ⟨rfl, b3⟩)
              | (go_at_call 31; with_reducible refine (H3.out _ (trans_v (trans_v b1 b2) b3)).mono ?_; clear H3; rintro e w4 ⟨rfl, b4⟩; have B4 := trans_v (trans_v (trans_v (trans_v b1 b2) b3) b4) (alloc_v (Below.refl _ _) (.cells (vcells (intV q) (.slice none 0 0)) 25)))
              | (go_at_call 32; with_reducible refine (H4.out _).mono ?_; clear H4; rintro e w5 ⟨rfl, b5⟩)
              | (go_at_call 32; with_reducible refine (H5.out _).mono ?_; clear H5; rintro e w6 ⟨rfl, b6⟩)
              | (go_at_call 31; with_reducible refine (H6.out _ (trans_v (trans_v B4 b5) b6)).mono ?_; clear H6; rintro e w7 ⟨rfl, b7⟩; have A7 := trans_v (trans_v (trans_v b5 b6) b7) (alloc_v (Below.refl _ _) (.cells (vcells (intV r) (.slice none 0 0)) 25)); have B7 := trans_v B4 A7; have FQ := (A7.block w4.heap.size (by simp)).trans (World.alloc_heap_new w4 _); have FM := World.alloc_heap_new w7 (.cells (vcells (intV r) (.slice none 0 0)) 25); have cq := cells_at FQ 1 _ rfl; have cm := cells_at FM 1 _ rfl; clear FQ FM A7))
            go_meet
            exact B7
          · have h3' : (r != 0) = true := by simpa using h3
            have h4 : r < 0 := by omega
            clear hneg hpos h2' h3
            go_wp2_with (first
              | (go_at_call 32; with_reducible refine (H1.out _).mono ?_; clear H1; rintro e w2 ⟨rfl, b2⟩)
              | (go_at_call 32; with_reducible refine (H2.out _).mono ?_; clear H2; rintro e w3 ⟨rfl, b3⟩)
              | (go_at_call 31; with_reducible refine (H3.out _ (trans_v (trans_v b1 b2) b3)).mono ?_; clear H3; rintro e w4 ⟨rfl, b4⟩; have B4 := trans_v (trans_v (trans_v (trans_v b1 b2) b3) b4) (alloc_v (Below.refl _ _) (.cells (vcells (intV q) (.slice none 0 0)) 25)))
              | (go_at_call 32; with_reducible refine (H4.out _).mono ?_; clear H4; rintro e w5 ⟨rfl, b5⟩)
              | (go_at_call 32; with_reducible refine (H5.out _).mono ?_; clear H5; rintro e w6 ⟨rfl, b6⟩)
              | (go_at_call 31; with_reducible refine (H6.out _ (trans_v (trans_v B4 b5) b6)).mono ?_; clear H6; rintro e w7 ⟨rfl, b7⟩; have A7 := trans_v (trans_v (trans_v b5 b6) b7) (alloc_v (Below.refl _ _) (.cells (vcells (intV r) (.slice none 0 0)) 25)); have B7 := trans_v B4 A7; have FQ := (A7.block w4.heap.size (by simp)).trans (World.alloc_heap_new w4 _); have FM := World.alloc_heap_new w7 (.cells (vcells (intV r) (.slice none 0 0)) 25); have cq := cells_at FQ 1 _ rfl; have cm := cells_at FM 1 _ rfl; clear FQ FM A7))
            go_meet
            exact B7
        · have h2' := hpos (by omega)
          have h4 : ¬ r < 0 := by omega
          clear hneg hpos h2'
          go_wp2_with (first
            | (go_at_call 32; with_reducible refine (H1.out _).mono ?_; clear H1; rintro e w2 ⟨rfl, b2⟩)
            | (go_at_call 32; with_reducible refine (H2.out _).mono ?_; clear H2; rintro e w3 ⟨rfl, b3⟩)
            | (go_at_call 31; with_reducible refine (H3.out _ (trans_v (trans_v b1 b2) b3)).mono ?_; clear H3; rintro e w4 ⟨rfl, b4⟩; have B4 := trans_v (trans_v (trans_v (trans_v b1 b2) b3) b4) (alloc_v (Below.refl _ _) (.cells (vcells (intV q) (.slice none 0 0)) 25)))
            | (go_at_call 32; with_reducible refine (H4.out _).mono ?_; clear H4; rintro e w5 ⟨rfl, b5⟩)
            | (go_at_call 32; with_reducible refine (H5.out _).mono ?_; clear H5; rintro e w6 ⟨rfl, b6⟩)
            | (go_at_call 31; with_reducible refine (H6.out _ (trans_v (trans_v B4 b5) b6)).mono ?_; clear H6; rintro e w7 ⟨rfl, b7⟩; have A7 := trans_v (trans_v (trans_v b5 b6) b7) (alloc_v (Below.refl _ _) (.cells (vcells (intV r) (.slice none 0 0)) 25)); have B7 := trans_v B4 A7; have FQ := (A7.block w4.heap.size (by simp)).trans (World.alloc_heap_new w4 _); have FM := World.alloc_heap_new w7 (.cells (vcells (intV r) (.slice none 0 0)) 25); have cq := cells_at FQ 1 _ rfl; have cm := cells_at FM 1 _ rfl; clear FQ FM A7))
          go_meet
          exact B7
  case rest =>
    have f1 := (hcut.block _ (show w.heap.size < W.heap.size by omega)).trans E1.out
    have f2 := (hcut.block _ zW).trans E2.out
    have x0 := cells_at f1 0 _ rfl
    have x1 := cells_at f1 1 _ rfl
    have x2 := cells_at f1 2 _ rfl
    have x3 := cells_at f1 3 _ rfl
    have x4 := cells_at f1 4 _ rfl
    have y0 := cells_at f2 0 _ rfl
    have y1 := cells_at f2 1 _ rfl
    have y2 := cells_at f2 2 _ rfl
    have y3 := cells_at f2 3 _ rfl
    have y4 := cells_at f2 4 _ rfl
    have F1 := hide f1
    have F2 := hide f2
    have z2 : w.heap.size + 1 < wc.heap.size := by have := hcut.size; omega
    have z1 : w.heap.size < wc.heap.size := by omega
    have HRZ := hide (refRight_k z wc n _ oz.1 ((HZ.out.below hcut).up hcut.size))
    have HRV := hide (fun (U : World) (bb : Below wc.heap.size wc U) => refRight_k v U n _ ov.1 ((HV.out.below (trans_v hcut bb)).up (trans_v hcut bb).size))
    clear f1 f2 b1
    obtain ⟨k, i, j, t, l⟩ := z
    obtain ⟨k', i', j', t', l'⟩ := v
    simp only at HZ HV x0 x1 x2 x3 x4 y0 y1 y2 y3 y4
    cases rz : rightV ⟨k, i, j, t, l⟩
    · rw [rz] at HRZ
      clear rz
      go_wp2_with (go_at_call 33; with_reducible refine HRZ.out.mono ?_; clear HRZ; rintro e w2 ⟨rfl, b2⟩; have g1 := (b2.block _ z1).trans F1.out; have g2 := (b2.block _ z2).trans F2.out; have G1 := hide g1; have G2 := hide g2; have p0 := cells_at g1 0 _ rfl; have p1 := cells_at g1 1 _ rfl; have p2 := cells_at g1 2 _ rfl; have p3 := cells_at g1 3 _ rfl; have p4 := cells_at g1 4 _ rfl; have q0 := cells_at g2 0 _ rfl; have q1 := cells_at g2 1 _ rfl; have q2 := cells_at g2 2 _ rfl; have q3 := cells_at g2 3 _ rfl; have q4 := cells_at g2 4 _ rfl; clear g1 g2)
      go_ret
      exact ⟨rfl, trans_v (trans_v bW hcut) b2⟩
    rw [rz] at HRZ
    cases rv : rightV ⟨k', i', j', t', l'⟩
    · rw [rv] at HRV
      clear rv rz
      go_wp2_with (first | (go_at_call 33; with_reducible refine HRZ.out.mono ?_; clear HRZ; rintro e w2 ⟨rfl, b2⟩; have g1 := (b2.block _ z1).trans F1.out; have g2 := (b2.block _ z2).trans F2.out; have G1 := hide g1; have G2 := hide g2; have p0 := cells_at g1 0 _ rfl; have p1 := cells_at g1 1 _ rfl; have p2 := cells_at g1 2 _ rfl; have p3 := cells_at g1 3 _ rfl; have p4 := cells_at g1 4 _ rfl; have q0 := cells_at g2 0 _ rfl; have q1 := cells_at g2 1 _ rfl; have q2 := cells_at g2 2 _ rfl; have q3 := cells_at g2 3 _ rfl; have q4 := cells_at g2 4 _ rfl; clear g1 g2) | (go_at_call 33; with_reducible refine (HRV.out _ b2).mono ?_; clear HRV; rintro e w3 ⟨rfl, b3⟩; have b4 := trans_v b2 b3; have g1 := (b4.block _ z1).trans F1.out; have g2 := (b4.block _ z2).trans F2.out; have r0 := cells_at g1 0 _ rfl; have r1 := cells_at g1 1 _ rfl; have r2 := cells_at g1 2 _ rfl; have r3 := cells_at g1 3 _ rfl; have r4 := cells_at g1 4 _ rfl; have t0 := cells_at g2 0 _ rfl; have t1 := cells_at g2 1 _ rfl; have t2 := cells_at g2 2 _ rfl; have t3 := cells_at g2 3 _ rfl; have t4 := cells_at g2 4 _ rfl; clear g1 g2))
      go_ret
      exact ⟨rfl, trans_v (trans_v bW hcut) b4⟩
    rw [rv] at HRV
    by_cases hk : k = 3
    rotate_left
    · have hk' : (k != 3) = true := by simpa using hk
      clear rv rz
      go_wp2_with (first | (go_at_call 33; with_reducible refine HRZ.out.mono ?_; clear HRZ; rintro e w2 ⟨rfl, b2⟩; have g1 := (b2.block _ z1).trans F1.out; have g2 := (b2.block _ z2).trans F2.out; have G1 := hide g1; have G2 := hide g2; have p0 := cells_at g1 0 _ rfl; have p1 := cells_at g1 1 _ rfl; have p2 := cells_at g1 2 _ rfl; have p3 := cells_at g1 3 _ rfl; have p4 := cells_at g1 4 _ rfl; have q0 := cells_at g2 0 _ rfl; have q1 := cells_at g2 1 _ rfl; have q2 := cells_at g2 2 _ rfl; have q3 := cells_at g2 3 _ rfl; have q4 := cells_at g2 4 _ rfl; clear g1 g2) | (go_at_call 33; with_reducible refine (HRV.out _ b2).mono ?_; clear HRV; rintro e w3 ⟨rfl, b3⟩; have b4 := trans_v b2 b3; have g1 := (b4.block _ z1).trans F1.out; have g2 := (b4.block _ z2).trans F2.out; have r0 := cells_at g1 0 _ rfl; have r1 := cells_at g1 1 _ rfl; have r2 := cells_at g1 2 _ rfl; have r3 := cells_at g1 3 _ rfl; have r4 := cells_at g1 4 _ rfl; have t0 := cells_at g2 0 _ rfl; have t1 := cells_at g2 1 _ rfl; have t2 := cells_at g2 2 _ rfl; have t3 := cells_at g2 3 _ rfl; have t4 := cells_at g2 4 _ rfl; clear g1 g2))
      go_ret
      exact ⟨rfl, trans_v (trans_v bW hcut) b4⟩
    subst hk
    by_cases hk : k' = 3
    rotate_left
    · have hk' : (k' != 3) = true := by simpa using hk
      clear rv rz
      go_wp2_with (first | (go_at_call 33; with_reducible refine HRZ.out.mono ?_; clear HRZ; rintro e w2 ⟨rfl, b2⟩; have g1 := (b2.block _ z1).trans F1.out; have g2 := (b2.block _ z2).trans F2.out; have G1 := hide g1; have G2 := hide g2; have p0 := cells_at g1 0 _ rfl; have p1 := cells_at g1 1 _ rfl; have p2 := cells_at g1 2 _ rfl; have p3 := cells_at g1 3 _ rfl; have p4 := cells_at g1 4 _ rfl; have q0 := cells_at g2 0 _ rfl; have q1 := cells_at g2 1 _ rfl; have q2 := cells_at g2 2 _ rfl; have q3 := cells_at g2 3 _ rfl; have q4 := cells_at g2 4 _ rfl; clear g1 g2) | (go_at_call 33; with_reducible refine (HRV.out _ b2).mono ?_; clear HRV; rintro e w3 ⟨rfl, b3⟩; have b4 := trans_v b2 b3; have g1 := (b4.block _ z1).trans F1.out; have g2 := (b4.block _ z2).trans F2.out; have r0 := cells_at g1 0 _ rfl; have r1 := cells_at g1 1 _ rfl; have r2 := cells_at g1 2 _ rfl; have r3 := cells_at g1 3 _ rfl; have r4 := cells_at g1 4 _ rfl; have t0 := cells_at g2 0 _ rfl; have t1 := cells_at g2 1 _ rfl; have t2 := cells_at g2 2 _ rfl; have t3 := cells_at g2 3 _ rfl; have t4 := cells_at g2 4 _ rfl; clear g1 g2))
      go_ret
      exact ⟨rfl, trans_v (trans_v bW hcut) b4⟩
    subst hk
    have gz := right_gauss rz
    have gv := right_gauss rv
    have HP := hide (fun (U : World) (bb : Below W.heap.size W U) => binGauss_k ⟨#[42]⟩ ⟨3, i, j, t, l⟩ ⟨3, i', j', t', l'⟩ U n _ _ (HT.out.below bb) oz ov ((HZ.out.below bb).up bb.size) ((HV.out.below bb).up bb.size) noCmp_mul rfl rfl rz rv)
    have HQ := hide (fun (U : World) (bb : Below W.heap.size W U) => binGauss_k ⟨#[42]⟩ ⟨3, i', j', t', l'⟩ ⟨3, i, j, t, l⟩ U n _ _ (HT.out.below bb) ov oz ((HV.out.below bb).up bb.size) ((HZ.out.below bb).up bb.size) noCmp_mul rfl rfl rv rz)
    simp only [gs_mul] at HP HQ
    rw [show i' * i - j' * j = i * i' - j * j' by rw [Int.mul_comm i', Int.mul_comm j'], show i' * j + j' * i = i * j' + j * i' by rw [Int.mul_comm i', Int.mul_comm j', Int.add_comm]] at HQ
    have HN := hide (norm_mul i j i' j')
    have HTZ := hide (fun (U : World) (bb : Below W.heap.size W U) => call_turn ⟨3, i, j, t, l⟩ rfl rz (U.alloc (.cells (vcells ⟨3, i, j, t, l⟩ (.slice az l.length cz)) 25)) n _ (HT.out.below (alloc_v bb _)) (items_one ((HZ.out.below bb).up bb.size).more oz))
    have HTG := hide (fun (x y : Int) (h : (-1048576 ≤ x ∧ x ≤ 1048576) ∧ (-1048576 ≤ y ∧ y ≤ 1048576)) (U : World) (bb : Below W.heap.size W U) => call_turn (gV x y) rfl (by rw [right_leaf3]; exact gaussB_in h) (U.alloc (.cells (vcells (gV x y) (.slice none 0 0)) 25)) 0 _ (HT.out.below (alloc_v bb _)) (items_one (items_nil _ _) (gV_ok (by omega) (by omega))))
    have HNZ := hide (fun (U : World) (bb : Below W.heap.size W U) (p : Nat) (hp : U.heap.size = p) => call_norm ⟨3, i, j, t, l⟩ rfl rz (U.alloc (.cells (vcells ⟨3, i, j, t, l⟩ (.slice az l.length cz)) 25)) n (.slice (some ⟨p, 0, none⟩) 1 1) (HT.out.below (alloc_v bb _)) (hp ▸ items_one ((HZ.out.below bb).up bb.size).more oz))
    have HNV := hide (fun (U : World) (bb : Below W.heap.size W U) (p : Nat) (hp : U.heap.size = p) => call_norm ⟨3, i', j', t', l'⟩ rfl rv (U.alloc (.cells (vcells ⟨3, i', j', t', l'⟩ (.slice av l'.length cv)) 25)) n (.slice (some ⟨p, 0, none⟩) 1 1) (HT.out.below (alloc_v bb _)) (hp ▸ items_one ((HV.out.below bb).up bb.size).more ov))
    have HNG := hide (fun (x y : Int) (h : (-1048576 ≤ x ∧ x ≤ 1048576) ∧ (-1048576 ≤ y ∧ y ≤ 1048576)) (U : World) (bb : Below W.heap.size W U) (p : Nat) (hp : U.heap.size = p) => call_norm (gV x y) rfl (by rw [right_leaf3]; exact gaussB_in h) (U.alloc (.cells (vcells (gV x y) (.slice none 0 0)) 25)) 0 (.slice (some ⟨p, 0, none⟩) 1 1) (HT.out.below (alloc_v bb _)) (hp ▸ items_one (items_nil _ _) (gV_ok (by omega) (by omega))))
    simp only at HNZ HNV HNG HTZ HTG
    unfold gR at HP HQ
    generalize i * i' - j * j' = X at *
    generalize i * j' + j * i' = Y at *
    clear rz rv HT
    cases hg : gaussB X Y
    · simp only [hg, cond_false] at HP HQ
      go_wp2_with (first | (go_at_call 33; with_reducible refine HRZ.out.mono ?_; clear HRZ; rintro e w2 ⟨rfl, b2⟩; have g1 := (b2.block _ z1).trans F1.out; have g2 := (b2.block _ z2).trans F2.out; have G1 := hide g1; have G2 := hide g2; have p0 := cells_at g1 0 _ rfl; have p1 := cells_at g1 1 _ rfl; have p2 := cells_at g1 2 _ rfl; have p3 := cells_at g1 3 _ rfl; have p4 := cells_at g1 4 _ rfl; have q0 := cells_at g2 0 _ rfl; have q1 := cells_at g2 1 _ rfl; have q2 := cells_at g2 2 _ rfl; have q3 := cells_at g2 3 _ rfl; have q4 := cells_at g2 4 _ rfl; clear g1 g2) | (go_at_call 33; with_reducible refine (HRV.out _ b2).mono ?_; clear HRV; rintro e w3 ⟨rfl, b3⟩; have b4 := trans_v b2 b3; have g1 := (b4.block _ z1).trans F1.out; have g2 := (b4.block _ z2).trans F2.out; have r0 := cells_at g1 0 _ rfl; have r1 := cells_at g1 1 _ rfl; have r2 := cells_at g1 2 _ rfl; have r3 := cells_at g1 3 _ rfl; have r4 := cells_at g1 4 _ rfl; have t0 := cells_at g2 0 _ rfl; have t1 := cells_at g2 1 _ rfl; have t2 := cells_at g2 2 _ rfl; have t3 := cells_at g2 3 _ rfl; have t4 := cells_at g2 4 _ rfl; clear g1 g2) | (go_at_call 31; with_reducible refine (HP.out _ (trans_v hcut b4)).mono ?_; clear HP; rintro e w5 ⟨rfl, b5⟩; have B5 := trans_v (trans_v b4 b5) (alloc_v (Below.refl _ _) (.cells (vcells zeroV (.slice none 0 0)) 25)); have g1 := (B5.block _ z1).trans F1.out; have g2 := (B5.block _ z2).trans F2.out; have c0 := cells_at g1 0 _ rfl; have c1 := cells_at g1 1 _ rfl; have c2 := cells_at g1 2 _ rfl; have c3 := cells_at g1 3 _ rfl; have c4 := cells_at g1 4 _ rfl; have d0 := cells_at g2 0 _ rfl; have d1 := cells_at g2 1 _ rfl; have d2 := cells_at g2 2 _ rfl; have d3 := cells_at g2 3 _ rfl; have d4 := cells_at g2 4 _ rfl; clear g1 g2) | (go_at_call 31; with_reducible refine (HQ.out _ (trans_v hcut B5)).mono ?_; clear HQ; rintro e w6 ⟨rfl, b6⟩; have A6 := trans_v b6 (alloc_v (Below.refl _ _) (.cells (vcells zeroV (.slice none 0 0)) 25)); have B6 := trans_v B5 A6; have g1 := (B6.block _ z1).trans F1.out; have g3 := (A6.block w5.heap.size (by simp)).trans (World.alloc_heap_new w5 _); have g4 := World.alloc_heap_new w6 (.cells (vcells zeroV (.slice none 0 0)) 25); have e0 := cells_at g1 0 _ rfl; have e1 := cells_at g1 1 _ rfl; have e2 := cells_at g1 2 _ rfl; have e3 := cells_at g1 3 _ rfl; have e4 := cells_at g1 4 _ rfl; have m0 := cells_at g3 0 _ rfl; have m1 := cells_at g3 1 _ rfl; have m2 := cells_at g3 2 _ rfl; have m3 := cells_at g3 3 _ rfl; have m4 := cells_at g3 4 _ rfl; have n0 := cells_at g4 0 _ rfl; have n1 := cells_at g4 1 _ rfl; have n2 := cells_at g4 2 _ rfl; have n3 := cells_at g4 3 _ rfl; have n4 := cells_at g4 4 _ rfl; clear g1 g3 g4))
      clear x0 x1 x2 x3 x4 y0 y1 y2 y3 y4 p0 p1 p2 p3 p4 q0 q1 q2 q3 q4 r0 r1 r2 r3 r4 t0 t1 t2 t3 t4 c0 c1 c2 c3 c4 d0 d1 d2 d3 d4 e0 e1 e2 e3 e4 m0 m1 m2 m3 m4 n0 n1 n2 n3 n4
      go_loopw [24] (fun s wr => ((s = .int .i64 0 ∧ wr.heap[(w6.heap.size + 1)]? = some (.cells (vcells ⟨3, i, j, t, l⟩ (.slice az l.length cz)) 25 (0, 0))) ∨ (s = .int .i64 1 ∧ wr.heap[(w6.heap.size + 1)]? = some (.cells (vcells (gV (-j) i) (.slice none 0 0)) 25 (0, 0))) ∨ (s = .int .i64 2 ∧ wr.heap[(w6.heap.size + 1)]? = some (.cells (vcells (gV (-i) (-j)) (.slice none 0 0)) 25 (0, 0))) ∨ (s = .int .i64 3 ∧ wr.heap[(w6.heap.size + 1)]? = some (.cells (vcells (gV j (-i)) (.slice none 0 0)) 25 (0, 0))) ∨ (s = .int .i64 4 ∧ wr.heap[(w6.heap.size + 1)]? = some (.cells (vcells (gV i j) (.slice none 0 0)) 25 (0, 0)))) ∧ Below (w6.alloc (.cells (vcells zeroV (.slice none 0 0)) 25)).heap.size (w6.alloc (.cells (vcells zeroV (.slice none 0 0)) 25)) wr) (fun s _ => 4 - (intOf s).toNat)
      case atStart => exact ⟨.inl ⟨rfl, by have := World.alloc_heap_new (w6.alloc (.cells (vcells zeroV (.slice none 0 0)) 25)) (.cells (vcells ⟨3, i, j, t, l⟩ (.slice az l.length cz)) 25); rwa [World.size_alloc] at this⟩, alloc_v (Below.refl _ _) _⟩
      case round =>
        obtain ⟨hc, hbel⟩ := hrel
        have BR := trans_v B6 hbel
        rcases hc with ⟨rfl, hk⟩ | ⟨rfl, hk⟩ | ⟨rfl, hk⟩ | ⟨rfl, hk⟩ | ⟨rfl, hk⟩
        · have lt := (Array.getElem?_eq_some_iff.1 hk).1
          have c0 := cells_at hk 0 _ rfl
          have c1 := cells_at hk 1 _ rfl
          have c2 := cells_at hk 2 _ rfl
          have c3 := cells_at hk 3 _ rfl
          have c4 := cells_at hk 4 _ rfl
          have HK := hide hk
          have HC := hide (HTZ.out wr (trans_v hcut BR))
          clear hk
          go_wp2_with (go_at_call 34; refine HC.out.mono ?_; clear HC; rintro e w8 ⟨rfl, b8⟩; have a8 := trans_v (alloc_v (Below.refl _ _) _) b8; have f8 := (a8.block _ lt).trans HK.out; have f9 := (Below.heap_alloc w8 (.cells (vcells (gV (-j) i) (.slice none 0 0)) 25) _ (Array.getElem?_eq_some_iff.1 f8).1).trans f8; have K9 := hide f9; have B9' := trans_v hbel (trans_v a8 (alloc_v (Below.refl _ _) (.cells (vcells (gV (-j) i) (.slice none 0 0)) 25))); have d0 := cells_at f9 0 _ rfl; have d1 := cells_at f9 1 _ rfl; have d2 := cells_at f9 2 _ rfl; have d3 := cells_at f9 3 _ rfl; have d4 := cells_at f9 4 _ rfl; have q0 := frozen_at f9 0; have q1 := frozen_at f9 1; have q2 := frozen_at f9 2; have q3 := frozen_at f9 3; have q4 := frozen_at f9 4; clear f8 f9)
          have g := stored (w6.alloc (.cells (vcells zeroV (.slice none 0 0)) 25)) (w8.alloc (.cells (vcells (gV (-j) i) (.slice none 0 0)) 25)) 3 (-j) i ⟨#[]⟩ (.slice none 0 0) _ (w6.heap.size + 1) (by simp) B9' rfl K9.out
          go_roundw
          case rel => exact ⟨.inr (.inl ⟨rfl, g.1⟩), g.2⟩
          case measure => simp [intOf]
        · have lt := (Array.getElem?_eq_some_iff.1 hk).1
          have c0 := cells_at hk 0 _ rfl
          have c1 := cells_at hk 1 _ rfl
          have c2 := cells_at hk 2 _ rfl
          have c3 := cells_at hk 3 _ rfl
          have c4 := cells_at hk 4 _ rfl
          have HK := hide hk
          have HC := hide (HTG.out (-j) i (by omega) wr (trans_v hcut BR))
          clear hk
          go_wp2_with (go_at_call 34; refine HC.out.mono ?_; clear HC; rintro e w8 ⟨rfl, b8⟩; have a8 := trans_v (alloc_v (Below.refl _ _) _) b8; have f8 := (a8.block _ lt).trans HK.out; have f9 := (Below.heap_alloc w8 (.cells (vcells (gV (-i) (-j)) (.slice none 0 0)) 25) _ (Array.getElem?_eq_some_iff.1 f8).1).trans f8; have K9 := hide f9; have B9' := trans_v hbel (trans_v a8 (alloc_v (Below.refl _ _) (.cells (vcells (gV (-i) (-j)) (.slice none 0 0)) 25))); have d0 := cells_at f9 0 _ rfl; have d1 := cells_at f9 1 _ rfl; have d2 := cells_at f9 2 _ rfl; have d3 := cells_at f9 3 _ rfl; have d4 := cells_at f9 4 _ rfl; have q0 := frozen_at f9 0; have q1 := frozen_at f9 1; have q2 := frozen_at f9 2; have q3 := frozen_at f9 3; have q4 := frozen_at f9 4; clear f8 f9)
          have g := stored (w6.alloc (.cells (vcells zeroV (.slice none 0 0)) 25)) (w8.alloc (.cells (vcells (gV (-i) (-j)) (.slice none 0 0)) 25)) 3 (-i) (-j) ⟨#[]⟩ (.slice none 0 0) _ (w6.heap.size + 1) (by simp) B9' rfl K9.out
          go_roundw
          case rel => exact ⟨.inr (.inr (.inl ⟨rfl, g.1⟩)), g.2⟩
          case measure => simp [intOf]
        · have lt := (Array.getElem?_eq_some_iff.1 hk).1
          have c0 := cells_at hk 0 _ rfl
          have c1 := cells_at hk 1 _ rfl
          have c2 := cells_at hk 2 _ rfl
          have c3 := cells_at hk 3 _ rfl
          have c4 := cells_at hk 4 _ rfl
          have HK := hide hk
          have HC := hide (HTG.out (-i) (-j) (by omega) wr (trans_v hcut BR))
          rw [Int.neg_neg] at HC
          clear hk
          go_wp2_with (go_at_call 34; refine HC.out.mono ?_; clear HC; rintro e w8 ⟨rfl, b8⟩; have a8 := trans_v (alloc_v (Below.refl _ _) _) b8; have f8 := (a8.block _ lt).trans HK.out; have f9 := (Below.heap_alloc w8 (.cells (vcells (gV j (-i)) (.slice none 0 0)) 25) _ (Array.getElem?_eq_some_iff.1 f8).1).trans f8; have K9 := hide f9; have B9' := trans_v hbel (trans_v a8 (alloc_v (Below.refl _ _) (.cells (vcells (gV j (-i)) (.slice none 0 0)) 25))); have d0 := cells_at f9 0 _ rfl; have d1 := cells_at f9 1 _ rfl; have d2 := cells_at f9 2 _ rfl; have d3 := cells_at f9 3 _ rfl; have d4 := cells_at f9 4 _ rfl; have q0 := frozen_at f9 0; have q1 := frozen_at f9 1; have q2 := frozen_at f9 2; have q3 := frozen_at f9 3; have q4 := frozen_at f9 4; clear f8 f9)
          have g := stored (w6.alloc (.cells (vcells zeroV (.slice none 0 0)) 25)) (w8.alloc (.cells (vcells (gV j (-i)) (.slice none 0 0)) 25)) 3 j (-i) ⟨#[]⟩ (.slice none 0 0) _ (w6.heap.size + 1) (by simp) B9' rfl K9.out
          go_roundw
          case rel => exact ⟨.inr (.inr (.inr (.inl ⟨rfl, g.1⟩))), g.2⟩
          case measure => simp [intOf]
        · have lt := (Array.getElem?_eq_some_iff.1 hk).1
          have c0 := cells_at hk 0 _ rfl
          have c1 := cells_at hk 1 _ rfl
          have c2 := cells_at hk 2 _ rfl
          have c3 := cells_at hk 3 _ rfl
          have c4 := cells_at hk 4 _ rfl
          have HK := hide hk
          have HC := hide (HTG.out j (-i) (by omega) wr (trans_v hcut BR))
          rw [Int.neg_neg] at HC
          clear hk
          go_wp2_with (go_at_call 34; refine HC.out.mono ?_; clear HC; rintro e w8 ⟨rfl, b8⟩; have a8 := trans_v (alloc_v (Below.refl _ _) _) b8; have f8 := (a8.block _ lt).trans HK.out; have f9 := (Below.heap_alloc w8 (.cells (vcells (gV i j) (.slice none 0 0)) 25) _ (Array.getElem?_eq_some_iff.1 f8).1).trans f8; have K9 := hide f9; have B9' := trans_v hbel (trans_v a8 (alloc_v (Below.refl _ _) (.cells (vcells (gV i j) (.slice none 0 0)) 25))); have d0 := cells_at f9 0 _ rfl; have d1 := cells_at f9 1 _ rfl; have d2 := cells_at f9 2 _ rfl; have d3 := cells_at f9 3 _ rfl; have d4 := cells_at f9 4 _ rfl; have q0 := frozen_at f9 0; have q1 := frozen_at f9 1; have q2 := frozen_at f9 2; have q3 := frozen_at f9 3; have q4 := frozen_at f9 4; clear f8 f9)
          have g := stored (w6.alloc (.cells (vcells zeroV (.slice none 0 0)) 25)) (w8.alloc (.cells (vcells (gV i j) (.slice none 0 0)) 25)) 3 i j ⟨#[]⟩ (.slice none 0 0) _ (w6.heap.size + 1) (by simp) B9' rfl K9.out
          go_roundw
          case rel => exact ⟨.inr (.inr (.inr (.inr ⟨rfl, g.1⟩))), g.2⟩
          case measure => simp [intOf]
        · have fz := (BR.block _ z1).trans F1.out
          have c0 := cells_at hk 0 _ rfl
          have c1 := cells_at hk 1 _ rfl
          have c2 := cells_at hk 2 _ rfl
          have c3 := cells_at hk 3 _ rfl
          have c4 := cells_at hk 4 _ rfl
          have d0 := cells_at fz 0 _ rfl
          have d1 := cells_at fz 1 _ rfl
          have d2 := cells_at fz 2 _ rfl
          have d3 := cells_at fz 3 _ rfl
          have d4 := cells_at fz 4 _ rfl
          clear hk fz
          go_wp2
          go_ret
          exact ⟨rfl, trans_v (trans_v bW hcut) BR⟩
    · simp only [hg, cond_true] at HP HQ
      have gx := gauss_in hg
      have HN2 : Hid ((X * X + Y * Y != wrap64 ((i * i + j * j) * (i' * i' + j' * j'))) = false) := hide (by
        have mx := mul_small gx.1.1 gx.1.2 gx.1.1 gx.1.2
        have my := mul_small gx.2.1 gx.2.2 gx.2.1 gx.2.2
        have hx0 : 0 ≤ X * X := by have := Int.mul_self_nonneg_x X; exact this
        rw [← HN.out, wrap_small (by omega) (by omega)]
        simp)
      have hnn := HN2.out
      have HNP := hide (HNG.out X Y gx)
      generalize X * X + Y * Y = nn at *
      generalize i * i + j * j = nz' at *
      generalize i' * i' + j' * j' = nv at *
      go_wp2_with (first
        | (go_at_call 33; with_reducible refine HRZ.out.mono ?_; clear HRZ; rintro e w2 ⟨rfl, b2⟩; have g1 := (b2.block _ z1).trans F1.out; have g2 := (b2.block _ z2).trans F2.out; have G1 := hide g1; have G2 := hide g2; have p0 := cells_at g1 0 _ rfl; have p1 := cells_at g1 1 _ rfl; have p2 := cells_at g1 2 _ rfl; have p3 := cells_at g1 3 _ rfl; have p4 := cells_at g1 4 _ rfl; have q0 := cells_at g2 0 _ rfl; have q1 := cells_at g2 1 _ rfl; have q2 := cells_at g2 2 _ rfl; have q3 := cells_at g2 3 _ rfl; have q4 := cells_at g2 4 _ rfl; clear g1 g2)
        | (go_at_call 33; with_reducible refine (HRV.out _ b2).mono ?_; clear HRV; rintro e w3 ⟨rfl, b3⟩; have b4 := trans_v b2 b3; have g1 := (b4.block _ z1).trans F1.out; have g2 := (b4.block _ z2).trans F2.out; have r0 := cells_at g1 0 _ rfl; have r1 := cells_at g1 1 _ rfl; have r2 := cells_at g1 2 _ rfl; have r3 := cells_at g1 3 _ rfl; have r4 := cells_at g1 4 _ rfl; have t0 := cells_at g2 0 _ rfl; have t1 := cells_at g2 1 _ rfl; have t2 := cells_at g2 2 _ rfl; have t3 := cells_at g2 3 _ rfl; have t4 := cells_at g2 4 _ rfl; clear g1 g2)
        | (go_at_call 31; with_reducible refine (HP.out _ (trans_v hcut b4)).mono ?_; clear HP; rintro e w5 ⟨rfl, b5⟩; have B5 := trans_v (trans_v b4 b5) (alloc_v (Below.refl _ _) (.cells (vcells (gV X Y) (.slice none 0 0)) 25)); have g1 := (B5.block _ z1).trans F1.out; have g2 := (B5.block _ z2).trans F2.out; have c0 := cells_at g1 0 _ rfl; have c1 := cells_at g1 1 _ rfl; have c2 := cells_at g1 2 _ rfl; have c3 := cells_at g1 3 _ rfl; have c4 := cells_at g1 4 _ rfl; have d0 := cells_at g2 0 _ rfl; have d1 := cells_at g2 1 _ rfl; have d2 := cells_at g2 2 _ rfl; have d3 := cells_at g2 3 _ rfl; have d4 := cells_at g2 4 _ rfl; clear g1 g2) | (go_at_call 31; with_reducible refine (HQ.out _ (trans_v hcut B5)).mono ?_; clear HQ; rintro e w6 ⟨rfl, b6⟩; have A6 := trans_v b6 (alloc_v (Below.refl _ _) (.cells (vcells (gV X Y) (.slice none 0 0)) 25)); have B6 := trans_v B5 A6; have g3 := (A6.block w5.heap.size (by simp)).trans (World.alloc_heap_new w5 _); have g4 := World.alloc_heap_new w6 (.cells (vcells (gV X Y) (.slice none 0 0)) 25); have m0 := cells_at g3 0 _ rfl; have m1 := cells_at g3 1 _ rfl; have m2 := cells_at g3 2 _ rfl; have m3 := cells_at g3 3 _ rfl; have m4 := cells_at g3 4 _ rfl; have n0 := cells_at g4 0 _ rfl; have n1 := cells_at g4 1 _ rfl; have n2 := cells_at g4 2 _ rfl; have n3 := cells_at g4 3 _ rfl; have n4 := cells_at g4 4 _ rfl; clear g3 g4)
        | (go_at_call 34; with_reducible refine (HNP.out _ (trans_v hcut B6) _ (World.size_alloc _ _)).mono ?_; clear HNP; rintro e w7 ⟨rfl, b7⟩; have A7 := trans_v (trans_v (alloc_v (Below.refl _ _) _) b7) (alloc_v (Below.refl _ _) (.cells (vcells (intV nn) (.slice none 0 0)) 25)); have B7 := trans_v B6 A7; have g1 := (B7.block _ z1).trans F1.out; have G7 := hide (World.alloc_heap_new w7 (.cells (vcells (intV nn) (.slice none 0 0)) 25)); have e0 := cells_at g1 0 _ rfl; have e1 := cells_at g1 1 _ rfl; have e2 := cells_at g1 2 _ rfl; have e3 := cells_at g1 3 _ rfl; have e4 := cells_at g1 4 _ rfl; clear g1)
        | (go_at_call 34; with_reducible refine (HNZ.out _ (trans_v hcut B7) _ (World.size_alloc _ _)).mono ?_; clear HNZ; rintro e w9 ⟨rfl, b9⟩; have A9 := trans_v (trans_v (alloc_v (Below.refl _ _) _) b9) (alloc_v (Below.refl _ _) (.cells (vcells (intV nz') (.slice none 0 0)) 25)); have B9 := trans_v B7 A9; have g2 := (B9.block _ z2).trans F2.out; have G9 := hide (World.alloc_heap_new w9 (.cells (vcells (intV nz') (.slice none 0 0)) 25)); have h0 := cells_at g2 0 _ rfl; have h1 := cells_at g2 1 _ rfl; have h2 := cells_at g2 2 _ rfl; have h3 := cells_at g2 3 _ rfl; have h4 := cells_at g2 4 _ rfl; clear g2)
        | (go_at_call 34; with_reducible refine (HNV.out _ (trans_v hcut B9) _ (World.size_alloc _ _)).mono ?_; clear HNV; rintro e w10 ⟨rfl, b10⟩; have A10 := trans_v (trans_v (alloc_v (Below.refl _ _) _) b10) (alloc_v (Below.refl _ _) (.cells (vcells (intV nv) (.slice none 0 0)) 25)); have B10 := trans_v B9 A10; have g1 := (B10.block _ z1).trans F1.out; have g7 := ((trans_v A9 A10).block w7.heap.size (by simp)).trans G7.out; have g9 := (A10.block w9.heap.size (by simp)).trans G9.out; have g10 := World.alloc_heap_new w10 (.cells (vcells (intV nv) (.slice none 0 0)) 25); have k7 := cells_at g7 1 _ rfl; have k9 := cells_at g9 1 _ rfl; have k10 := cells_at g10 1 _ rfl; have s0 := cells_at g1 0 _ rfl; have s1 := cells_at g1 1 _ rfl; have s2 := cells_at g1 2 _ rfl; have s3 := cells_at g1 3 _ rfl; have s4 := cells_at g1 4 _ rfl; clear g1 g7 g9 g10))
      clear x0 x1 x2 x3 x4 y0 y1 y2 y3 y4 p0 p1 p2 p3 p4 q0 q1 q2 q3 q4 r0 r1 r2 r3 r4 t0 t1 t2 t3 t4 c0 c1 c2 c3 c4 d0 d1 d2 d3 d4 e0 e1 e2 e3 e4 m0 m1 m2 m3 m4 n0 n1 n2 n3 n4 h0 h1 h2 h3 h4 s0 s1 s2 s3 s4 k7 k9 k10
      go_loopw [24] (fun s wr => ((s = .int .i64 0 ∧ wr.heap[(w10.heap.size + 1)]? = some (.cells (vcells ⟨3, i, j, t, l⟩ (.slice az l.length cz)) 25 (0, 0))) ∨ (s = .int .i64 1 ∧ wr.heap[(w10.heap.size + 1)]? = some (.cells (vcells (gV (-j) i) (.slice none 0 0)) 25 (0, 0))) ∨ (s = .int .i64 2 ∧ wr.heap[(w10.heap.size + 1)]? = some (.cells (vcells (gV (-i) (-j)) (.slice none 0 0)) 25 (0, 0))) ∨ (s = .int .i64 3 ∧ wr.heap[(w10.heap.size + 1)]? = some (.cells (vcells (gV j (-i)) (.slice none 0 0)) 25 (0, 0))) ∨ (s = .int .i64 4 ∧ wr.heap[(w10.heap.size + 1)]? = some (.cells (vcells (gV i j) (.slice none 0 0)) 25 (0, 0)))) ∧ Below (w10.alloc (.cells (vcells (intV nv) (.slice none 0 0)) 25)).heap.size (w10.alloc (.cells (vcells (intV nv) (.slice none 0 0)) 25)) wr) (fun s _ => 4 - (intOf s).toNat)
      case atStart => exact ⟨.inl ⟨rfl, by have := World.alloc_heap_new (w10.alloc (.cells (vcells (intV nv) (.slice none 0 0)) 25)) (.cells (vcells ⟨3, i, j, t, l⟩ (.slice az l.length cz)) 25); rwa [World.size_alloc] at this⟩, alloc_v (Below.refl _ _) _⟩
      case round =>
        obtain ⟨hc, hbel⟩ := hrel
        have BR := trans_v B10 hbel
        rcases hc with ⟨rfl, hk⟩ | ⟨rfl, hk⟩ | ⟨rfl, hk⟩ | ⟨rfl, hk⟩ | ⟨rfl, hk⟩
        · have lt := (Array.getElem?_eq_some_iff.1 hk).1
          have c0 := cells_at hk 0 _ rfl
          have c1 := cells_at hk 1 _ rfl
          have c2 := cells_at hk 2 _ rfl
          have c3 := cells_at hk 3 _ rfl
          have c4 := cells_at hk 4 _ rfl
          have HK := hide hk
          have HC := hide (HTZ.out wr (trans_v hcut BR))
          clear hk
          go_wp2_with (go_at_call 34; refine HC.out.mono ?_; clear HC; rintro e w8 ⟨rfl, b8⟩; have a8 := trans_v (alloc_v (Below.refl _ _) _) b8; have f8 := (a8.block _ lt).trans HK.out; have f9 := (Below.heap_alloc w8 (.cells (vcells (gV (-j) i) (.slice none 0 0)) 25) _ (Array.getElem?_eq_some_iff.1 f8).1).trans f8; have K9 := hide f9; have B9' := trans_v hbel (trans_v a8 (alloc_v (Below.refl _ _) (.cells (vcells (gV (-j) i) (.slice none 0 0)) 25))); have d0 := cells_at f9 0 _ rfl; have d1 := cells_at f9 1 _ rfl; have d2 := cells_at f9 2 _ rfl; have d3 := cells_at f9 3 _ rfl; have d4 := cells_at f9 4 _ rfl; have q0 := frozen_at f9 0; have q1 := frozen_at f9 1; have q2 := frozen_at f9 2; have q3 := frozen_at f9 3; have q4 := frozen_at f9 4; clear f8 f9)
          have g := stored (w10.alloc (.cells (vcells (intV nv) (.slice none 0 0)) 25)) (w8.alloc (.cells (vcells (gV (-j) i) (.slice none 0 0)) 25)) 3 (-j) i ⟨#[]⟩ (.slice none 0 0) _ (w10.heap.size + 1) (by simp) B9' rfl K9.out
          go_roundw
          case rel => exact ⟨.inr (.inl ⟨rfl, g.1⟩), g.2⟩
          case measure => simp [intOf]
        · have lt := (Array.getElem?_eq_some_iff.1 hk).1
          have c0 := cells_at hk 0 _ rfl
          have c1 := cells_at hk 1 _ rfl
          have c2 := cells_at hk 2 _ rfl
          have c3 := cells_at hk 3 _ rfl
          have c4 := cells_at hk 4 _ rfl
          have HK := hide hk
          have HC := hide (HTG.out (-j) i (by omega) wr (trans_v hcut BR))
          clear hk
          go_wp2_with (go_at_call 34; refine HC.out.mono ?_; clear HC; rintro e w8 ⟨rfl, b8⟩; have a8 := trans_v (alloc_v (Below.refl _ _) _) b8; have f8 := (a8.block _ lt).trans HK.out; have f9 := (Below.heap_alloc w8 (.cells (vcells (gV (-i) (-j)) (.slice none 0 0)) 25) _ (Array.getElem?_eq_some_iff.1 f8).1).trans f8; have K9 := hide f9; have B9' := trans_v hbel (trans_v a8 (alloc_v (Below.refl _ _) (.cells (vcells (gV (-i) (-j)) (.slice none 0 0)) 25))); have d0 := cells_at f9 0 _ rfl; have d1 := cells_at f9 1 _ rfl; have d2 := cells_at f9 2 _ rfl; have d3 := cells_at f9 3 _ rfl; have d4 := cells_at f9 4 _ rfl; have q0 := frozen_at f9 0; have q1 := frozen_at f9 1; have q2 := frozen_at f9 2; have q3 := frozen_at f9 3; have q4 := frozen_at f9 4; clear f8 f9)
          have g := stored (w10.alloc (.cells (vcells (intV nv) (.slice none 0 0)) 25)) (w8.alloc (.cells (vcells (gV (-i) (-j)) (.slice none 0 0)) 25)) 3 (-i) (-j) ⟨#[]⟩ (.slice none 0 0) _ (w10.heap.size + 1) (by simp) B9' rfl K9.out
          go_roundw
          case rel => exact ⟨.inr (.inr (.inl ⟨rfl, g.1⟩)), g.2⟩
          case measure => simp [intOf]
        · have lt := (Array.getElem?_eq_some_iff.1 hk).1
          have c0 := cells_at hk 0 _ rfl
          have c1 := cells_at hk 1 _ rfl
          have c2 := cells_at hk 2 _ rfl
          have c3 := cells_at hk 3 _ rfl
          have c4 := cells_at hk 4 _ rfl
          have HK := hide hk
          have HC := hide (HTG.out (-i) (-j) (by omega) wr (trans_v hcut BR))
          rw [Int.neg_neg] at HC
          clear hk
          go_wp2_with (go_at_call 34; refine HC.out.mono ?_; clear HC; rintro e w8 ⟨rfl, b8⟩; have a8 := trans_v (alloc_v (Below.refl _ _) _) b8; have f8 := (a8.block _ lt).trans HK.out; have f9 := (Below.heap_alloc w8 (.cells (vcells (gV j (-i)) (.slice none 0 0)) 25) _ (Array.getElem?_eq_some_iff.1 f8).1).trans f8; have K9 := hide f9; have B9' := trans_v hbel (trans_v a8 (alloc_v (Below.refl _ _) (.cells (vcells (gV j (-i)) (.slice none 0 0)) 25))); have d0 := cells_at f9 0 _ rfl; have d1 := cells_at f9 1 _ rfl; have d2 := cells_at f9 2 _ rfl; have d3 := cells_at f9 3 _ rfl; have d4 := cells_at f9 4 _ rfl; have q0 := frozen_at f9 0; have q1 := frozen_at f9 1; have q2 := frozen_at f9 2; have q3 := frozen_at f9 3; have q4 := frozen_at f9 4; clear f8 f9)
          have g := stored (w10.alloc (.cells (vcells (intV nv) (.slice none 0 0)) 25)) (w8.alloc (.cells (vcells (gV j (-i)) (.slice none 0 0)) 25)) 3 j (-i) ⟨#[]⟩ (.slice none 0 0) _ (w10.heap.size + 1) (by simp) B9' rfl K9.out
          go_roundw
          case rel => exact ⟨.inr (.inr (.inr (.inl ⟨rfl, g.1⟩))), g.2⟩
          case measure => simp [intOf]
        · have lt := (Array.getElem?_eq_some_iff.1 hk).1
          have c0 := cells_at hk 0 _ rfl
          have c1 := cells_at hk 1 _ rfl
          have c2 := cells_at hk 2 _ rfl
          have c3 := cells_at hk 3 _ rfl
          have c4 := cells_at hk 4 _ rfl
          have HK := hide hk
          have HC := hide (HTG.out j (-i) (by omega) wr (trans_v hcut BR))
          rw [Int.neg_neg] at HC
          clear hk
          go_wp2_with (go_at_call 34; refine HC.out.mono ?_; clear HC; rintro e w8 ⟨rfl, b8⟩; have a8 := trans_v (alloc_v (Below.refl _ _) _) b8; have f8 := (a8.block _ lt).trans HK.out; have f9 := (Below.heap_alloc w8 (.cells (vcells (gV i j) (.slice none 0 0)) 25) _ (Array.getElem?_eq_some_iff.1 f8).1).trans f8; have K9 := hide f9; have B9' := trans_v hbel (trans_v a8 (alloc_v (Below.refl _ _) (.cells (vcells (gV i j) (.slice none 0 0)) 25))); have d0 := cells_at f9 0 _ rfl; have d1 := cells_at f9 1 _ rfl; have d2 := cells_at f9 2 _ rfl; have d3 := cells_at f9 3 _ rfl; have d4 := cells_at f9 4 _ rfl; have q0 := frozen_at f9 0; have q1 := frozen_at f9 1; have q2 := frozen_at f9 2; have q3 := frozen_at f9 3; have q4 := frozen_at f9 4; clear f8 f9)
          have g := stored (w10.alloc (.cells (vcells (intV nv) (.slice none 0 0)) 25)) (w8.alloc (.cells (vcells (gV i j) (.slice none 0 0)) 25)) 3 i j ⟨#[]⟩ (.slice none 0 0) _ (w10.heap.size + 1) (by simp) B9' rfl K9.out
          go_roundw
          case rel => exact ⟨.inr (.inr (.inr (.inr ⟨rfl, g.1⟩))), g.2⟩
          case measure => simp [intOf]
        · have fz := (BR.block _ z1).trans F1.out
          have c0 := cells_at hk 0 _ rfl
          have c1 := cells_at hk 1 _ rfl
          have c2 := cells_at hk 2 _ rfl
          have c3 := cells_at hk 3 _ rfl
          have c4 := cells_at hk 4 _ rfl
          have d0 := cells_at fz 0 _ rfl
          have d1 := cells_at fz 1 _ rfl
          have d2 := cells_at fz 2 _ rfl
          have d3 := cells_at fz 3 _ rfl
          have d4 := cells_at fz 4 _ rfl
          clear hk fz
          go_wp2
          go_ret
          exact ⟨rfl, trans_v (trans_v bW hcut) BR⟩
end Go.Proofs.YtmgmndhibcgpdaaGreatDoor

/- Proved: ArithRings answers true for all numbers and values, up to the bulk of its upto statement. -/
namespace Go.Proofs.YtmgmndhibcgpdaaGreatDoor.arithRings
open Go.ChangeShapes Go.WideShapes Go.ChangeAt Go.RowKit
open Go.ChangeMaps (open_string)

set_option maxRecDepth 100000 in
theorem contract (H : Type) (enc : TypeId × Value → H) (W : World) (base : Nat) (args : Array Value) (ds gs : List (DataW H)) (before : List MemPlace)
    (hval : ∀ (j : Nat) t v, Tryz.f8.params[j]? = some t → args[j]? = some v → Value.okWide Tryz.prog W .any base t v)
    (hW : DataW.Whole enc Tryz.prog Tryz.f8.params.toList Rows.arithRingsSpec.vars false W args.toList ds gs before) (hL : laidMetH Tryz.prog laidLL W) (hk : Rows.uptoBulkAll (ds ++ gs) ≤ 1048576) :
    Calls Tryz.prog 8 args W fun e W' => ∃ v, e = .returned v ∧ Rows.arithRingsSpec.post enc Tryz.prog Tryz.f8 false true false false W args v W' := by
  have hW' := hW
  obtain ⟨p, q, hA0, hV, rfl, hfz, hnd⟩ := hW
  have hA : DataW.TrodAll enc Tryz.prog W 0 (fun _ => true) true Tryz.f8.params.toList args.toList ds p := hA0
  rw [Tryz.params8] at hA hval
  obtain ⟨v0, vs0, d0, ds0, p0, q0, hargs, rfl, rfl, h0, r0⟩ := trodAll_cons hA
  obtain ⟨v1, vs1, d1, ds1, p1, q1, rfl, rfl, rfl, h1, r1⟩ := trodAll_cons r0
  obtain ⟨v2, vs2, d2, ds2, p2, q2, rfl, rfl, rfl, h2, r2⟩ := trodAll_cons r1
  obtain ⟨v3, vs3, d3, ds3, p3, q3, rfl, rfl, rfl, h3, r3⟩ := trodAll_cons r2
  obtain ⟨rfl, rfl, rfl⟩ := trodAll_nil r3
  obtain rfl : args = #[v0, v1, v2, v3] := by cases args; simp_all
  obtain ⟨rfl, rfl⟩ := trodVars_none hV
  simp only [List.append_nil, Rows.uptoBulkAll] at hk
  obtain ⟨n0, rfl, rfl, rfl, wf0⟩ := open_int Tryz.underlying2 (hval 0 2 v0 rfl rfl) h0
  have w0 := bounds_i64 wf0
  obtain ⟨n1, rfl, rfl, rfl, wf1⟩ := open_int Tryz.underlying2 (hval 1 2 v1 rfl rfl) h1
  have w1 := bounds_i64 wf1
  obtain ⟨cs2, rfl, _⟩ := okWide_struct Tryz.underlying25 (hval 2 25 v2 rfl rfl)
  have k2 := h2
  have lt2 : ∀ x ∈ p2, x.block < W.heap.size := by obtain ⟨m, hm⟩ := k2; exact DataW.trod_lt m _ _ _ hm
  obtain ⟨fuel2, hf2⟩ := h2
  obtain ⟨x2, sl2, ecs2, hI2, hs2, hok2⟩ := open_val fuel2 (cs := cs2.toList) hf2 (by omega)
  obtain rfl : cs2 = vcells x2 sl2 := by cases cs2; simpa using ecs2
  obtain ⟨cs3, rfl, _⟩ := okWide_struct Tryz.underlying25 (hval 3 25 v3 rfl rfl)
  have k3 := h3
  have lt3 : ∀ x ∈ p3, x.block < W.heap.size := by obtain ⟨m, hm⟩ := k3; exact DataW.trod_lt m _ _ _ hm
  obtain ⟨fuel3, hf3⟩ := h3
  obtain ⟨x3, sl3, ecs3, hI3, hs3, hok3⟩ := open_val fuel3 (cs := cs3.toList) hf3 (by omega)
  obtain rfl : cs3 = vcells x3 sl3 := by cases cs3; simpa using ecs3
  clear hA0
  simp only [List.append_nil] at hW'
  refine (arithRings_walk n0 n1 w0.1 w0.2 w1.1 w1.2 x2 x3 W _ _ sl2 sl3 (tabL_of_laid hL) hok2 hok3 hI2 hI3).mono fun e W' ⟨he, bel⟩ => ?_
  subst he
  exact ⟨_, rfl, _, _, _, [], _, [], hW', trodAll_mk1 (shut_bool Tryz.underlying4 _), trodAll_cons_mk (shut_int Tryz.underlying2 wf0) (trodAll_cons_mk (shut_int Tryz.underlying2 wf1) (trodAll_cons_mk (Below.trod laidOut (by kernel_rfl) (of_decide_eq_true (by kernel_rfl)) k2 bel lt2) (trodAll_cons_mk (Below.trod laidOut (by kernel_rfl) (of_decide_eq_true (by kernel_rfl)) k3 bel lt3) trodAll_mk0))), rfl, bel.frame _, fun h => by cases h⟩

theorem laid_met (os : Os) : laidMet Tryz.prog Rows.arithRingsUptoRow.laid ((laidWorld os).forCall (fun _ _ => 0) ⟨#[], #[.int .i64 0, .int .i64 0, .agg #[.int .i64 0, .int .i64 0, .int .i64 0, .string ⟨#[]⟩, .slice none 0 0], .agg #[.int .i64 0, .int .i64 0, .int .i64 0, .string ⟨#[]⟩, .slice none 0 0]], []⟩).memory :=
  laidMet_of_run' 8 (by kernel_rfl) (by kernel_rfl)
theorem reads (os : Os) {H : Type} (enc : TypeId × Value → H) : ∃ places, DataW.whole enc Tryz.prog ((laidWorld os).forCall (fun _ _ => 0) ⟨#[], #[.int .i64 0, .int .i64 0, .agg #[.int .i64 0, .int .i64 0, .int .i64 0, .string ⟨#[]⟩, .slice none 0 0], .agg #[.int .i64 0, .int .i64 0, .int .i64 0, .string ⟨#[]⟩, .slice none 0 0]], []⟩).memory Tryz.f8.params.toList Rows.arithRingsSpec.vars false #[Value.int .i64 0, Value.int .i64 0, Value.agg #[.int .i64 0, .int .i64 0, .int .i64 0, .string ⟨#[]⟩, .slice none 0 0], Value.agg #[.int .i64 0, .int .i64 0, .int .i64 0, .string ⟨#[]⟩, .slice none 0 0]].toList 8 = some ([.lit (.int .i64 0), .lit (.int .i64 0), .agg [.lit (.int .i64 0), .lit (.int .i64 0), .lit (.int .i64 0), .lit (.string []), .nil], .agg [.lit (.int .i64 0), .lit (.int .i64 0), .lit (.int .i64 0), .lit (.string []), .nil]], [], places) :=
  ⟨[], by kernel_rfl⟩

set_option maxRecDepth 100000 in
theorem liftedUpto (os : Os) (started : os.Started) (H : Type) (enc : TypeId × Value → H) (F : Stop.Interp) :
    ReturnsInHanded {} Tryz.checked os 8 .any ((Rows.OpenSpec.upto Rows.arithRingsSpec).preRow enc Tryz.prog Tryz.f8 Rows.arithRingsUptoRow.domain false Rows.arithRingsUptoRow.laid) (((Rows.OpenSpec.upto Rows.arithRingsSpec).at F).post enc Tryz.prog Tryz.f8 false true false false) := by
  obtain ⟨places, hx⟩ := reads os enc
  refine returnsInHanded_of_row (C := Tryz.checked) (s := Rows.OpenSpec.upto Rows.arithRingsSpec) own started (by kernel_rfl) Tryz.func8
    (witness_row_at (enc := enc) (C := Tryz.checked) false (laidWorld os) #[.int .i64 0, .int .i64 0, .agg #[.int .i64 0, .int .i64 0, .int .i64 0, .string ⟨#[]⟩, .slice none 0 0], .agg #[.int .i64 0, .int .i64 0, .int .i64 0, .string ⟨#[]⟩, .slice none 0 0]] rfl (by kernel_rfl) (by kernel_rfl) (by kernel_rfl)
      (OpenSpec.preRow_of_cond 8 hx (by kernel_rfl) (fun k hk => by cases hk; kernel_rfl) (by kernel_rfl) (laid_met os))) ?_
  intro W base args ds gs before hval hW _ hcond _ hL _ _
  exact contract H enc W base args ds gs before hval hW hL (of_decide_eq_true (hcond _ rfl))

theorem saidUpto : Rows.ArithRingsUptoSaid :=
  OpenClaim.holds_of_cond 8 Tryz.f8 rfl rfl rfl rfl rfl rfl rfl ⟨rfl, rfl, rfl, rfl, rfl⟩ rfl rfl rfl rfl rfl (by kernel_rfl) Tryz.func8 (by kernel_rfl)
    (of_decide_eq_true (by kernel_rfl)) (by unfold Func.isWrapper; first | (rw [if_pos (by decide +kernel)]; kernel_rfl) | (rw [if_neg (by decide +kernel)]; exact ⟨rfl, rfl⟩))
    (fun os started H enc _ F => by rw [OpenClaim.pre_eq_preRow]; exact liftedUpto os started H enc F)

theorem plain (f : FuncId) (fn : Func) (hf : Tryz.pinned.checked.prog.funcNamed Rows.arithRingsRow.func = some f) (hfn : Tryz.pinned.checked.prog.funcs[f]? = some fn) :
    true = Tryz.pinned.checked.prog.looks [] ∧ ∀ (j : Nat) t, fn.params[j]? = some t → Tryz.pinned.checked.prog.wantsStandIn t = false := by
  obtain rfl : f = 8 := Option.some.inj ((show Tryz.prog.funcNamed Rows.arithRingsRow.func = some 8 by kernel_rfl).symm.trans hf) |>.symm
  obtain rfl : fn = Tryz.f8 := (Option.some.inj (Tryz.func8.symm.trans hfn)).symm
  refine ⟨by kernel_rfl, fun j t ht => ?_⟩
  rw [Tryz.params8] at ht
  have hm : t = 2 ∨ t = 2 ∨ t = 25 ∨ t = 25 := by simpa using Array.mem_of_getElem? ht
  rcases hm with rfl | rfl | rfl | rfl
  · exact (show Tryz.prog.wantsStandIn 2 = false by kernel_rfl)
  · exact (show Tryz.prog.wantsStandIn 2 = false by kernel_rfl)
  · exact (show Tryz.prog.wantsStandIn 25 = false by kernel_rfl)
  · exact (show Tryz.prog.wantsStandIn 25 = false by kernel_rfl)

theorem cardUpto : Rows.ArithRingsUptoCardSaid :=
  Claim7.holds_tied_plain_at .later [] _ _ _ _ saidUpto (fun _ h => by cases h) (by kernel_rfl) (fun _ h => by cases h) arithRingsUpto_row_tie rfl ⟨rfl, rfl⟩ (by kernel_rfl) rfl plain (by kernel_rfl)
end Go.Proofs.YtmgmndhibcgpdaaGreatDoor.arithRings
namespace Go.Proofs.YtmgmndhibcgpdaaGreatDoor
theorem arithRings_upto : Rows.ArithRingsUptoCardSaid := arithRings.cardUpto
#print axioms arithRings_upto
end Go.Proofs.YtmgmndhibcgpdaaGreatDoor
