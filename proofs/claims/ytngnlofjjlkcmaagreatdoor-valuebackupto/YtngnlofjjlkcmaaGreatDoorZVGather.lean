/- gather: Tuple, List, Set. -/
import Derived.Test.YtngnlofjjlkcmaaGreatDoorZVClone
namespace Go.Proofs.YtngnlofjjlkcmaaGreatDoor
open Go.RowKit

theorem stored_cell (W : World) (b b' o : Nat) (v0 v1 v2 v3 v4 : Value) (h : b' ≠ b) :
    (((((W.setCell ⟨b, 0, none⟩ v0).setCell ⟨b, 1, none⟩ v1).setCell ⟨b, 2, none⟩ v2).setCell ⟨b, 3, none⟩ v3).setCell ⟨b, 4, none⟩ v4).cell? ⟨b', o, none⟩ = W.cell? ⟨b', o, none⟩ := by
  refine World.cell?_of_block ?_
  rw [Below.heap_setCell _ _ _ _ h, Below.heap_setCell _ _ _ _ h, Below.heap_setCell _ _ _ _ h, Below.heap_setCell _ _ _ _ h, Below.heap_setCell _ _ _ _ h]
set_option maxRecDepth 100000 in
set_option maxHeartbeats 1000000 in
/-- Where an item is not right. -/
theorem gather_bad (kind : Int) (its : List Vl) (w : World) (n : Nat) (sl : Value) (hT : Tabs w) (hi : ItemsAt w w.heap.size (n + 2) sl its) (hb : ∃ x ∈ its, rightV x = false) :
    Calls Tryz.prog 40 #[.int .i64 kind, sl] w fun e w' => e = .returned (.tuple #[.agg zcells, .int .i64 40]) ∧ Below w.heap.size w w' := by
  have HA := hide hb
  clear hb
  obtain ⟨W, hW⟩ : ∃ W, w.alloc (.cells zcells 26) = W := ⟨_, rfl⟩
  have bW : Below w.heap.size w W := by rw [← hW]; exact alloc_v (Below.refl _ _) _
  have e1 : W.heap[w.heap.size]? = some (.cells zcells 26 (0, 0)) := by rw [← hW]; exact World.alloc_heap_new w _
  have zW : w.heap.size < W.heap.size := (Array.getElem?_eq_some_iff.1 e1).1
  have HE1 := hide e1
  have HV := hide (hi.below bW)
  have HT := hide (hT.below bW)
  obtain ⟨a, c, rfl, hla⟩ := hi.len
  unfold maxLen at hla
  clear hi hT e1
  go_enter Tryz.func40, Tryz.ntmps40
  go_wp2
  clear hW
  go_loopw [11] (fun i wr => ∃ k : Nat, k ≤ its.length ∧ i = .int .i64 k ∧ (∀ j (h : j < its.length), j < k → rightV its[j] = true) ∧ Below W.heap.size W wr) (fun i _ => its.length - (intOf i).toNat)
  case atStart => exact ⟨0, Nat.zero_le _, rfl, fun j _ h => by omega, Below.refl _ _⟩
  case round =>
    obtain ⟨k, hk, rfl, hz, hbel⟩ := hrel
    by_cases hlt : k < its.length
    · obtain ⟨b1, o1, s1, rfl, g1, p0, p1, p2, p3, p4, p5, p6⟩ := (HV.out.below (hbel.mono (Nat.le_of_lt zW))).item k hlt
      have l1 : b1 < wr.heap.size := by have := hbel.size; omega
      have HC := hide (fun (U : World) (b : Below wr.heap.size wr U) => right_k its[k] U (n + 1) s1 (HT.out.below (trans_v hbel b)) p6.1 ((p5.below (b.mono (by have := hbel.size; omega))).up (by have := hbel.size; have := b.size; omega)))
      have HN := hide (fun (h : rightV its[k] = true) => (show ∀ j (h : j < its.length), j < k + 1 → rightV its[j] = true from fun j hj hjk => by
        by_cases e : j = k
        · subst e; exact h
        · exact hz j hj (by omega)))
      obtain ⟨xx1, yy1, rfl, _⟩ := p5.len
      have HB2 := hide hbel
      clear hz p5 p6 hbel g1
      generalize hx : rightV its[k] = x at *
      have HX := hide hx
      clear hx
      generalize its[k].items = xi at *
      generalize its[k] = y at *
      cases x
      · have f1 := (HB2.out.block _ zW).trans HE1.out
        go_wp2_with (go_at_call 18; refine (HC.out _ (alloc_v (Below.refl _ _) _)).mono ?_; clear HC; rintro e w2 ⟨rfl, b2⟩; have f2 := (b2.block _ (by rw [World.size_alloc]; have := HB2.out.size; omega)).trans ((Below.heap_alloc _ _ _ (by have := HB2.out.size; omega)).trans f1); have F2 := hide f2; have y0 := cells_at f2 0 _ rfl; have y1 := cells_at f2 1 _ rfl; have y2 := cells_at f2 2 _ rfl; have y3 := cells_at f2 3 _ rfl; have y4 := cells_at f2 4 _ rfl; have q0 := frozen_at f2 0; have q1 := frozen_at f2 1; have q2 := frozen_at f2 2; have q3 := frozen_at f2 3; have q4 := frozen_at f2 4; have B2 := hide b2; clear f2 b2)
        have b3 := trans_v bW (trans_v HB2.out (trans_v (alloc_v (Below.refl _ _) _) B2.out))
        have g := stored w w2 0 0 0 ⟨#[]⟩ (.slice none 0 0) zcells w.heap.size (Nat.le_refl _) b3 rfl F2.out
        refine bodyPost_ret (results_struct_tmp rfl _ _ w.heap.size _ _ _ _ rfl g.1 Tryz.underlying26 rfl infoVal5) rfl ?_
        exact ⟨rfl, g.2⟩
      · go_wp2_with (go_at_call 18; refine (HC.out _ (alloc_v (Below.refl _ _) _)).mono ?_; clear HC; rintro e w2 ⟨rfl, b2⟩; have B2 := hide b2; clear b2)
        go_roundw
        case rel => exact ⟨k + 1, by omega, by go_num, HN.out trivial, trans_v HB2.out (trans_v (alloc_v (Below.refl _ _) _) B2.out)⟩
        case measure => simp [intOf]; omega
    · exfalso
      obtain ⟨x, hx, hr⟩ := HA.out
      obtain ⟨j, hj, rfl⟩ := List.getElem_of_mem hx
      rw [hz j hj (by omega)] at hr
      cases hr
set_option maxRecDepth 100000 in
set_option maxHeartbeats 1000000 in
/-- Another kind than a set. -/
theorem gather_other (kind : Int) (h7 : kind ≠ 7) (its : List Vl) (w : World) (n : Nat) (sl : Value) (hT : Tabs w) (hi : ItemsAt w w.heap.size (n + 2) sl its) (ha : ∀ x ∈ its, rightV x = true) (hsz : (⟨kind, 0, 0, ⟨#[]⟩, its⟩ : Vl).size ≤ 1000000000) :
    Calls Tryz.prog 40 #[.int .i64 kind, sl] w fun e w' => ∃ s', e = .returned (.tuple #[.agg (bif rightV ⟨kind, 0, 0, ⟨#[]⟩, its⟩ then vcells ⟨kind, 0, 0, ⟨#[]⟩, its⟩ s' else zcells), .int .i64 (bif rightV ⟨kind, 0, 0, ⟨#[]⟩, its⟩ then 0 else 42)]) ∧ (rightV ⟨kind, 0, 0, ⟨#[]⟩, its⟩ = true → ItemsIn w' (fun b => w.heap.size < b ∧ b < w'.heap.size) (n + 2) s' its) ∧ Below w.heap.size w w' := by
  have HA := hide ha
  have HSZ := hide hsz
  have h7' : (kind == 7) = false := by simpa using h7
  clear ha hsz
  obtain ⟨W, hW⟩ : ∃ W, w.alloc (.cells zcells 26) = W := ⟨_, rfl⟩
  have bW : Below w.heap.size w W := by rw [← hW]; exact alloc_v (Below.refl _ _) _
  have e1 : W.heap[w.heap.size]? = some (.cells zcells 26 (0, 0)) := by rw [← hW]; exact World.alloc_heap_new w _
  have zW : w.heap.size < W.heap.size := (Array.getElem?_eq_some_iff.1 e1).1
  have HE1 := hide e1
  have HV := hide (hi.below bW)
  have HT := hide (hT.below bW)
  obtain ⟨a, c, rfl, hla⟩ := hi.len
  unfold maxLen at hla
  clear hi hT e1
  go_enter Tryz.func40, Tryz.ntmps40
  go_wp2
  clear hW
  go_loopw [11] (fun i wr => ∃ k : Nat, k ≤ its.length ∧ i = .int .i64 k ∧ (∀ j (h : j < its.length), j < k → rightV its[j] = true) ∧ Below W.heap.size W wr) (fun i _ => its.length - (intOf i).toNat)
  case atStart => exact ⟨0, Nat.zero_le _, rfl, fun j _ h => by omega, Below.refl _ _⟩
  case round =>
    obtain ⟨k, hk, rfl, hz, hbel⟩ := hrel
    by_cases hlt : k < its.length
    · obtain ⟨b1, o1, s1, rfl, g1, p0, p1, p2, p3, p4, p5, p6⟩ := (HV.out.below (hbel.mono (Nat.le_of_lt zW))).item k hlt
      have l1 : b1 < wr.heap.size := by have := hbel.size; omega
      have HC := hide (fun (U : World) (b : Below wr.heap.size wr U) => right_k its[k] U (n + 1) s1 (HT.out.below (trans_v hbel b)) p6.1 ((p5.below (b.mono (by have := hbel.size; omega))).up (by have := hbel.size; have := b.size; omega)))
      have HN := hide (fun (h : rightV its[k] = true) => (show ∀ j (h : j < its.length), j < k + 1 → rightV its[j] = true from fun j hj hjk => by
        by_cases e : j = k
        · subst e; exact h
        · exact hz j hj (by omega)))
      obtain ⟨xx1, yy1, rfl, _⟩ := p5.len
      have HB2 := hide hbel
      clear hz p5 p6 hbel g1
      have hx := HA.out its[k] (List.getElem_mem hlt)
      rw [hx] at HC
      have HX := hide hx
      clear hx
      generalize its[k].items = xi at *
      generalize its[k] = y at *
      · go_wp2_with (go_at_call 18; refine (HC.out _ (alloc_v (Below.refl _ _) _)).mono ?_; clear HC; rintro e w2 ⟨rfl, b2⟩; have B2 := hide b2; clear b2)
        go_roundw
        case rel => exact ⟨k + 1, by omega, by go_num, HN.out HX.out, trans_v HB2.out (trans_v (alloc_v (Below.refl _ _) _) B2.out)⟩
        case measure => simp [intOf]; omega
    · have HI2 := hide ((HV.out.below (hbel.mono (Nat.le_of_lt zW))).up (Nat.le_trans (Nat.le_of_lt zW) hbel.size))
      have HB2 := hide hbel
      clear hz hbel
      have f1 := (HB2.out.block _ zW).trans HE1.out
      have hsz2 : w.heap.size < wr.heap.size := by have := HB2.out.size; omega
      have HR := hide (right_k ⟨kind, 0, 0, ⟨#[]⟩, its⟩ (wr.alloc (.cells (vcells ⟨kind, 0, 0, ⟨#[]⟩, its⟩ (.slice a its.length c)) 26)) (n + 2) (.slice a its.length c) (HT.out.below (trans_v HB2.out (alloc_v (Below.refl _ _) _))) (Nat.zero_le _) ((HI2.out.below (alloc_v (Below.refl _ _) _)).up (by simp)))
      have HC := hide (fun (U : World) (b : Below wr.heap.size wr U) => copied_k (n + 2) ⟨kind, 0, 0, ⟨#[]⟩, its⟩ U wr.heap.size (.slice a its.length c) HSZ.out b.size (HI2.out.below b))
      have F3 := hide (World.alloc_heap_new wr (.cells (vcells ⟨kind, 0, 0, ⟨#[]⟩, its⟩ (.slice a its.length c)) 26))
      have F1 := hide ((Below.heap_alloc wr (.cells (vcells ⟨kind, 0, 0, ⟨#[]⟩, its⟩ (.slice a its.length c)) 26) _ hsz2).trans f1)
      clear f1
      cases hx : rightV ⟨kind, 0, 0, ⟨#[]⟩, its⟩
      · rw [hx] at HR
        go_wp2_with (go_at_call 18; refine HR.out.mono ?_; clear HR; rintro e w3 ⟨rfl, b3⟩; have f3 := (b3.block _ (by rw [World.size_alloc]; omega)).trans F3.out; have f1 := (b3.block _ (by rw [World.size_alloc]; omega)).trans F1.out; have G1 := hide f1; have y0 := cells_at f3 0 _ rfl; have y1 := cells_at f3 1 _ rfl; have y2 := cells_at f3 2 _ rfl; have y3 := cells_at f3 3 _ rfl; have y4 := cells_at f3 4 _ rfl; have r0 := cells_at f1 0 _ rfl; have r1 := cells_at f1 1 _ rfl; have r2 := cells_at f1 2 _ rfl; have r3 := cells_at f1 3 _ rfl; have r4 := cells_at f1 4 _ rfl; have q0 := frozen_at f1 0; have q1 := frozen_at f1 1; have q2 := frozen_at f1 2; have q3 := frozen_at f1 3; have q4 := frozen_at f1 4; have B3 := hide b3; clear f3 f1 b3)
        have b4 := trans_v bW (trans_v HB2.out (trans_v (alloc_v (Below.refl _ _) _) B3.out))
        have g := stored w w3 0 0 0 ⟨#[]⟩ (.slice none 0 0) zcells w.heap.size (Nat.le_refl _) b4 rfl G1.out
        refine bodyPost_ret (results_struct_tmp rfl _ _ w.heap.size _ _ _ _ rfl g.1 Tryz.underlying26 rfl infoVal5) rfl ?_
        exact ⟨.slice none 0 0, by rw [hx]; rfl, fun h => (by rw [hx] at h; cases h), g.2⟩
      · rw [hx] at HR
        go_wp2_with (first
          | (go_at_call 18; refine HR.out.mono ?_; clear HR; rintro e w3 ⟨rfl, b3⟩; have f3 := (b3.block _ (by rw [World.size_alloc]; omega)).trans F3.out; have f1 := (b3.block _ (by rw [World.size_alloc]; omega)).trans F1.out; have G1 := hide f1; have y0 := cells_at f3 0 _ rfl; have y1 := cells_at f3 1 _ rfl; have y2 := cells_at f3 2 _ rfl; have y3 := cells_at f3 3 _ rfl; have y4 := cells_at f3 4 _ rfl; have r0 := cells_at f1 0 _ rfl; have r1 := cells_at f1 1 _ rfl; have r2 := cells_at f1 2 _ rfl; have r3 := cells_at f1 3 _ rfl; have r4 := cells_at f1 4 _ rfl; have q0 := frozen_at f1 0; have q1 := frozen_at f1 1; have q2 := frozen_at f1 2; have q3 := frozen_at f1 3; have q4 := frozen_at f1 4; have B3 := hide b3; clear f3 f1 b3)
          | (go_at_call 89; refine (HC.out _ (trans_v (alloc_v (Below.refl _ _) _) B3.out)).mono ?_; clear HC; rintro e w4 ⟨s4, rfl, i4, b4⟩; obtain ⟨a4, c4, rfl, _⟩ := i4.len; have f4 := (b4.block _ (by have := B3.out.size; rw [World.size_alloc] at this; omega)).trans G1.out; have G4 := hide f4; have s0 := cells_at f4 0 _ rfl; have s1 := cells_at f4 1 _ rfl; have s2 := cells_at f4 2 _ rfl; have s3 := cells_at f4 3 _ rfl; have s4 := cells_at f4 4 _ rfl; have t0 := frozen_at f4 0; have t1 := frozen_at f4 1; have t2 := frozen_at f4 2; have t3 := frozen_at f4 3; have t4 := frozen_at f4 4; have B4 := hide b4; have I4 := hide i4; clear f4 b4 i4))
        have b5 := trans_v bW (trans_v HB2.out (trans_v (alloc_v (Below.refl _ _) _) (trans_v B3.out B4.out)))
        have g := stored w w4 kind 0 0 ⟨#[]⟩ (.slice a4 its.length c4) zcells w.heap.size (Nat.le_refl _) b5 rfl G4.out
        refine bodyPost_ret (results_struct_tmp rfl _ _ w.heap.size _ _ _ _ rfl g.1 Tryz.underlying26 rfl infoVal5) rfl ?_
        exact ⟨.slice a4 its.length c4, by rw [hx]; rfl, fun _ => I4.out.kept (fun b o hb => stored_cell _ _ _ _ _ _ _ _ _ (by have := hb.1; have := B3.out.size; rw [World.size_alloc] at this; omega)) (fun b hb => ⟨by have := hb.1; have := B3.out.size; rw [World.size_alloc] at this; omega, by simpa using hb.2⟩), g.2⟩
/-- distinct, by the items. -/
theorem distinct_items (w : World) (B n : Nat) (sl : Value) (its : List Vl) (hi : ItemsAt w B (n + 2) sl its) (h0 : its ≠ []) (hl : its.length ≤ 1000000000) (hB : B ≤ w.heap.size) :
    Calls Tryz.prog 62 #[sl] w fun e w' => ∃ s sl2, s.Perm its ∧ s.Pairwise (fun x y => ordV x y ≤ 0) ∧ e = .returned sl2 ∧ ItemsAt w' w'.heap.size (n + 2) sl2 (dd likeV s) ∧ Below w.heap.size w w' := by
  obtain ⟨a, c, rfl, _⟩ := hi.len
  obtain ⟨l, h1, h2⟩ := hi.evs
  have hlen : its.length = l.length := by rw [← h1, List.length_map]
  have hpos : 0 < l.length := by
    rw [← hlen]
    exact List.length_pos_iff.2 h0
  obtain ⟨b, off, rfl, _, _⟩ := h2 0 hpos
  have := distinct_k w B n ⟨b, off, none⟩ c l hpos (by omega) hB fun j hj => by
    obtain ⟨b', off', e, hb, hc⟩ := h2 j hj
    cases e
    exact ⟨rfl, hb, hc⟩
  rw [h1, ← hlen] at this
  exact this
set_option maxRecDepth 100000 in
set_option maxHeartbeats 1000000 in
/-- A set, of at least one item. -/
theorem gather_set (its : List Vl) (w : World) (n : Nat) (sl : Value) (hT : Tabs w) (hi : ItemsAt w w.heap.size (n + 2) sl its) (h0 : its ≠ []) (hl : its.length ≤ 1000000000) (ha : ∀ x ∈ its, rightV x = true) (hsz : ∀ s : List Vl, s.Perm its → (⟨7, 0, 0, ⟨#[]⟩, dd likeV s⟩ : Vl).size ≤ 1000000000) :
    Calls Tryz.prog 40 #[.int .i64 7, sl] w fun e w' => ∃ s s', s.Perm its ∧ s.Pairwise (fun x y => ordV x y ≤ 0) ∧ e = .returned (.tuple #[.agg (bif rightV ⟨7, 0, 0, ⟨#[]⟩, dd likeV s⟩ then vcells ⟨7, 0, 0, ⟨#[]⟩, dd likeV s⟩ s' else zcells), .int .i64 (bif rightV ⟨7, 0, 0, ⟨#[]⟩, dd likeV s⟩ then 0 else 42)]) ∧ (rightV ⟨7, 0, 0, ⟨#[]⟩, dd likeV s⟩ = true → ItemsIn w' (fun b => w.heap.size < b ∧ b < w'.heap.size) (n + 2) s' (dd likeV s)) ∧ Below w.heap.size w w' := by
  have HA := hide ha
  have HSZ := hide hsz
  have HD0 := hide (fun (U : World) (b : Below w.heap.size w U) => distinct_items U w.heap.size n sl its (hi.below b) h0 hl b.size)
  clear ha hsz
  obtain ⟨W, hW⟩ : ∃ W, w.alloc (.cells zcells 26) = W := ⟨_, rfl⟩
  have bW : Below w.heap.size w W := by rw [← hW]; exact alloc_v (Below.refl _ _) _
  have e1 : W.heap[w.heap.size]? = some (.cells zcells 26 (0, 0)) := by rw [← hW]; exact World.alloc_heap_new w _
  have zW : w.heap.size < W.heap.size := (Array.getElem?_eq_some_iff.1 e1).1
  have HE1 := hide e1
  have HV := hide (hi.below bW)
  have HT := hide (hT.below bW)
  obtain ⟨a, c, rfl, hla⟩ := hi.len
  unfold maxLen at hla
  clear hi hT e1
  go_enter Tryz.func40, Tryz.ntmps40
  go_wp2
  clear hW
  go_loopw [11] (fun i wr => ∃ k : Nat, k ≤ its.length ∧ i = .int .i64 k ∧ (∀ j (h : j < its.length), j < k → rightV its[j] = true) ∧ Below W.heap.size W wr) (fun i _ => its.length - (intOf i).toNat)
  case atStart => exact ⟨0, Nat.zero_le _, rfl, fun j _ h => by omega, Below.refl _ _⟩
  case round =>
    obtain ⟨k, hk, rfl, hz, hbel⟩ := hrel
    by_cases hlt : k < its.length
    · obtain ⟨b1, o1, s1, rfl, g1, p0, p1, p2, p3, p4, p5, p6⟩ := (HV.out.below (hbel.mono (Nat.le_of_lt zW))).item k hlt
      have l1 : b1 < wr.heap.size := by have := hbel.size; omega
      have HC := hide (fun (U : World) (b : Below wr.heap.size wr U) => right_k its[k] U (n + 1) s1 (HT.out.below (trans_v hbel b)) p6.1 ((p5.below (b.mono (by have := hbel.size; omega))).up (by have := hbel.size; have := b.size; omega)))
      have HN := hide (fun (h : rightV its[k] = true) => (show ∀ j (h : j < its.length), j < k + 1 → rightV its[j] = true from fun j hj hjk => by
        by_cases e : j = k
        · subst e; exact h
        · exact hz j hj (by omega)))
      obtain ⟨xx1, yy1, rfl, _⟩ := p5.len
      have HB2 := hide hbel
      clear hz p5 p6 hbel g1
      have hx := HA.out its[k] (List.getElem_mem hlt)
      rw [hx] at HC
      have HX := hide hx
      clear hx
      generalize its[k].items = xi at *
      generalize its[k] = y at *
      · go_wp2_with (go_at_call 18; refine (HC.out _ (alloc_v (Below.refl _ _) _)).mono ?_; clear HC; rintro e w2 ⟨rfl, b2⟩; have B2 := hide b2; clear b2)
        go_roundw
        case rel => exact ⟨k + 1, by omega, by go_num, HN.out HX.out, trans_v HB2.out (trans_v (alloc_v (Below.refl _ _) _) B2.out)⟩
        case measure => simp [intOf]; omega
    · have HB2 := hide hbel
      have HD := hide (fun (U : World) (b : Below W.heap.size W U) => HD0.out U (trans_v bW b))
      clear hz hbel HD0
      go_wp2_with (first
        | (go_at_call 62; refine (HD.out wr HB2.out).mono ?_; clear HD; rintro e w2 ⟨s, sl2, hp, hs, rfl, i2, b2⟩; have HB3 := hide (trans_v HB2.out b2); have f1 := (HB3.out.block _ zW).trans HE1.out; have hsz2 : w.heap.size < w2.heap.size := (by have := HB3.out.size; omega); obtain ⟨a2, c2, rfl, _⟩ := i2.len; have HI2 := hide i2; have HR := hide (right_k ⟨7, 0, 0, ⟨#[]⟩, dd likeV s⟩ (w2.alloc (.cells (vcells ⟨7, 0, 0, ⟨#[]⟩, dd likeV s⟩ (.slice a2 (dd likeV s).length c2)) 26)) (n + 2) (.slice a2 (dd likeV s).length c2) (HT.out.below (trans_v HB3.out (alloc_v (Below.refl _ _) _))) (Nat.zero_le _) ((HI2.out.below (alloc_v (Below.refl _ _) _)).up (by simp))); have HC := hide (fun (U : World) (b : Below w2.heap.size w2 U) => copied_k (n + 2) ⟨7, 0, 0, ⟨#[]⟩, dd likeV s⟩ U w2.heap.size (.slice a2 (dd likeV s).length c2) (HSZ.out s hp) b.size (HI2.out.below b)); have F3 := hide (World.alloc_heap_new w2 (.cells (vcells ⟨7, 0, 0, ⟨#[]⟩, dd likeV s⟩ (.slice a2 (dd likeV s).length c2)) 26)); have F1 := hide ((Below.heap_alloc w2 (.cells (vcells ⟨7, 0, 0, ⟨#[]⟩, dd likeV s⟩ (.slice a2 (dd likeV s).length c2)) 26) _ hsz2).trans f1); have HP := hide (And.intro hp hs); clear f1 i2 b2 hp hs; generalize hx : rightV ⟨7, 0, 0, ⟨#[]⟩, dd likeV s⟩ = x at HR; have HX := hide hx; clear hx)
        | (go_at_call 18; refine HR.out.mono ?_; clear HR; rintro e w3 ⟨rfl, b3⟩; have f3 := (b3.block _ (by rw [World.size_alloc]; omega)).trans F3.out; have f1 := (b3.block _ (by rw [World.size_alloc]; omega)).trans F1.out; have G1 := hide f1; have y0 := cells_at f3 0 _ rfl; have y1 := cells_at f3 1 _ rfl; have y2 := cells_at f3 2 _ rfl; have y3 := cells_at f3 3 _ rfl; have y4 := cells_at f3 4 _ rfl; have r0 := cells_at f1 0 _ rfl; have r1 := cells_at f1 1 _ rfl; have r2 := cells_at f1 2 _ rfl; have r3 := cells_at f1 3 _ rfl; have r4 := cells_at f1 4 _ rfl; have q0 := frozen_at f1 0; have q1 := frozen_at f1 1; have q2 := frozen_at f1 2; have q3 := frozen_at f1 3; have q4 := frozen_at f1 4; have B3 := hide b3; clear f3 f1 b3)
        | (go_at_call 89; refine (HC.out _ (trans_v (alloc_v (Below.refl _ _) _) B3.out)).mono ?_; clear HC; rintro e w4 ⟨s4, rfl, i4, b4⟩; obtain ⟨a4, c4, rfl, _⟩ := i4.len; have f4 := (b4.block _ (by have := B3.out.size; rw [World.size_alloc] at this; omega)).trans G1.out; have G4 := hide f4; have s0 := cells_at f4 0 _ rfl; have s1 := cells_at f4 1 _ rfl; have s2 := cells_at f4 2 _ rfl; have s3 := cells_at f4 3 _ rfl; have s4 := cells_at f4 4 _ rfl; have t0 := frozen_at f4 0; have t1 := frozen_at f4 1; have t2 := frozen_at f4 2; have t3 := frozen_at f4 3; have t4 := frozen_at f4 4; have B4 := hide b4; have I4 := hide i4; clear f4 b4 i4))
      · rename_i hn
        have hx := HX.out.trans (show x = false by simpa using hn)
        have b4 := trans_v bW (trans_v HB3.out (trans_v (alloc_v (Below.refl _ _) _) B3.out))
        have g := stored w w3 0 0 0 ⟨#[]⟩ (.slice none 0 0) zcells w.heap.size (Nat.le_refl _) b4 rfl G1.out
        refine bodyPost_ret (results_struct_tmp rfl _ _ w.heap.size _ _ _ _ rfl g.1 Tryz.underlying26 rfl infoVal5) rfl ?_
        exact ⟨s, .slice none 0 0, HP.out.1, HP.out.2, by rw [hx]; rfl, fun h => (by rw [hx] at h; cases h), g.2⟩
      · have hx := HX.out.trans (show x = true by simp_all)
        have b5 := trans_v bW (trans_v HB3.out (trans_v (alloc_v (Below.refl _ _) _) (trans_v B3.out B4.out)))
        have g := stored w w4 7 0 0 ⟨#[]⟩ (.slice a4 (dd likeV s).length c4) zcells w.heap.size (Nat.le_refl _) b5 rfl G4.out
        refine bodyPost_ret (results_struct_tmp rfl _ _ w.heap.size _ _ _ _ rfl g.1 Tryz.underlying26 rfl infoVal5) rfl ?_
        exact ⟨s, .slice a4 (dd likeV s).length c4, HP.out.1, HP.out.2, by rw [hx]; rfl, fun _ => I4.out.kept (fun b o hb => stored_cell _ _ _ _ _ _ _ _ _ (by have := hb.1; have := B3.out.size; rw [World.size_alloc] at this; omega)) (fun b hb => ⟨by have := hb.1; have := B3.out.size; rw [World.size_alloc] at this; omega, by simpa using hb.2⟩), g.2⟩
end Go.Proofs.YtngnlofjjlkcmaaGreatDoor
