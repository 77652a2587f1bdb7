/- The walk of the statement on parts of sets. -/
import Derived.Test.YtlgkbjhpjjmljaaDoorBPartsMath
import Derived.Test.YtlgkbjhpjjmljaaDoorBSame
import Derived.Test.YtlgkbjhpjjmljaaDoorBHeads
import Derived.Test.YtlgkbjhpjjmljaaDoorBLot
import Derived.Test.YtlgkbjhpjjmljaaDoorBRows
namespace Go.Proofs.YtlgkbjhpjjmljaaDoor
open Go.RowKit

/-- What Put leaves, whatever the number. -/
theorem put_any {w : World} {sb g cap n : Nat} {ws : List Nat} (h : SetAt w sb g cap n ws) (i : Int) :
    Calls Tryd.prog 21 #[.pointer (some ⟨sb, 0, none⟩), .int .i64 i] w fun e w' => e = .returned (.int .i64 (tk n i)) ∧ SetAt w' sb g cap n (if 0 ≤ i ∧ i < (n : Int) then putW ws i.toNat else ws) ∧ w.grownBy w' (some g) := by
  by_cases hi : 0 ≤ i ∧ i < (n : Int)
  · obtain ⟨k, rfl⟩ : ∃ k : Nat, i = (k : Int) := ⟨i.toNat, by omega⟩
    have e : tk n (k : Int) = 0 := if_pos hi
    rw [e, if_pos hi, Int.toNat_natCast]
    exact put_k h k (by omega)
  · rw [tk_out hi, if_neg hi]
    refine (put_out h i hi).mono ?_
    rintro e w' ⟨rfl, rfl⟩
    exact ⟨rfl, h, grown_refl _ _⟩

/-- Two sets of one room, beside what was there. -/
structure TwoSets (w : World) (n : Nat) (W : World) : Prop where
  one : ∃ ws, SetAt W (w.heap.size + 1) w.heap.size ((n + 63) / 64) n ws
  two : ∃ vs, SetAt W (w.heap.size + 2 + 1) (w.heap.size + 2) ((n + 63) / 64) n vs
  bel : Below w.heap.size w W

set_option maxRecDepth 100000 in
set_option maxHeartbeats 4000000 in
theorem bitsParts_no (i : Int) (hi : i < 0 ∨ 4096 < i) (va vb : Value) (w : World) (ht : Tab w) :
    Calls Tryd.prog 6 #[.int .i64 i, va, vb] w fun e w' => e = .returned (.bool true) ∧ Below w.heap.size w w' := by
  have HN := hide (new_no i hi)
  have HH := hide (heads_k w ht)
  clear hi
  go_enter Tryd.func6, Tryd.ntmps6
  go_wp2_with (first
    | (go_at_call 8; refine (HN.out _).mono ?_; rintro e w1 ⟨rfl, rfl⟩)
    | (go_at_call 10; refine HH.out.mono ?_; rintro e w1 ⟨rfl, b1⟩))
  go_ret
  exact ⟨rfl, b1⟩

set_option maxRecDepth 100000 in
set_option maxHeartbeats 8000000 in
theorem bitsParts_yes (n : Nat) (hn : n ≤ 4096) (va vb : Value) (la lb : List Int) (w : World) (ht : Tab w) (ha : IntsAt w w.heap.size va la) (hb : IntsAt w w.heap.size vb lb) (hla : la.length ≤ 1048576) (hlb : lb.length ≤ 1048576) :
    Calls Tryd.prog 6 #[.int .i64 (n : Int), va, vb] w fun e w' => e = .returned (.bool true) ∧ Below w.heap.size w w' := by
  have HA := hide ha
  have HB := hide hb
  obtain ⟨a, ca, rfl, _⟩ := ha
  obtain ⟨b, cb, rfl, _⟩ := hb
  have HN := hide (fun w => new_k n hn w)
  go_enter Tryd.func6, Tryd.ntmps6
  go_wp2_with (go_at_call 8; refine (HN.out w).mono ?_; rintro e w1 ⟨rfl, A1, A2, A3⟩; have S1 := hide A1; have B1 := hide A2; have Z1 := hide A3; clear A1 A2 A3)
  go_wp2_with (go_at_call 8; refine (HN.out w1).mono ?_; rintro e w2 ⟨rfl, A1, A2, A3⟩; have S2 := hide A1; have B2 := hide A2; have Z2 := hide A3; clear A1 A2 A3)
  have z1 := Z1.out
  have z2 := Z2.out
  have s2 := S2.out
  rw [z1] at s2 z2
  have b2 : Below w.heap.size w w2 := B1.out.trans (B2.out.mono (by omega))
  have s1 : SetAt w2 (w.heap.size + 1) w.heap.size ((n + 63) / 64) n (List.replicate ((n + 63) / 64) 0) := S1.out.below B2.out (by omega) (by omega)
  have HH := hide (heads_k w2 (ht.below b2 ht.lt))
  rw [z1]
  clear S1 S2 B1 B2 Z1 Z2 HN
  go_wp2_with (go_at_call 10; refine HH.out.mono ?_; clear HH; rintro e w3 ⟨rfl, b3⟩)
  have T3 : TwoSets w n w3 := ⟨⟨_, s1.below b3 (by omega) (by omega)⟩, ⟨_, s2.below b3 (by omega) (by omega)⟩, b2.trans (b3.mono (by omega))⟩
  clear s1 s2 b2 b3 z1 z2
  go_loopw [11] (fun i wr => ∃ k : Nat, k ≤ la.length ∧ i = .int .i64 k ∧ TwoSets w n wr) (fun i _ => la.length - (intOf i).toNat)
  case atStart => exact ⟨0, Nat.zero_le _, rfl, T3⟩
  case round =>
    obtain ⟨k, hk, rfl, hT⟩ := hrel
    clear T3
    by_cases hlt : k < la.length
    · obtain ⟨a', c', ea, hc⟩ := HA.out.below hT.bel
      simp only [Value.slice.injEq, true_and] at ea
      obtain ⟨rfl, rfl⟩ := ea
      obtain ⟨b', off, rfl, _, hcell⟩ := hc k hlt
      obtain ⟨ws, h1⟩ := hT.one
      obtain ⟨vs, h2⟩ := hT.two
      have HP := hide (put_any h1 la[k])
      have hbel := hT.bel
      clear hc hT
      generalize la[k] = x at *
      go_wp2_with (go_at_call 21; refine HP.out.mono ?_; clear HP; rintro e w4 ⟨rfl, A1, A2⟩; have T4 := hide (show TwoSets w n w4 from ⟨⟨_, A1⟩, ⟨_, h2.kept A2 (by simp <;> omega) (by simp <;> omega)⟩, below_gr hbel A2 (Nat.le_refl _) (Nat.le_refl _)⟩); clear A1 A2)
      go_roundw
      case rel => exact ⟨k + 1, by omega, by go_num, T4.out⟩
      case measure => simp [intOf]; omega
    · clear hk
      go_wp2
      go_loopw [12] (fun i wr => ∃ k : Nat, k ≤ lb.length ∧ i = .int .i64 k ∧ TwoSets w n wr) (fun i _ => lb.length - (intOf i).toNat)
      case atStart => exact ⟨0, Nat.zero_le _, rfl, hT⟩
      case round =>
        clear hT
        obtain ⟨j, hk, rfl, hT⟩ := hrel
        by_cases hlt2 : j < lb.length
        · obtain ⟨a', c', ea, hc⟩ := HB.out.below hT.bel
          simp only [Value.slice.injEq, true_and] at ea
          obtain ⟨rfl, rfl⟩ := ea
          obtain ⟨b', off, rfl, _, hcell⟩ := hc j hlt2
          obtain ⟨ws, h1⟩ := hT.one
          obtain ⟨vs, h2⟩ := hT.two
          have HP := hide (put_any h2 lb[j])
          have hbel := hT.bel
          clear hc hT
          generalize lb[j] = x at *
          go_wp2_with (go_at_call 21; refine HP.out.mono ?_; clear HP; rintro e w4 ⟨rfl, A1, A2⟩; have T4 := hide (show TwoSets w n w4 from ⟨⟨_, h1.kept A2 (by simp <;> omega) (by simp <;> omega)⟩, ⟨_, A1⟩, below_gr hbel A2 (by omega) (Nat.le_refl _)⟩); clear A1 A2)
          go_roundw
          case rel => exact ⟨j + 1, by omega, by go_num, T4.out⟩
          case measure => simp [intOf]; omega
        · clear hlt
          obtain ⟨ws, h1⟩ := hT.one
          obtain ⟨vs, h2⟩ := hT.two
          have hbel := hide hT.bel
          have hl : vs.length = ws.length := by rw [h1.len, h2.len]
          have K1 := hide (p_none hl h2.fit)
          have K2 := hide (p_both hl h1.fit h2.fit)
          have K3 := hide (p_ws hl h1.fit h2.fit)
          have K4 := hide (p_ut hl h2.fit)
          have K5 := hide (p_so hl h1.fit h2.fit)
          have K6 := hide (p_to hl h1.fit h2.fit)
          have K7 := hide (p_cnt hl h2.fit)
          have F0 : Hid (Lot n wr [((w.heap.size + 1), w.heap.size, ((n + 63) / 64), ws), ((w.heap.size + 2 + 1), (w.heap.size + 2), ((n + 63) / 64), vs)]) := ⟨fun q hq => by rcases List.mem_cons.1 hq with rfl | hq; exact h1; rw [List.mem_singleton.1 hq]; exact h2, by simp⟩
          clear h1 h2 hT hl hk HA HB
          have HC := hide (copy_k (F0.out.get 0 rfl))
          go_wp2_with (go_at_call 22; refine HC.out.mono ?_; clear HC; rintro e w4 ⟨sw, gw, cw, rfl, A1, _, A2, A3⟩; have Gw := hide (Nat.le_trans hbel.out.size A2); have F4 := hide (F0.out.add A3 A1 A2); have B4 := hide (hbel.out.trans (A3.mono hbel.out.size)); clear A1 A2 A3 F0 hbel)
          have HC := hide (copy_k (F4.out.get 0 rfl))
          go_wp2_with (go_at_call 22; refine HC.out.mono ?_; clear HC; rintro e w5 ⟨su, gu, cu, rfl, A1, _, A2, A3⟩; have Gu := hide (Nat.le_trans B4.out.size A2); have F5 := hide (F4.out.add A3 A1 A2); have B5 := hide (B4.out.trans (A3.mono B4.out.size)); clear A1 A2 A3 F4 B4)
          have HC := hide (copy_k (F5.out.get 0 rfl))
          go_wp2_with (go_at_call 22; refine HC.out.mono ?_; clear HC; rintro e w6 ⟨so, go, co, rfl, A1, _, A2, A3⟩; have Go := hide (Nat.le_trans B5.out.size A2); have F6 := hide (F5.out.add A3 A1 A2); have B6 := hide (B5.out.trans (A3.mono B5.out.size)); clear A1 A2 A3 F5 B5)
          have HC := hide (without_k (F6.out.get 2 rfl) (F6.out.get 1 rfl))
          have hge : w.heap.size ≤ gw := Gw.out
          go_wp2_with (go_at_call 23; refine HC.out.mono ?_; clear HC; rintro e w7 ⟨rfl, A1, A2⟩; have F7 : Hid (Lot n w7 [((w.heap.size + 1), w.heap.size, ((n + 63) / 64), ws), ((w.heap.size + 2 + 1), (w.heap.size + 2), ((n + 63) / 64), vs), (sw, gw, cw, List.zipWith woF (ws) (vs)), (su, gu, cu, ws), (so, go, co, ws)]) := F6.out.turn 2 rfl A2 A1; have B7 := hide (below_gr B6.out A2 hge (Nat.le_refl _)); clear A1 A2 hge F6 B6)
          have HC := hide (and_k (F7.out.get 3 rfl) (F7.out.get 1 rfl))
          have hge : w.heap.size ≤ gu := Gu.out
          go_wp2_with (go_at_call 24; refine HC.out.mono ?_; clear HC; rintro e w8 ⟨rfl, A1, A2⟩; have F8 : Hid (Lot n w8 [((w.heap.size + 1), w.heap.size, ((n + 63) / 64), ws), ((w.heap.size + 2 + 1), (w.heap.size + 2), ((n + 63) / 64), vs), (sw, gw, cw, List.zipWith woF (ws) (vs)), (su, gu, cu, List.zipWith andF (ws) (vs)), (so, go, co, ws)]) := F7.out.turn 3 rfl A2 A1; have B8 := hide (below_gr B7.out A2 hge (Nat.le_refl _)); clear A1 A2 hge F7 B7)
          have HC := hide (or_k (F8.out.get 4 rfl) (F8.out.get 1 rfl))
          have hge : w.heap.size ≤ go := Go.out
          go_wp2_with (go_at_call 25; refine HC.out.mono ?_; clear HC; rintro e w9 ⟨rfl, A1, A2⟩; have F9 : Hid (Lot n w9 [((w.heap.size + 1), w.heap.size, ((n + 63) / 64), ws), ((w.heap.size + 2 + 1), (w.heap.size + 2), ((n + 63) / 64), vs), (sw, gw, cw, List.zipWith woF (ws) (vs)), (su, gu, cu, List.zipWith andF (ws) (vs)), (so, go, co, List.zipWith orF (ws) (vs))]) := F8.out.turn 4 rfl A2 A1; have B9 := hide (below_gr B8.out A2 hge (Nat.le_refl _)); clear A1 A2 hge F8 B8)
          have HC := hide (copy_k (F9.out.get 2 rfl))
          go_wp2_with (go_at_call 22; refine HC.out.mono ?_; clear HC; rintro e w10 ⟨sn, gn, cn, rfl, A1, _, A2, A3⟩; have Gn := hide (Nat.le_trans B9.out.size A2); have F10 := hide (F9.out.add A3 A1 A2); have B10 := hide (B9.out.trans (A3.mono B9.out.size)); clear A1 A2 A3 F9 B9)
          have HC := hide (copy_k (F10.out.get 2 rfl))
          go_wp2_with (go_at_call 22; refine HC.out.mono ?_; clear HC; rintro e w11 ⟨sb, gb, cb, rfl, A1, _, A2, A3⟩; have Gb := hide (Nat.le_trans B10.out.size A2); have F11 := hide (F10.out.add A3 A1 A2); have B11 := hide (B10.out.trans (A3.mono B10.out.size)); clear A1 A2 A3 F10 B10)
          have HC := hide (and_k (F11.out.get 5 rfl) (F11.out.get 3 rfl))
          have hge : w.heap.size ≤ gn := Gn.out
          go_wp2_with (go_at_call 24; refine HC.out.mono ?_; clear HC; rintro e w12 ⟨rfl, A1, A2⟩; have F12 : Hid (Lot n w12 [((w.heap.size + 1), w.heap.size, ((n + 63) / 64), ws), ((w.heap.size + 2 + 1), (w.heap.size + 2), ((n + 63) / 64), vs), (sw, gw, cw, List.zipWith woF (ws) (vs)), (su, gu, cu, List.zipWith andF (ws) (vs)), (so, go, co, List.zipWith orF (ws) (vs)), (sn, gn, cn, List.zipWith andF (List.zipWith woF (ws) (vs)) (List.zipWith andF (ws) (vs))), (sb, gb, cb, List.zipWith woF (ws) (vs))]) := F11.out.turn 5 rfl A2 A1; have B12 := hide (below_gr B11.out A2 hge (Nat.le_refl _)); clear A1 A2 hge F11 B11)
          have HC := hide (or_k (F12.out.get 6 rfl) (F12.out.get 3 rfl))
          have hge : w.heap.size ≤ gb := Gb.out
          go_wp2_with (go_at_call 25; refine HC.out.mono ?_; clear HC; rintro e w13 ⟨rfl, A1, A2⟩; have F13 : Hid (Lot n w13 [((w.heap.size + 1), w.heap.size, ((n + 63) / 64), ws), ((w.heap.size + 2 + 1), (w.heap.size + 2), ((n + 63) / 64), vs), (sw, gw, cw, List.zipWith woF (ws) (vs)), (su, gu, cu, List.zipWith andF (ws) (vs)), (so, go, co, List.zipWith orF (ws) (vs)), (sn, gn, cn, List.zipWith andF (List.zipWith woF (ws) (vs)) (List.zipWith andF (ws) (vs))), (sb, gb, cb, List.zipWith orF (List.zipWith woF (ws) (vs)) (List.zipWith andF (ws) (vs)))]) := F12.out.turn 6 rfl A2 A1; have B13 := hide (below_gr B12.out A2 hge (Nat.le_refl _)); clear A1 A2 hge F12 B12)
          have HC : Hid (Calls Tryd.prog 26 #[.pointer (some ⟨sn, 0, none⟩)] w13 fun e w' => e = .returned (.int .i64 0) ∧ w13 = w') := by
            have c5 := count_k (F13.out.get 5 rfl)
            rw [K1.out, cnt_zero] at c5
            exact c5
          go_wp2_with (go_at_call 26; refine HC.out.mono ?_; clear HC; rintro e w14 ⟨rfl, rfl⟩)
          have HS : Hid (Calls Tryd.prog 15 #[.pointer (some ⟨sb, 0, none⟩), .pointer (some ⟨w.heap.size + 1, 0, none⟩)] w13 fun e w' => e = .returned (.bool true) ∧ ∃ m, w' = w13.drewN m) := by
            have c6 := same_k (F13.out.get 6 rfl) (F13.out.get 0 rfl)
            rw [K2.out, decide_eq_true rfl] at c6
            exact c6
          go_wp2_with (go_at_call 15; refine HS.out.mono ?_; clear HS; rintro e w14 ⟨rfl, m0, rfl⟩)
          have HW : Hid (Calls Tryd.prog 13 #[.pointer (some ⟨sw, 0, none⟩), .pointer (some ⟨w.heap.size + 1, 0, none⟩)] (w13.drewN m0) fun e w' => e = .returned (.bool true) ∧ ∃ m, w' = w13.drewN m) := by
            have c7 := within_k ((F13.out.get 2 rfl).drewN m0) ((F13.out.get 0 rfl).drewN m0)
            rw [K3.out] at c7
            exact c7.mono fun _ _ ⟨p, q, r⟩ => ⟨p, _, r.trans (World.drewN_drewN _ _ _)⟩
          go_wp2_with (go_at_call 13; refine HW.out.mono ?_; clear HW; rintro e w14 ⟨rfl, m1, rfl⟩)
          have HW : Hid (Calls Tryd.prog 13 #[.pointer (some ⟨su, 0, none⟩), .pointer (some ⟨w.heap.size + 2 + 1, 0, none⟩)] (w13.drewN m1) fun e w' => e = .returned (.bool true) ∧ ∃ m, w' = w13.drewN m) := by
            have c7 := within_k ((F13.out.get 3 rfl).drewN m1) ((F13.out.get 1 rfl).drewN m1)
            rw [K4.out] at c7
            exact c7.mono fun _ _ ⟨p, q, r⟩ => ⟨p, _, r.trans (World.drewN_drewN _ _ _)⟩
          go_wp2_with (go_at_call 13; refine HW.out.mono ?_; clear HW; rintro e w14 ⟨rfl, m2, rfl⟩)
          have HW : Hid (Calls Tryd.prog 13 #[.pointer (some ⟨w.heap.size + 1, 0, none⟩), .pointer (some ⟨so, 0, none⟩)] (w13.drewN m2) fun e w' => e = .returned (.bool true) ∧ ∃ m, w' = w13.drewN m) := by
            have c7 := within_k ((F13.out.get 0 rfl).drewN m2) ((F13.out.get 4 rfl).drewN m2)
            rw [K5.out] at c7
            exact c7.mono fun _ _ ⟨p, q, r⟩ => ⟨p, _, r.trans (World.drewN_drewN _ _ _)⟩
          go_wp2_with (go_at_call 13; refine HW.out.mono ?_; clear HW; rintro e w14 ⟨rfl, m3, rfl⟩)
          have HW : Hid (Calls Tryd.prog 13 #[.pointer (some ⟨w.heap.size + 2 + 1, 0, none⟩), .pointer (some ⟨so, 0, none⟩)] (w13.drewN m3) fun e w' => e = .returned (.bool true) ∧ ∃ m, w' = w13.drewN m) := by
            have c7 := within_k ((F13.out.get 1 rfl).drewN m3) ((F13.out.get 4 rfl).drewN m3)
            rw [K6.out] at c7
            exact c7.mono fun _ _ ⟨p, q, r⟩ => ⟨p, _, r.trans (World.drewN_drewN _ _ _)⟩
          go_wp2_with (go_at_call 13; refine HW.out.mono ?_; clear HW; rintro e w14 ⟨rfl, m4, rfl⟩)
          have hcl := cnt_le (List.zipWith orF ws vs)
          have hvl : (List.zipWith orF ws vs).length ≤ 64 := by have := (F13.out.get 4 rfl).len; have := (F13.out.get 4 rfl).room; omega
          have k7 := K7.out
          have HO := hide (count_k ((F13.out.get 4 rfl).drewN m4))
          have HW := hide (count_k ((F13.out.get 2 rfl).drewN m4))
          have HT := hide (count_k ((F13.out.get 1 rfl).drewN m4))
          clear K1 K2 K3 K4 K5 K6 K7 F13
          generalize cnt (List.zipWith orF ws vs) = xo at *
          generalize cnt (List.zipWith woF ws vs) = xw at *
          generalize cnt vs = xt at *
          subst k7
          go_wp2_with (go_at_call 26; refine HO.out.mono ?_; clear HO; rintro e w14 ⟨rfl, rfl⟩)
          go_wp2_with (go_at_call 26; refine HW.out.mono ?_; clear HW; rintro e w14 ⟨rfl, rfl⟩)
          have hwx : IntKind.i64.wrap ((xw : Int) + (xt : Int)) = (xw : Int) + (xt : Int) := by rw [IntKind.wrap_i64]; omega
          go_wp2_with (go_at_call 26; refine HT.out.mono ?_; clear HT; rintro e w14 ⟨rfl, rfl⟩)
          go_ret
          have bl := B13.out
          exact ⟨rfl, ⟨bl.os, bl.tape, bl.output, bl.size, bl.block⟩⟩

theorem bitsParts_walk (i : Int) (va vb : Value) (la lb : List Int) (w : World) (ht : Tab w) (ha : IntsAt w w.heap.size va la) (hb : IntsAt w w.heap.size vb lb) (hla : la.length ≤ 1048576) (hlb : lb.length ≤ 1048576) :
    Calls Tryd.prog 6 #[.int .i64 i, va, vb] w fun e w' => e = .returned (.bool true) ∧ Below w.heap.size w w' := by
  by_cases hi : i < 0 ∨ 4096 < i
  · exact bitsParts_no i hi va vb w ht
  · obtain ⟨n, rfl⟩ : ∃ n : Nat, i = (n : Int) := ⟨i.toNat, by omega⟩
    exact bitsParts_yes n (by omega) va vb la lb w ht ha hb hla hlb
end Go.Proofs.YtlgkbjhpjjmljaaDoor
