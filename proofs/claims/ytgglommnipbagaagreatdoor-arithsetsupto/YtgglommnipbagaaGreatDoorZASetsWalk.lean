/- ArithSets answers true. -/
import Derived.Test.YtgglommnipbagaaGreatDoorGSets
import Derived.Test.YtgglommnipbagaaGreatDoorGACalls
import Derived.Test.YtgglommnipbagaaGreatDoorGMade
import Derived.Deep.CutRange
namespace Go.Proofs.YtgglommnipbagaaGreatDoor
open Go.RowKit

set_option maxRecDepth 100000 in
set_option maxHeartbeats 2000000 in
theorem arithSets_no (a b : Vl) (w : World) (n : Nat) (sa sb : Value) (hT : TabL w) (oa : a.ok) (ob : b.ok) (ha : ItemsAt w w.heap.size (n + 2) sa a.items) (hb : ItemsAt w w.heap.size (n + 2) sb b.items) (hno : ¬ (rightV a = true ∧ rightV b = true ∧ a.kind = 7 ∧ b.kind = 7)) :
    Calls Tryz.prog 8 #[.agg (vcells a sa), .agg (vcells b sb)] w fun e w' => e = .returned (.bool true) ∧ Below w.heap.size w w' := by
  obtain ⟨W, hW⟩ : ∃ W, (w.alloc (.cells (vcells a sa) 25)).alloc (.cells (vcells b sb) 25) = W := ⟨_, rfl⟩
  have bW : Below w.heap.size w W := by rw [← hW]; exact two_below _ _ _
  have LA : Lies W w.heap.size a sa := by rw [← hW]; exact two_first _ _ _
  have LB : Lies W (w.heap.size + 1) b sb := by rw [← hW]; exact two_second _ _ _
  have HLA := hide LA
  have HLB := hide LB
  obtain ⟨x0, x1, x2, x3, x4⟩ := LA.cells
  have HR1 := hide (fun (U : World) (u : Below w.heap.size w U) => refRight_k a U (n + 2) sa oa.1 ((ha.below u).up u.size))
  have HR2 := hide (fun (U : World) (u : Below w.heap.size w U) => refRight_k b U (n + 2) sb ob.1 ((hb.below u).up u.size))
  have HT := hide (fun (U : World) (u : Below w.heap.size w U) => heads5_k U (hT.below u))
  obtain ⟨a1, c1, rfl, _⟩ := ha.len
  obtain ⟨a2, c2, rfl, _⟩ := hb.len
  clear ha hb hT oa ob LA LB
  cases ra : rightV a
  · rw [ra] at HR1
    clear hno ra
    go_enter Tryz.func8, Tryz.ntmps8
    go_wp2_with (first
      | (go_at_call 38; with_reducible refine (HR1.out _ bW).mono ?_; clear HR1 x0 x1 x2 x3 x4; rintro e w2 ⟨rfl, b2⟩; have B2 := hide (trans_v bW b2); have D2 := hide b2; obtain ⟨d0, d1, d2, d3, d4⟩ := (HLA.out.later b2).cells; obtain ⟨f0, f1, f2, f3, f4⟩ := (HLB.out.later b2).cells; clear b2)
      | (go_at_call 31; refine (HT.out _ B2.out).mono ?_; clear HT; rintro e w4 ⟨rfl, b4⟩))
    go_ret
    exact ⟨rfl, trans_v B2.out b4⟩
  · rw [ra] at HR1
    cases rb : rightV b
    · rw [rb] at HR2
      clear hno ra rb
      go_enter Tryz.func8, Tryz.ntmps8
      go_wp2_with (first
        | (go_at_call 38; with_reducible refine (HR1.out _ bW).mono ?_; clear HR1 x0 x1 x2 x3 x4; rintro e w2 ⟨rfl, b2⟩; have B2 := hide (trans_v bW b2); have D2 := hide b2; obtain ⟨d0, d1, d2, d3, d4⟩ := (HLA.out.later b2).cells; obtain ⟨f0, f1, f2, f3, f4⟩ := (HLB.out.later b2).cells; clear b2)
        | (go_at_call 38; with_reducible refine (HR2.out _ B2.out).mono ?_; clear HR2 d0 d1 d2 d3 d4 f0 f1 f2 f3 f4; rintro e w3 ⟨rfl, b3⟩; have B3 := hide (trans_v B2.out b3); have D3 := hide (trans_v D2.out b3); obtain ⟨d0, d1, d2, d3, d4⟩ := (HLA.out.later D3.out).cells; obtain ⟨f0, f1, f2, f3, f4⟩ := (HLB.out.later D3.out).cells; clear b3)
        | (go_at_call 31; refine (HT.out _ B3.out).mono ?_; clear HT; rintro e w4 ⟨rfl, b4⟩))
      go_ret
      exact ⟨rfl, trans_v B3.out b4⟩
    · rw [rb] at HR2
      by_cases ka : a.kind = 7
      · have kb : ¬ b.kind = 7 := fun h => hno ⟨ra, rb, ka, h⟩
        have kab : (a.kind != 7) = false := by simp [ka]
        have kbb : (b.kind != 7) = true := by simp [kb]
        clear hno ra rb ka kb
        go_enter Tryz.func8, Tryz.ntmps8
        go_wp2_with (first
          | (go_at_call 38; with_reducible refine (HR1.out _ bW).mono ?_; clear HR1 x0 x1 x2 x3 x4; rintro e w2 ⟨rfl, b2⟩; have B2 := hide (trans_v bW b2); have D2 := hide b2; obtain ⟨d0, d1, d2, d3, d4⟩ := (HLA.out.later b2).cells; obtain ⟨f0, f1, f2, f3, f4⟩ := (HLB.out.later b2).cells; clear b2)
          | (go_at_call 38; with_reducible refine (HR2.out _ B2.out).mono ?_; clear HR2 d0 d1 d2 d3 d4 f0 f1 f2 f3 f4; rintro e w3 ⟨rfl, b3⟩; have B3 := hide (trans_v B2.out b3); have D3 := hide (trans_v D2.out b3); obtain ⟨d0, d1, d2, d3, d4⟩ := (HLA.out.later D3.out).cells; obtain ⟨f0, f1, f2, f3, f4⟩ := (HLB.out.later D3.out).cells; clear b3)
          | (go_at_call 31; refine (HT.out _ B3.out).mono ?_; clear HT; rintro e w4 ⟨rfl, b4⟩))
        go_ret
        exact ⟨rfl, trans_v B3.out b4⟩
      · have kab : (a.kind != 7) = true := by simp [ka]
        clear hno ra rb ka
        go_enter Tryz.func8, Tryz.ntmps8
        go_wp2_with (first
          | (go_at_call 38; with_reducible refine (HR1.out _ bW).mono ?_; clear HR1 x0 x1 x2 x3 x4; rintro e w2 ⟨rfl, b2⟩; have B2 := hide (trans_v bW b2); have D2 := hide b2; obtain ⟨d0, d1, d2, d3, d4⟩ := (HLA.out.later b2).cells; obtain ⟨f0, f1, f2, f3, f4⟩ := (HLB.out.later b2).cells; clear b2)
          | (go_at_call 38; with_reducible refine (HR2.out _ B2.out).mono ?_; clear HR2 d0 d1 d2 d3 d4 f0 f1 f2 f3 f4; rintro e w3 ⟨rfl, b3⟩; have B3 := hide (trans_v B2.out b3); have D3 := hide (trans_v D2.out b3); obtain ⟨d0, d1, d2, d3, d4⟩ := (HLA.out.later D3.out).cells; obtain ⟨f0, f1, f2, f3, f4⟩ := (HLB.out.later D3.out).cells; clear b3)
          | (go_at_call 31; refine (HT.out _ B3.out).mono ?_; clear HT; rintro e w4 ⟨rfl, b4⟩))
        go_ret
        exact ⟨rfl, trans_v B3.out b4⟩
set_option maxRecDepth 100000 in
set_option maxHeartbeats 8000000 in
theorem arithSets_yes (a b : Vl) (w : World) (n : Nat) (sa sb : Value) (hT : TabL w) (oa : a.ok) (ob : b.ok) (ha : ItemsAt w w.heap.size (n + 2) sa a.items) (hb : ItemsAt w w.heap.size (n + 2) sb b.items) (ra : rightV a = true) (rb : rightV b = true) (ka : a.kind = 7) (kb : b.kind = 7) :
    Calls Tryz.prog 8 #[.agg (vcells a sa), .agg (vcells b sb)] w fun e w' => e = .returned (.bool true) ∧ Below w.heap.size w w' := by
  obtain ⟨W, hW⟩ : ∃ W, (w.alloc (.cells (vcells a sa) 25)).alloc (.cells (vcells b sb) 25) = W := ⟨_, rfl⟩
  have bW : Below w.heap.size w W := by rw [← hW]; exact two_below _ _ _
  have LA : Lies W w.heap.size a sa := by rw [← hW]; exact two_first _ _ _
  have LB : Lies W (w.heap.size + 1) b sb := by rw [← hW]; exact two_second _ _ _
  have HLA := hide LA
  have HLB := hide LB
  obtain ⟨x0, x1, x2, x3, x4⟩ := LA.cells
  have HR1 := hide (fun (U : World) (u : Below w.heap.size w U) => refRight_k a U (n + 2) sa oa.1 ((ha.below u).up u.size))
  have HR2 := hide (fun (U : World) (u : Below w.heap.size w U) => refRight_k b U (n + 2) sb ob.1 ((hb.below u).up u.size))
  have HT := hide (fun (U : World) (u : Below w.heap.size w U) => heads5_k U (hT.below u))
  rw [ra] at HR1
  rw [rb] at HR2
  have za : a.size ≤ 1000000 := by have := right_size ra; omega
  have zb : b.size ≤ 1000000 := by have := right_size rb; omega
  obtain ⟨D, hD⟩ : ∃ D, D = a.items.filter (fun x => hasV b.items x == false) := ⟨_, rfl⟩
  obtain ⟨Cc, hC⟩ : ∃ D, D = a.items.filter (fun x => hasV b.items x == true) := ⟨_, rfl⟩
  obtain ⟨rD, sD⟩ := right_sub ra ka (l := D) (by rw [hD]; exact List.filter_sublist)
  obtain ⟨rC, sC⟩ := right_sub ra ka (l := Cc) (by rw [hC]; exact List.filter_sublist)
  obtain ⟨rN, sN⟩ := right_sub ra ka (l := []) (List.nil_sublist _)
  have sU : setV (D ++ Cc) = a.items := by rw [hD, hC]; exact parts_union ra ka _
  have hap : D.filter (fun x => hasV Cc x == true) = [] := by rw [hD, hC]; exact parts_apart _ _
  have ea := set_eq ra ka
  have zD : (⟨7, 0, 0, ⟨#[]⟩, D⟩ : Vl).size ≤ 1000000 := by have := right_size rD; omega
  have zC : (⟨7, 0, 0, ⟨#[]⟩, Cc⟩ : Vl).size ≤ 1000000 := by have := right_size rC; omega
  have okS : ∀ l : List Vl, (⟨7, 0, 0, ⟨#[]⟩, l⟩ : Vl).ok := fun l => ⟨Nat.zero_le _, ⟨show (-9223372036854775808 : Int) ≤ 0 by decide, show (0 : Int) ≤ 9223372036854775807 by decide⟩, ⟨show (-9223372036854775808 : Int) ≤ 0 by decide, show (0 : Int) ≤ 9223372036854775807 by decide⟩⟩
  have HB1 := hide (fun (U : World) (u : Below w.heap.size w U) => (show Calls Tryz.prog 26 #[.string ⟨#[92]⟩, .agg (vcells a sa), .agg (vcells b sb)] U fun e w' => ∃ s', e = .returned (.tuple #[.agg (vcells ⟨7, 0, 0, ⟨#[]⟩, D⟩ s'), .int .i64 0]) ∧ ItemsAt w' w'.heap.size (n + 2) s' D ∧ Below U.heap.size U w' from by
    have := binSets_minus a b D hD U n sa sb (hT.below u) oa ob ((ha.below u).up u.size) ((hb.below u).up u.size) ka kb za zb (by unfold setVl; rw [sD]; exact rD) ra rb
    unfold setVl at this
    rw [sD] at this
    exact this))
  have HB2 := hide (fun (U : World) (u : Below w.heap.size w U) => (show Calls Tryz.prog 26 #[.string ⟨#[38]⟩, .agg (vcells a sa), .agg (vcells b sb)] U fun e w' => ∃ s', e = .returned (.tuple #[.agg (vcells ⟨7, 0, 0, ⟨#[]⟩, Cc⟩ s'), .int .i64 0]) ∧ ItemsAt w' w'.heap.size (n + 2) s' Cc ∧ Below U.heap.size U w' from by
    have := binSets_and a b Cc hC U n sa sb (hT.below u) oa ob ((ha.below u).up u.size) ((hb.below u).up u.size) ka kb za zb (by unfold setVl; rw [sC]; exact rC) ra rb
    unfold setVl at this
    rw [sC] at this
    exact this))
  have HB3 := hide (fun (U : World) (u : Below w.heap.size w U) (s t : Value) (hs : ItemsAt U U.heap.size (n + 2) s D) (ht : ItemsAt U U.heap.size (n + 2) t Cc) => (show Calls Tryz.prog 26 #[.string ⟨#[124]⟩, .agg (vcells ⟨7, 0, 0, ⟨#[]⟩, D⟩ s), .agg (vcells ⟨7, 0, 0, ⟨#[]⟩, Cc⟩ t)] U fun e w' => ∃ s', e = .returned (.tuple #[.agg (vcells a s'), .int .i64 0]) ∧ ItemsAt w' w'.heap.size (n + 2) s' a.items ∧ Below U.heap.size U w' from by
    have := binSets_or ⟨7, 0, 0, ⟨#[]⟩, D⟩ ⟨7, 0, 0, ⟨#[]⟩, Cc⟩ (D ++ Cc) rfl U n s t (hT.below u) (okS _) (okS _) hs ht rfl rfl zD zC (by unfold setVl; rw [sU, ← ea]; exact ra) rD rC
    unfold setVl at this
    rw [sU, ← ea] at this
    exact this))
  have HB4 := hide (fun (U : World) (u : Below w.heap.size w U) (s t : Value) (hs : ItemsAt U U.heap.size (n + 2) s D) (ht : ItemsAt U U.heap.size (n + 2) t Cc) => (show Calls Tryz.prog 26 #[.string ⟨#[38]⟩, .agg (vcells ⟨7, 0, 0, ⟨#[]⟩, D⟩ s), .agg (vcells ⟨7, 0, 0, ⟨#[]⟩, Cc⟩ t)] U fun e w' => ∃ s', e = .returned (.tuple #[.agg (vcells ⟨7, 0, 0, ⟨#[]⟩, []⟩ s'), .int .i64 0]) ∧ ItemsAt w' w'.heap.size (n + 2) s' [] ∧ Below U.heap.size U w' from by
    have := binSets_and ⟨7, 0, 0, ⟨#[]⟩, D⟩ ⟨7, 0, 0, ⟨#[]⟩, Cc⟩ [] hap.symm U n s t (hT.below u) (okS _) (okS _) hs ht rfl rfl zD zC (by unfold setVl; rw [sN]; exact rN) rD rC
    unfold setVl at this
    rw [sN] at this
    exact this))
  have HCM := hide (fun (U : World) (u : Below w.heap.size w U) (s : Value) (hs : ItemsAt U U.heap.size (n + 2) s a.items) => (show Calls Tryz.prog 39 #[.agg (vcells a s), .agg (vcells a sa)] U fun e w' => e = .returned (.int .i64 0) ∧ Below U.heap.size U w' from by
    have := refCompare_k a a U (n + 2) (n + 2) s sa oa.1 oa.1 hs ((ha.below u).up u.size)
    rw [show cmpV a a = 0 by unfold cmpV; rw [if_pos ra, if_pos ra, ordV_self]] at this
    exact this))
  have HIN := hide (fun (x : Vl) (U : World) (u : Below w.heap.size w U) (s : Value) (rx : rightV x = true) (ox : x.ok) (hs : ItemsAt U U.heap.size (n + 2) s x.items) => binIn_k x b U (n + 1) s sb (hT.below u) ox ob hs ((hb.below u).up u.size) (.inr kb) rx rb)
  have HOUT := hide (fun (x : Vl) (U : World) (u : Below w.heap.size w U) (s t : Value) (rx : rightV x = true) (ox : x.ok) (hs : ItemsAt U U.heap.size (n + 2) s x.items) (ht : ItemsAt U U.heap.size (n + 2) t D) => binIn_k x ⟨7, 0, 0, ⟨#[]⟩, D⟩ U (n + 1) s t (hT.below u) ox (okS _) hs ht (.inr rfl) rx rD)
  have HIT := hide (fun (x : Vl) (hx : x ∈ a.items) => (show rightV x = true ∧ hasV D x = !(hasV b.items x) from ⟨right_item ra hx, by rw [hD, hasV_filter _ _ hx]; cases hasV b.items x <;> rfl⟩))
  have hla : a.items.length ≤ 1000000 := by have := size_len a; omega
  have kab : (a.kind != 7) = false := by simp [ka]
  have kbb : (b.kind != 7) = false := by simp [kb]
  have HA := hide ha
  obtain ⟨a1, c1, rfl, _⟩ := ha.len
  obtain ⟨a2, c2, rfl, _⟩ := hb.len
  clear ha hb hT oa ob LA LB ra rb ka kb za zb hD hC rD sD rC sC rN sN sU hap ea zD zC okS
  go_enter Tryz.func8, Tryz.ntmps8
  go_wp2_with (first
    | (go_at_call 38; with_reducible refine (HR1.out _ bW).mono ?_; clear HR1 x0 x1 x2 x3 x4; rintro e w2 ⟨rfl, b2⟩; have B2 := hide (trans_v bW b2); have D2 := hide b2; obtain ⟨d0, d1, d2, d3, d4⟩ := (HLA.out.later b2).cells; obtain ⟨f0, f1, f2, f3, f4⟩ := (HLB.out.later b2).cells; clear b2)
    | (go_at_call 38; with_reducible refine (HR2.out _ B2.out).mono ?_; clear HR2 d0 d1 d2 d3 d4 f0 f1 f2 f3 f4; rintro e w3 ⟨rfl, b3⟩; have B3 := hide (trans_v B2.out b3); have D3 := hide (trans_v D2.out b3); obtain ⟨d0, d1, d2, d3, d4⟩ := (HLA.out.later D3.out).cells; obtain ⟨f0, f1, f2, f3, f4⟩ := (HLB.out.later D3.out).cells; clear b3)
    | (go_at_call 26; with_reducible refine (HB1.out _ B3.out).mono ?_; clear HB1 d0 d1 d2 d3 d4 f0 f1 f2 f3 f4; rintro e w5 ⟨s5, rfl, i5, b5⟩; obtain ⟨a5, c5, rfl, _⟩ := i5.len; have bb := alloc_v (Below.refl w5.heap.size w5) (.cells (vcells ⟨7, 0, 0, ⟨#[]⟩, D⟩ (.slice a5 D.length c5)) 25); have L5 := hide (Lies.new w5 ⟨7, 0, 0, ⟨#[]⟩, D⟩ (.slice a5 D.length c5)); have I5 := hide ((i5.below bb).up bb.size); have D5 := hide (trans_v D3.out (trans_v b5 bb)); have E5 := hide (trans_v b5 bb); have B5 := hide (trans_v B3.out (trans_v b5 bb)); obtain ⟨d0, d1, d2, d3, d4⟩ := (HLA.out.later D5.out).cells; obtain ⟨f0, f1, f2, f3, f4⟩ := (HLB.out.later D5.out).cells; clear i5 b5 bb)
    | (go_at_call 26; with_reducible refine (HB2.out _ B5.out).mono ?_; clear HB2 d0 d1 d2 d3 d4 f0 f1 f2 f3 f4; rintro e w6 ⟨s6, rfl, i6, b6⟩; obtain ⟨a6, c6, rfl, _⟩ := i6.len; have bb := alloc_v (Below.refl w6.heap.size w6) (.cells (vcells ⟨7, 0, 0, ⟨#[]⟩, Cc⟩ (.slice a6 Cc.length c6)) 25); have L6 := hide (Lies.new w6 ⟨7, 0, 0, ⟨#[]⟩, Cc⟩ (.slice a6 Cc.length c6)); have I6 := hide ((i6.below bb).up bb.size); have D6 := hide (trans_v D5.out (trans_v b6 bb)); have E6 := hide (trans_v b6 bb); have B6 := hide (trans_v B5.out (trans_v b6 bb)); obtain ⟨d0, d1, d2, d3, d4⟩ := (L5.out.later E6.out).cells; have J5 := hide ((I5.out.below E6.out).up E6.out.size); clear i6 b6 bb)
    | (go_at_call 26; with_reducible refine (HB3.out _ B6.out _ _ J5.out I6.out).mono ?_; clear HB3 d0 d1 d2 d3 d4; rintro e w7 ⟨s7, rfl, i7, b7⟩; obtain ⟨a7, c7, rfl, _⟩ := i7.len; have bb := alloc_v (Below.refl w7.heap.size w7) (.cells (vcells a (.slice a7 a.items.length c7)) 25); have L7 := hide (Lies.new w7 a (.slice a7 a.items.length c7)); have I7 := hide ((i7.below bb).up bb.size); have D7 := hide (trans_v D6.out (trans_v b7 bb)); have E7 := hide (trans_v b7 bb); have B7 := hide (trans_v B6.out (trans_v b7 bb)); obtain ⟨d0, d1, d2, d3, d4⟩ := ((L5.out.later E6.out).later E7.out).cells; obtain ⟨f0, f1, f2, f3, f4⟩ := (L6.out.later E7.out).cells; have K5 := hide ((J5.out.below E7.out).up E7.out.size); have K6 := hide ((I6.out.below E7.out).up E7.out.size); clear i7 b7 bb)
    | (go_at_call 26; with_reducible refine (HB4.out _ B7.out _ _ K5.out K6.out).mono ?_; clear HB4 d0 d1 d2 d3 d4 f0 f1 f2 f3 f4; rintro e w8 ⟨s8, rfl, i8, b8⟩; obtain ⟨a8, c8, rfl, _⟩ := i8.len; have bb := alloc_v (Below.refl w8.heap.size w8) (.cells (vcells ⟨7, 0, 0, ⟨#[]⟩, []⟩ (.slice a8 0 c8)) 25); have L8 := hide (Lies.new w8 ⟨7, 0, 0, ⟨#[]⟩, []⟩ (.slice a8 0 c8)); have I8 := hide ((i8.below bb).up bb.size); have D8 := hide (trans_v D7.out (trans_v b8 bb)); have E8 := hide (trans_v b8 bb); have B8 := hide (trans_v B7.out (trans_v b8 bb)); obtain ⟨d0, d1, d2, d3, d4⟩ := (L7.out.later E8.out).cells; obtain ⟨f0, f1, f2, f3, f4⟩ := (HLA.out.later D8.out).cells; clear i8 b8 bb)
    | (go_at_call 39; refine (HCM.out _ B8.out _ ((I7.out.below E8.out).up E8.out.size)).mono ?_; clear HCM d0 d1 d2 d3 d4 f0 f1 f2 f3 f4; rintro e w9 ⟨rfl, b9⟩; have D9 := hide (trans_v D8.out b9); have B9 := hide (trans_v B8.out b9); have L9 := hide (((L5.out.later E6.out).later E7.out).later (trans_v E8.out b9)); have I9 := hide ((I5.out.below (trans_v E6.out (trans_v E7.out (trans_v E8.out b9)))).up (trans_v E6.out (trans_v E7.out (trans_v E8.out b9))).size); clear b9))
  have HLA9 := hide (HLA.out.later D9.out)
  have HLB9 := hide (HLB.out.later D9.out)
  clear HLA HLB D2 D3 D5 D6 D7 D8 D9 B2 B3 B5 B6 B7 B8 E5 E6 E7 E8 L5 L6 L7 L8 I5 I6 I7 I8 J5 K5 K6 hW
  go_loopw [13, 14, 15, 16, 17] (fun i _ _ _ _ wr => ∃ k : Nat, k ≤ a.items.length ∧ i = .int .i64 k ∧ Below w9.heap.size w9 wr) (fun i _ _ _ _ _ => a.items.length - (intOf i).toNat)
  case atStart => exact ⟨0, Nat.zero_le _, rfl, Below.refl _ _⟩
  case round =>
    obtain ⟨k, hk, rfl, hbel⟩ := hrel
    have BR := trans_v B9.out hbel
    have hsw := BR.size
    obtain ⟨d0, d1, d2, d3, d4⟩ := (HLA9.out.later hbel).cells
    have HBE := hide hbel
    by_cases hlt : k < a.items.length
    · obtain ⟨f0, f1, f2, f3, f4⟩ := (HLB9.out.later hbel).cells
      obtain ⟨v0, v1, v2, v3, v4⟩ := (L9.out.later hbel).cells
      have hlv := (L9.out.later hbel).lt
      have hld := (HLA9.out.later hbel).lt
      obtain ⟨b1, o1, s1, rfl, g1, p0, p1, p2, p3, p4, p5, p6⟩ := (HA.out.below BR).item k hlt
      have l1 : b1 < wr.heap.size := by omega
      obtain ⟨rx, hx⟩ := HIT.out _ (List.getElem_mem hlt)
      have HC1 := hide (fun (U : World) (u : Below wr.heap.size wr U) => HIN.out a.items[k] U (trans_v BR u) s1 rx p6 ((p5.below (u.mono hsw)).up (Nat.le_trans hsw u.size)).more)
      have HC2 := hide (fun (U : World) (u : Below wr.heap.size wr U) => HOUT.out a.items[k] U (trans_v BR u) s1 (.slice a5 D.length c5) rx p6 ((p5.below (u.mono hsw)).up (Nat.le_trans hsw u.size)).more ((I9.out.below (trans_v hbel u)).up (trans_v hbel u).size))
      simp only [hx] at HC2
      have hk0 : (0 : Int) ≤ (k : Int) := by omega
      have hk1 : (k : Int) < (a.items.length : Int) := by omega
      have hany := Wv.any wr
      obtain ⟨xx1, yy1, rfl, _⟩ := p5.len
      have e4 := fun q : Wv wr => q.cell d4
      have m0 := fun q : Wv wr => q.cell f0
      have m1 := fun q : Wv wr => q.cell f1
      have m2 := fun q : Wv wr => q.cell f2
      have m3 := fun q : Wv wr => q.cell f3
      have m4 := fun q : Wv wr => q.cell f4
      have n0 := fun q : Wv wr => q.cell p0
      have n1 := fun q : Wv wr => q.cell p1
      have n2 := fun q : Wv wr => q.cell p2
      have n3 := fun q : Wv wr => q.cell p3
      have n4 := fun q : Wv wr => q.cell p4
      clear p5 p6 rx hx g1 hbel BR f0 f1 f2 f3 f4
      generalize hasV b.items a.items[k] = hv at *
      generalize hxi : a.items[k].items = xi at *
      generalize hxk : a.items[k] = x at *
      clear hxi hxk
      have HP := hide (And.intro d4 (And.intro p0 (And.intro p1 (And.intro p2 (And.intro p3 (And.intro p4 (And.intro v0 (And.intro v1 (And.intro v2 (And.intro v3 v4))))))))))
      clear p0 p1 p2 p3 p4 v0 v1 v2 v3 v4
      clear e4 m0 m1 m2 m3 m4 n0 n1 n2 n3 n4 hany
      obtain ⟨z1, hz1⟩ : ∃ z : Int, (bif hv then (1 : Int) else 0) = z := ⟨_, rfl⟩
      obtain ⟨z2, hz2⟩ : ∃ z : Int, (bif !hv then (1 : Int) else 0) = z := ⟨_, rfl⟩
      have hzz : (z1 == z2) = false := by rw [← hz1, ← hz2]; cases hv <;> rfl
      rw [hz1] at HC1
      rw [hz2] at HC2
      clear hz1 hz2
      · obtain ⟨p4a, p0, p1, p2, p3, p4, v0, v1, v2, v3, v4⟩ := HP.out
        obtain ⟨f0, f1, f2, f3, f4⟩ := (HLB9.out.later HBE.out).cells
        have hlf := (HLB9.out.later HBE.out).lt
        have bd : Below wr.heap.size wr wr.drew := below_drawn wr
        clear v0 v1 v2 v3 v4 d0 d1 d2 d3 d4
        go_upto_region 12 with (fail)
        go_cut [14, 15] from 87 to 126 (fun p c wx => ∃ vb, p = .pointer (some ⟨vb, 0, none⟩) ∧ c = .int .i64 0 ∧ Lies wx vb ⟨1, z1, 0, ⟨#[]⟩, []⟩ (.slice none 0 0) ∧ Below wr.heap.size wr wx)
        case first =>
          go_region_law ((go_simp; go_at_call 26; refine (HC1.out _ (by first | exact bd | exact alloc_v bd _)).mono ?_; rintro e w2 ⟨rfl, b2⟩; (try (have fz := (b2.block wr.heap.size (by simp [World.drew])).trans (World.alloc_heap_new wr.drew (.cells zcells 25)); have FZ := hide fz; have y0 := cells_at fz 0 _ rfl; have q0 := frozen_at fz 0; have y1 := cells_at fz 1 _ rfl; have q1 := frozen_at fz 1; have y2 := cells_at fz 2 _ rfl; have q2 := frozen_at fz 2; have y3 := cells_at fz 3 _ rfl; have q3 := frozen_at fz 3; have y4 := cells_at fz 4 _ rfl; have q4 := frozen_at fz 4; clear fz))))
          all_goals (
            go_wp2_with (fail)
            go_meet
            case rel =>
              first
                | (have g := stored wr w2 1 z1 0 ⟨#[]⟩ (.slice none 0 0) zcells wr.heap.size (Nat.le_refl _) (trans_v (alloc_v bd _) b2) rfl FZ.out
                   exact ⟨_, rfl, rfl, g.1, g.2⟩)
                | exact ⟨_, rfl, rfl, Lies.new w2 ⟨1, z1, 0, ⟨#[]⟩, []⟩ (.slice none 0 0), alloc_v (trans_v bd b2) _⟩)
        case rest =>
          obtain ⟨vb, rfl, rfl, LN, bX⟩ := hcut
          have HLN := hide LN
          have HBX := hide bX
          clear p4a p0 p1 p2 p3 p4 f0 f1 f2 f3 f4 bd LN
          obtain ⟨p4b, p0b, p1b, p2b, p3b, p4c, v0, v1, v2, v3, v4⟩ := HP.out
          have p4a := ((bcellV bX).1 _ 4 hld).trans p4b
          have p0 := ((bcellV bX).1 _ _ l1).trans p0b
          have p1 := ((bcellV bX).1 _ _ l1).trans p1b
          have p2 := ((bcellV bX).1 _ _ l1).trans p2b
          have p3 := ((bcellV bX).1 _ _ l1).trans p3b
          have p4 := ((bcellV bX).1 _ _ l1).trans p4c
          have t0 := ((bcellV bX).1 _ 0 hlv).trans v0
          have t1 := ((bcellV bX).1 _ 1 hlv).trans v1
          have t2 := ((bcellV bX).1 _ 2 hlv).trans v2
          have t3 := ((bcellV bX).1 _ 3 hlv).trans v3
          have t4 := ((bcellV bX).1 _ 4 hlv).trans v4
          have bd : Below wc.heap.size wc wc.drew := below_drawn wc
          have hsz := bX.size
          have l2 : b1 < wc.heap.size := by omega
          have hld2 : w.heap.size < wc.heap.size := by omega
          have hlv2 : w5.heap.size < wc.heap.size := by omega
          clear p4b p0b p1b p2b p3b p4c v0 v1 v2 v3 v4 hsz
          go_upto_region 13 with (fail)
          go_cut [16, 17] from 87 to 126 (fun p c wx => ∃ v2, p = .pointer (some ⟨v2, 0, none⟩) ∧ c = .int .i64 0 ∧ Lies wx v2 ⟨1, z2, 0, ⟨#[]⟩, []⟩ (.slice none 0 0) ∧ Below wc.heap.size wc wx)
          case first =>
            go_region_law ((go_simp; go_at_call 26; refine (HC2.out _ (trans_v bX (by first | exact bd | exact alloc_v bd _))).mono ?_; rintro e w2 ⟨rfl, b2⟩; (try (have fz := (b2.block wc.heap.size (by simp [World.drew])).trans (World.alloc_heap_new wc.drew (.cells zcells 25)); have FZ := hide fz; have y0 := cells_at fz 0 _ rfl; have q0 := frozen_at fz 0; have y1 := cells_at fz 1 _ rfl; have q1 := frozen_at fz 1; have y2 := cells_at fz 2 _ rfl; have q2 := frozen_at fz 2; have y3 := cells_at fz 3 _ rfl; have q3 := frozen_at fz 3; have y4 := cells_at fz 4 _ rfl; have q4 := frozen_at fz 4; clear fz))))
            all_goals (
              go_wp2_with (fail)
              go_meet
              case rel =>
                first
                  | (have g := stored wc w2 1 z2 0 ⟨#[]⟩ (.slice none 0 0) zcells wc.heap.size (Nat.le_refl _) (trans_v (alloc_v bd _) b2) rfl FZ.out
                     exact ⟨_, rfl, rfl, g.1, g.2⟩)
                  | exact ⟨_, rfl, rfl, Lies.new w2 ⟨1, z2, 0, ⟨#[]⟩, []⟩ (.slice none 0 0), alloc_v (trans_v bd b2) _⟩)
          case rest =>
            obtain ⟨v2, rfl, rfl, LM, bY⟩ := hcut
            have hv2 := HLN.out.later bY
            have c1' := hv2.cells.2.1
            have c2' := LM.cells.2.1
            have BE := hide (trans_v HBE.out (trans_v HBX.out bY))
            clear p4a p0 p1 p2 p3 p4 t0 t1 t2 t3 t4 bd LM bY hv2 bX HC2
            go_wp2
            go_roundw
            case rel => exact ⟨k + 1, by omega, by go_num, BE.out⟩
            case measure => simp [intOf]; omega
    · have BF := hide BR
      clear BR hbel
      go_wp2_with (go_at_call 31; refine (HT.out _ BF.out).mono ?_; clear HT; rintro e w4 ⟨rfl, b4⟩)
      go_ret
      exact ⟨rfl, trans_v BF.out b4⟩
end Go.Proofs.YtgglommnipbagaaGreatDoor
