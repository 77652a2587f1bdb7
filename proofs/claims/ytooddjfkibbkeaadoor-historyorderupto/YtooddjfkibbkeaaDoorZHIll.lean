/- illFormed: the first event that is not right, or that its process may not have there. -/
import Derived.Test.YtooddjfkibbkeaaDoorZHAt
namespace Go.Proofs.YtooddjfkibbkeaaDoor
open Go.RowKit Go.Maps

set_option maxRecDepth 100000 in
set_option maxHeartbeats 4000000 in
theorem illFormed_k (l : List Evn) (w : World) (n : Nat) (sl : Value) (hT : TabL w) (hi : EvsAt w w.heap.size n sl l) :
    Calls Tryd.prog 39 #[sl] w fun e w' => (∃ (at' : Nat) (code : Int), e = .returned (.tuple #[.int .i64 (at' : Int), .int .i64 code]) ∧ IllR l at' code) ∧ Below w.heap.size w w' := by
  have hmm := @run_makeMap Tryd.prog
  have HI := hide hi
  have HT := hide hT
  obtain ⟨a, c, rfl, hlen⟩ := hi.len
  clear hi hT
  go_enter Tryd.func39, Tryd.ntmps39
  go_wp2
  go_loopw [12] (fun i wr => ∃ k : Nat, k ≤ l.length ∧ i = .int .i64 k ∧ SetM wr w.heap.size k (opensAt l k) ∧ Fine l k ∧ Below w.heap.size w wr ∧ w.heap.size + 1 ≤ wr.heap.size) (fun i _ => l.length - (intOf i).toNat)
  case atStart => exact ⟨0, Nat.zero_le _, rfl, SetM.new w, fun j _ h => by omega, alloc_v (Below.refl _ _) _, by simp⟩
  case round =>
    obtain ⟨k, hk, rfl, ⟨D, hown, hD⟩, hfine, hbel, hsz⟩ := hrel
    by_cases hlt : k < l.length
    · obtain ⟨b1, o1, s1, rfl, g1, p0, p1, p2, p3, p4, p5, p6, p7, p8, p9, p10, p11, pi, pk, pz⟩ := (HI.out.below hbel).item k hlt
      have l1 : b1 < wr.heap.size := by omega
      have hkey := keyStr pk.proc
      have hDk := hD l[k].proc
      have HR := hide (fun (U : World) (b : Below wr.heap.size wr U) => rightEv_k l[k] U n s1 pk (HT.out.below (trans_v hbel b)) ((pi.below (b.mono hbel.size)).up (by have := b.size; have := hbel.size; omega)))
      have HO := hide hown
      have HB := hide hbel
      have HS := hide (opensAt_succ l k hlt)
      have HF := hide (fine_more hfine hlt)
      have HX := hide (show faultE (opensAt l k) l[k] ≠ 0 → IllR l k (faultE (opensAt l k) l[k]) from fun h => .inr ⟨hlt, rfl, h, hfine⟩)
      have HD := hide hD
      obtain ⟨xx1, yy1, rfl, _⟩ := pi.len
      clear pi pz hown hbel g1 hfine hD
      generalize opensAt l k = O at *
      have pp := pk.proc
      clear pk
      generalize l[k] = e at *
      have HE := hide (fun (w2 : World) (b2 : Below ((wr.alloc (.cells (evCells e (.slice xx1 e.val.items.length yy1)) 46)).alloc (.cells #[] 94)).heap.size ((wr.alloc (.cells (evCells e (.slice xx1 e.val.items.length yy1)) 46)).alloc (.cells #[] 94)) w2) =>
        (show w2.heap[wr.heap.size]? = some (.cells (evCells e (.slice xx1 e.val.items.length yy1)) 46 (0, 0)) ∧ w2.ownsMap Tryd.prog 9 (unitElem (H := Unit)) w.heap.size k D ∧ Below wr.heap.size wr w2 from by
          have b3 := trans_v (alloc_v (alloc_v (Below.refl wr.heap.size wr) (.cells (evCells e (.slice xx1 e.val.items.length yy1)) 46)) (.cells #[] 94)) b2
          exact ⟨(b2.block _ (by simp; omega)).trans ((Below.heap_alloc _ _ _ (by simp)).trans (World.alloc_heap_new wr _)), HO.out.kept (grown_of_below (r := none) b3) (by simp), b3⟩))
      have hm := HO.out.isMap
      cases hr : rightE e
      · have HX2 := hide (show IllR l k 2 from by have hv : faultE O e = 2 := (by unfold faultE; rw [hr]; rfl); rw [← hv]; exact HX.out (by rw [hv]; decide))
        rw [hr] at HR
        obtain ⟨bb, hbb⟩ : ∃ bb, decide (e.proc ∈ O) = bb := ⟨_, rfl⟩
        have hdk := hDk
        rw [hbb] at hdk
        clear hr hbb hDk HF HX HS HD
        go_wp2_with (first
          | (at_lookup; refine wpList_lookup_own_unit _ rfl _ _ 93 rfl 9 94 hLawStr Tryd.underlying93 (hZeroUnit _) w.heap.size k _ rfl (HO.out.alloc _) _ _ rfl hkey ?_; rw [hdk])
          | (go_at_call 52; refine (HR.out _ (alloc_v (alloc_v (Below.refl _ _) _) _)).mono ?_; clear HR; rintro r w2 ⟨rfl, b2⟩; obtain ⟨f2, o2, b3⟩ := HE.out w2 b2; have d0 := cells_at f2 0 _ rfl; have d1 := cells_at f2 1 _ rfl; have l2 := (Array.getElem?_eq_some_iff.1 f2).1; have HO2 := hide o2; have B3 := hide b3; clear b2 f2 o2 b3))
        go_ret2
        exact ⟨⟨k, 2, rfl, HX2.out⟩, trans_v HB.out B3.out⟩
      rw [hr] at HR
      by_cases ho : e.proc ∈ O
      · have hdk : Maps.has D (.string e.proc) = true := by rw [hDk]; simp [ho]
        by_cases k1 : e.kind = 1
        · have HX2 := hide (show IllR l k 71 from by have hv : faultE O e = 71 := (by unfold faultE; rw [hr, if_neg (by decide), if_pos k1, if_pos ho]); rw [← hv]; exact HX.out (by rw [hv]; decide))
          have hk1 : (e.kind == 1) = true := by simp [k1]
          clear hr k1 ho hDk HF HX HS HD
          go_wp2_with (first
            | (at_lookup; refine wpList_lookup_own_unit _ rfl _ _ 93 rfl 9 94 hLawStr Tryd.underlying93 (hZeroUnit _) w.heap.size k _ rfl (HO.out.alloc _) _ _ rfl hkey ?_; rw [hdk])
            | (go_at_call 52; refine (HR.out _ (alloc_v (alloc_v (Below.refl _ _) _) _)).mono ?_; clear HR; rintro r w2 ⟨rfl, b2⟩; obtain ⟨f2, o2, b3⟩ := HE.out w2 b2; have d0 := cells_at f2 0 _ rfl; have d1 := cells_at f2 1 _ rfl; have l2 := (Array.getElem?_eq_some_iff.1 f2).1; have HO2 := hide o2; have B3 := hide b3; clear b2 f2 o2 b3))
          go_ret2
          exact ⟨⟨k, 71, rfl, HX2.out⟩, trans_v HB.out B3.out⟩
        · have hk1 : (e.kind == 1) = false := by simp [k1]
          have HF2 := hide (HF.out (by unfold faultE; rw [hr, if_neg (by decide), if_neg k1, if_pos ho]))
          have K1 := hide k1
          clear hr k1 ho hDk HX HF
          go_wp2_with (first
            | (at_lookup; refine wpList_lookup_own_unit _ rfl _ _ 93 rfl 9 94 hLawStr Tryd.underlying93 (hZeroUnit _) w.heap.size k _ rfl (HO.out.alloc _) _ _ rfl hkey ?_; rw [hdk])
            | (go_at_call 52; refine (HR.out _ (alloc_v (alloc_v (Below.refl _ _) _) _)).mono ?_; clear HR; rintro r w2 ⟨rfl, b2⟩; obtain ⟨f2, o2, b3⟩ := HE.out w2 b2; have d0 := cells_at f2 0 _ rfl; have d1 := cells_at f2 1 _ rfl; have l2 := (Array.getElem?_eq_some_iff.1 f2).1; have HO2 := hide o2; have B3 := hide b3; clear b2 f2 o2 b3)
            | (at_delete; refine wpList_delete_own _ rfl _ _ 93 9 rfl 94 hLawStr Tryd.underlying93 _ w.heap.size k D rfl HO2.out _ _ rfl hkey ?_; intro w3 hown3 hturn3; have HO3 := hide hown3; have HG3 := hide hturn3.grown; clear hown3 hturn3))
          go_roundw
          case rel =>
            have z3 := HG3.out.size
            have z2 := B3.out.size
            have zb := HB.out.size
            refine ⟨k + 1, by omega, by go_num, ⟨_, HO3.out.mono (by omega), fun s => ?_⟩, HF2.out, (trans_v HB.out B3.out).grown HG3.out (by omega) (fun j hj => by cases hj; exact Nat.le_refl _), by omega⟩
            rw [HS.out]
            unfold stepO
            rw [if_neg K1.out]
            exact set_del HD.out s
          case measure => simp [intOf]; omega
      · have hdk : Maps.has D (.string e.proc) = false := by rw [hDk]; simp [ho]
        by_cases k1 : e.kind = 1
        · have hk1 : (e.kind == 1) = true := by simp [k1]
          have HF2 := hide (HF.out (by unfold faultE; rw [hr, if_neg (by decide), if_pos k1, if_neg ho]))
          have K1 := hide k1
          clear hr k1 ho hDk HX HF
          go_wp2_with (first
            | (at_lookup; refine wpList_lookup_own_unit _ rfl _ _ 93 rfl 9 94 hLawStr Tryd.underlying93 (hZeroUnit _) w.heap.size k _ rfl (HO.out.alloc _) _ _ rfl hkey ?_; rw [hdk])
            | (go_at_call 52; refine (HR.out _ (alloc_v (alloc_v (Below.refl _ _) _) _)).mono ?_; clear HR; rintro r w2 ⟨rfl, b2⟩; obtain ⟨f2, o2, b3⟩ := HE.out w2 b2; have d0 := cells_at f2 0 _ rfl; have d1 := cells_at f2 1 _ rfl; have l2 := (Array.getElem?_eq_some_iff.1 f2).1; have HO2 := hide o2; have B3 := hide b3; clear b2 f2 o2 b3)
            | (at_mapUpdate; refine wpList_mapUpdate_own _ rfl _ _ _ 93 rfl 9 94 hLawStr Tryd.underlying93 (unitElem (H := Unit)) w.heap.size k _ rfl HO2.out (by unfold maxLen; omega) _ _ _ rfl rfl hkey _ [] unitElem_mk ?_; intro w3 hown3 hgrow3; have HO3 := hide hown3; have HG3 := hide hgrow3; clear hown3 hgrow3))
          go_roundw
          case rel =>
            have z3 := HG3.out.size
            have z2 := B3.out.size
            have zb := HB.out.size
            refine ⟨k + 1, by omega, by go_num, ⟨_, HO3.out, fun s => ?_⟩, HF2.out, (trans_v HB.out B3.out).grown HG3.out (by omega) (fun j hj => by cases hj; exact Nat.le_refl _), by omega⟩
            rw [HS.out]
            unfold stepO
            rw [if_pos K1.out]
            exact set_put hm HD.out s
          case measure => simp [intOf]; omega
        · have HX2 := hide (show IllR l k 70 from by have hv : faultE O e = 70 := (by unfold faultE; rw [hr, if_neg (by decide), if_neg k1, if_neg ho]); rw [← hv]; exact HX.out (by rw [hv]; decide))
          have hk1 : (e.kind == 1) = false := by simp [k1]
          clear hr k1 ho hDk HF HX HS HD
          go_wp2_with (first
            | (at_lookup; refine wpList_lookup_own_unit _ rfl _ _ 93 rfl 9 94 hLawStr Tryd.underlying93 (hZeroUnit _) w.heap.size k _ rfl (HO.out.alloc _) _ _ rfl hkey ?_; rw [hdk])
            | (go_at_call 52; refine (HR.out _ (alloc_v (alloc_v (Below.refl _ _) _) _)).mono ?_; clear HR; rintro r w2 ⟨rfl, b2⟩; obtain ⟨f2, o2, b3⟩ := HE.out w2 b2; have d0 := cells_at f2 0 _ rfl; have d1 := cells_at f2 1 _ rfl; have l2 := (Array.getElem?_eq_some_iff.1 f2).1; have HO2 := hide o2; have B3 := hide b3; clear b2 f2 o2 b3))
          go_ret2
          exact ⟨⟨k, 70, rfl, HX2.out⟩, trans_v HB.out B3.out⟩
    · have he : k = l.length := by omega
      subst he
      go_wp2
      go_ret2
      exact ⟨⟨0, 0, rfl, .inl ⟨rfl, rfl, hfine⟩⟩, hbel⟩
end Go.Proofs.YtooddjfkibbkeaaDoor
