/- The reference's Made: a tuple, list or set of items. -/
import Derived.Test.YtgglommnipbagaaGreatDoorGSetM
import Derived.Test.YtgglommnipbagaaGreatDoorZVRefCopy
import Derived.Test.YtgglommnipbagaaGreatDoorZVCompare
import Derived.Test.YtgglommnipbagaaGreatDoorZVMake
import Derived.Test.YtgglommnipbagaaGreatDoorZVSetAny
import Derived.Test.YtgglommnipbagaaGreatDoorZVCopied
import Derived.Test.YtgglommnipbagaaGreatDoorZVRefRight
namespace Go.Proofs.YtgglommnipbagaaGreatDoor
open Go.RowKit

theorem OwnAt.roomy {w : World} {L n : Nat} {v : Value} {its : List Vl} (h : OwnAt w L n v its) (hm : its.length ≤ maxLen) : Roomy L w w.heap.size n v its := by
  have hit : ItemsLo L w w.heap.size (n + 1) v its := h.items hm
  obtain ⟨ss, hss, how, _⟩ := h
  rcases how.2 with ⟨e, h0⟩ | ⟨g, cap, cur, e, _, _, h1, _⟩
  · exact ⟨none, 0, by rw [e, h0], by omega, hit⟩
  · exact ⟨_, cap, e, h1, hit⟩
def madeItems (kind : Int) (its : List Vl) : List Vl := if kind = 7 then setV its else its
abbrev madeV (kind : Int) (its : List Vl) : Vl := ⟨kind, 0, 0, ⟨#[]⟩, madeItems kind its⟩
set_option maxRecDepth 100000 in
set_option maxHeartbeats 4000000 in
theorem refMade_k (kind : Int) (its : List Vl) (w : World) (n : Nat) (sl : Value) (hi : ItemsAt w w.heap.size (n + 1) sl its) (hsz : ∀ x ∈ its, x.size ≤ 1000000000) (hl : its.length ≤ 1000000000) :
    Calls Tryz.prog 47 #[.int .i64 kind, sl] w fun e w' => (((∃ x ∈ its, rightV x = false) ∧ e = .returned (.tuple #[.agg zcells, .int .i64 40])) ∨ ((∀ x ∈ its, rightV x = true) ∧
      ∃ s', e = .returned (.tuple #[.agg (bif decide (cnt 16 (madeV kind its) 0 ≤ 4096) then vcells (madeV kind its) s' else zcells), .int .i64 (bif decide (cnt 16 (madeV kind its) 0 ≤ 4096) then 0 else 42)]) ∧
        (cnt 16 (madeV kind its) 0 ≤ 4096 → ItemsIn w' (fun b => w.heap.size ≤ b ∧ b < w'.heap.size) (n + 1) s' (madeItems kind its)))) ∧ Below w.heap.size w w' := by
  have HSZ := hide hsz
  clear hsz
  obtain ⟨W, hW⟩ : ∃ W, w.alloc (.cells zcells 25) = W := ⟨_, rfl⟩
  have bW : Below w.heap.size w W := by rw [← hW]; exact alloc_v (Below.refl _ _) _
  have e1 : W.heap[w.heap.size]? = some (.cells zcells 25 (0, 0)) := by rw [← hW]; exact World.alloc_heap_new w _
  have zW : w.heap.size < W.heap.size := (Array.getElem?_eq_some_iff.1 e1).1
  have HE1 := hide e1
  have HV := hide (hi.below bW)
  obtain ⟨a, c, rfl, hla⟩ := hi.len
  clear hi e1
  go_enter Tryz.func47, Tryz.ntmps47
  go_wp2
  clear hW
  go_loopw [6, 7] (fun o i wr => ∃ k : Nat, k ≤ its.length ∧ i = .int .i64 k ∧ OwnAt wr W.heap.size n o (its.take k) ∧ (∀ j (h : j < its.length), j < k → rightV its[j] = true) ∧ Below W.heap.size W wr) (fun _ i _ => its.length - (intOf i).toNat)
  case atStart => exact ⟨0, Nat.zero_le _, rfl, OwnAt.nil _ _ _, fun j _ h => by omega, Below.refl _ _⟩
  case round =>
    obtain ⟨k, hk, rfl, hO, hz, hbel⟩ := hrel
    by_cases hlt : k < its.length
    · obtain ⟨b1, o1, s1, rfl, g1, p0, p1, p2, p3, p4, p5, p6⟩ := (HV.out.below (hbel.mono (Nat.le_of_lt zW))).item k hlt
      have hbs := hbel.size
      have l1 : b1 < wr.heap.size := by omega
      have HC := hide (refRight_k its[k] wr n s1 p6.1 (p5.up (by omega)))
      have HK := hide (fun (U : World) (b : Below wr.heap.size wr U) => refCopied_k n its[k] U w.heap.size s1 (HSZ.out _ (List.getElem_mem hlt)) (by have := b.size; omega) (p5.below (b.mono (by omega))))
      have HP := hide (fun (U : World) (s : Value) (b : Below wr.heap.size wr U) (hx : ItemsIn U (fun b => wr.heap.size ≤ b ∧ b < U.heap.size) n s its[k].items) => OwnAt.push (ty := 22) hO hbel.size b hx p6 (by rw [List.length_take]; omega))
      have HTK := hide (List.take_succ_eq_append_getElem hlt)
      have HN := hide (fun (h : rightV its[k] = true) => (show ∀ j (h : j < its.length), j < k + 1 → rightV its[j] = true from fun j hj hjk => by
        by_cases e : j = k
        · subst e; exact h
        · exact hz j hj (by omega)))
      have HBAD := hide (fun (h : rightV its[k] = false) => (show ∃ x ∈ its, rightV x = false from ⟨_, List.getElem_mem hlt, h⟩))
      obtain ⟨xx1, yy1, rfl, _⟩ := p5.len
      have HB2 := hide hbel
      have f1 := (hbel.block _ zW).trans HE1.out
      have HF1 := hide f1
      clear hz p5 p6 hbel hO f1
      generalize its[k].items = xi at *
      cases hx : rightV its[k]
      · rw [hx] at HC
        have HX := hide (HBAD.out hx)
        clear hx HN HP HK HTK HBAD
        generalize its[k] = y at *
        go_wp2_with (go_at_call 38; refine HC.out.mono ?_; clear HC; rintro e w3 ⟨rfl, b3⟩; have f1 := (b3.block _ (by omega)).trans HF1.out; have G1 := hide f1; have r0 := cells_at f1 0 _ rfl; have r1 := cells_at f1 1 _ rfl; have r2 := cells_at f1 2 _ rfl; have r3 := cells_at f1 3 _ rfl; have r4 := cells_at f1 4 _ rfl; have q0 := frozen_at f1 0; have q1 := frozen_at f1 1; have q2 := frozen_at f1 2; have q3 := frozen_at f1 3; have q4 := frozen_at f1 4; have B3 := hide b3; clear f1 b3)
        have b4 := trans_v bW (trans_v HB2.out B3.out)
        have g := stored w w3 0 0 0 ⟨#[]⟩ (.slice none 0 0) zcells w.heap.size (Nat.le_refl _) b4 rfl G1.out
        refine bodyPost_ret (results_struct_tmp rfl _ _ w.heap.size _ _ _ _ rfl g.1 Tryz.underlying25 rfl infoVal5) rfl ?_
        exact ⟨.inl ⟨HX.out, rfl⟩, g.2⟩
      · rw [hx] at HC
        have HX := hide (HN.out hx)
        clear hx HN HBAD
        generalize its[k] = y at *
        go_wp2_with (first
          | (go_at_call 38; refine HC.out.mono ?_; clear HC; rintro e w2 ⟨rfl, b2⟩; have t0 := (b2.cell (p := ⟨b1, _, none⟩) l1).trans p0; have t1 := (b2.cell (p := ⟨b1, _, none⟩) l1).trans p1; have t2 := (b2.cell (p := ⟨b1, _, none⟩) l1).trans p2; have t3 := (b2.cell (p := ⟨b1, _, none⟩) l1).trans p3; have t4 := (b2.cell (p := ⟨b1, _, none⟩) l1).trans p4)
          | (go_at_call 65; refine (HK.out _ b2).mono ?_; clear HK; rintro e w3 ⟨s2, rfl, i2, b3⟩; have i3 := i2.kept (w' := w3) (S' := fun b => wr.heap.size ≤ b ∧ b < w3.heap.size) (fun _ _ _ => rfl) (fun b hb => ⟨by have := hb.1; have := b2.size; omega, hb.2⟩); obtain ⟨sa2, sc2, rfl, _⟩ := i2.len; obtain ⟨v4, w4, hrun, o4, b4⟩ := HP.out w3 _ (trans_v b2 b3) i3; have HR := hide hrun; have O4 := hide o4; have B4 := hide (HB2.out.trans (((trans_v b2 b3).mono HB2.out.size).trans b4)); clear hrun o4 b4 HP i2 i3 b2 b3)
          | (at_builtin; refine Lib.wpList_append_run _ rfl (.tmp 22) (.tmp 28) 22 22 rfl _ _ rfl rfl _ _ HR.out ?_))
        go_roundw
        case rel => exact ⟨k + 1, by omega, by go_num, by rw [HTK.out]; exact O4.out, HX.out, B4.out⟩
        case measure => simp [intOf]; omega
    · rw [List.take_of_length_le (by omega)] at hO
      have HALL : Hid (∀ x ∈ its, rightV x = true) := hide (fun x hx => by
        obtain ⟨j, hj, rfl⟩ := List.getElem_of_mem hx
        exact hz j hj (by omega))
      have hroom := hO.roomy (by unfold maxLen; omega)
      have HB2 := hide hbel
      clear hO hz hbel
      by_cases h7 : kind = 7
      · subst h7
        have hm : madeItems 7 its = setV its := if_pos rfl
        have HS := hide (sorted_k its.length its W.heap.size wr wr.heap.size n _ HB2.out.size (Nat.le_refl _) hl (Nat.le_refl _) hroom)
        obtain ⟨sa0, sc0, rfl, _, _⟩ := hroom
        go_wp2_with (go_at_call 98; refine HS.out.mono ?_; clear HS; rintro e w2 ⟨v2, rfl, r2, b2⟩; obtain ⟨sa, sc, rfl, _, hit⟩ := r2; have HIT := hide hit; have HB3 := hide (trans_v HB2.out b2); clear hit b2)
        have hmv : madeV 7 its = ⟨7, 0, 0, ⟨#[]⟩, (setV its)⟩ := by unfold madeV; rw [hm]
        have f1 := (HB3.out.block _ zW).trans HE1.out
        have hsz2 : w.heap.size < w2.heap.size := by have := HB3.out.size; omega
        have HC := hide (count_k 16 ⟨7, 0, 0, ⟨#[]⟩, (setV its)⟩ (w2.alloc (.cells (vcells ⟨7, 0, 0, ⟨#[]⟩, (setV its)⟩ (.slice sa (setV its).length sc)) 25)) w2.heap.size (n + 1) 0 (.slice sa (setV its).length sc) (Nat.le_refl _) (by omega) (by simp) (HIT.out.at.below (alloc_v (Below.refl _ _) _)))
        have F3 := hide (World.alloc_heap_new w2 (.cells (vcells ⟨7, 0, 0, ⟨#[]⟩, (setV its)⟩ (.slice sa (setV its).length sc)) 25))
        have F1 := hide ((Below.heap_alloc w2 (.cells (vcells ⟨7, 0, 0, ⟨#[]⟩, (setV its)⟩ (.slice sa (setV its).length sc)) 25) _ hsz2).trans f1)
        clear f1
        generalize hu0 : cnt 16 ⟨7, 0, 0, ⟨#[]⟩, (setV its)⟩ 0 = u at *
        by_cases hu : u ≤ 4096
        · have hu' : ¬ ((u : Int) > 4096) := by omega
          go_wp2_with (go_at_call 64; refine HC.out.mono ?_; clear HC; rintro e w3 ⟨rfl, b3⟩; have f3 := (b3.block _ (by rw [World.size_alloc]; omega)).trans F3.out; have f1 := (b3.block _ (by rw [World.size_alloc]; omega)).trans F1.out; have G1 := hide f1; have y0 := cells_at f3 0 _ rfl; have y1 := cells_at f3 1 _ rfl; have y2 := cells_at f3 2 _ rfl; have y3 := cells_at f3 3 _ rfl; have y4 := cells_at f3 4 _ rfl; have r0 := cells_at f1 0 _ rfl; have r1 := cells_at f1 1 _ rfl; have r2 := cells_at f1 2 _ rfl; have r3 := cells_at f1 3 _ rfl; have r4 := cells_at f1 4 _ rfl; have q0 := frozen_at f1 0; have q1 := frozen_at f1 1; have q2 := frozen_at f1 2; have q3 := frozen_at f1 3; have q4 := frozen_at f1 4; have B3 := hide b3; clear f3 f1 b3)
          have b4 := trans_v bW (trans_v HB3.out (trans_v (alloc_v (Below.refl _ _) _) B3.out))
          have g := stored w w3 7 0 0 ⟨#[]⟩ (.slice sa (setV its).length sc) zcells w.heap.size (Nat.le_refl _) b4 rfl G1.out
          refine bodyPost_ret (results_struct_tmp rfl _ _ w.heap.size _ _ _ _ rfl g.1 Tryz.underlying25 rfl infoVal5) rfl ?_
          refine ⟨.inr ⟨HALL.out, .slice sa (setV its).length sc, ?_, fun _ => ?_⟩, g.2⟩
          · rw [hmv, hu0, decide_eq_true hu]; rfl
          · rw [hm]
            exact ((HIT.out.below (alloc_v (Below.refl _ _) _)).below (B3.out.mono (by simp))).kept (fun b o hb => stored_cellR _ _ _ _ _ _ _ _ _ (by have := hb.1; omega)) (fun b hb => ⟨by have := hb.1; omega, by have := hb.2; have := B3.out.size; rw [World.size_alloc] at this; simp; omega⟩)
        · have hu' : ((u : Int) > 4096) := by omega
          go_wp2_with (go_at_call 64; refine HC.out.mono ?_; clear HC; rintro e w3 ⟨rfl, b3⟩; have f3 := (b3.block _ (by rw [World.size_alloc]; omega)).trans F3.out; have f1 := (b3.block _ (by rw [World.size_alloc]; omega)).trans F1.out; have G1 := hide f1; have y0 := cells_at f3 0 _ rfl; have y1 := cells_at f3 1 _ rfl; have y2 := cells_at f3 2 _ rfl; have y3 := cells_at f3 3 _ rfl; have y4 := cells_at f3 4 _ rfl; have r0 := cells_at f1 0 _ rfl; have r1 := cells_at f1 1 _ rfl; have r2 := cells_at f1 2 _ rfl; have r3 := cells_at f1 3 _ rfl; have r4 := cells_at f1 4 _ rfl; have q0 := frozen_at f1 0; have q1 := frozen_at f1 1; have q2 := frozen_at f1 2; have q3 := frozen_at f1 3; have q4 := frozen_at f1 4; have B3 := hide b3; clear f3 f1 b3)
          have b4 := trans_v bW (trans_v HB3.out (trans_v (alloc_v (Below.refl _ _) _) B3.out))
          have g := stored w w3 0 0 0 ⟨#[]⟩ (.slice none 0 0) zcells w.heap.size (Nat.le_refl _) b4 rfl G1.out
          refine bodyPost_ret (results_struct_tmp rfl _ _ w.heap.size _ _ _ _ rfl g.1 Tryz.underlying25 rfl infoVal5) rfl ?_
          refine ⟨.inr ⟨HALL.out, .slice sa (setV its).length sc, ?_, fun h => ?_⟩, g.2⟩
          · rw [hmv, hu0, decide_eq_false hu]; rfl
          · rw [hmv, hu0] at h; exact absurd h hu
      · have hm : madeItems kind its = its := if_neg h7
        have h7' : (kind == 7) = false := by simpa using h7
        obtain ⟨sa, sc, rfl, _, hit⟩ := hroom
        have HIT := hide hit
        clear hit
        have hmv : madeV kind its = ⟨kind, 0, 0, ⟨#[]⟩, its⟩ := by unfold madeV; rw [hm]
        have f1 := (HB2.out.block _ zW).trans HE1.out
        have hsz2 : w.heap.size < wr.heap.size := by have := HB2.out.size; omega
        have HC := hide (count_k 16 ⟨kind, 0, 0, ⟨#[]⟩, its⟩ (wr.alloc (.cells (vcells ⟨kind, 0, 0, ⟨#[]⟩, its⟩ (.slice sa its.length sc)) 25)) wr.heap.size (n + 1) 0 (.slice sa its.length sc) (Nat.le_refl _) (by omega) (by simp) (HIT.out.at.below (alloc_v (Below.refl _ _) _)))
        have F3 := hide (World.alloc_heap_new wr (.cells (vcells ⟨kind, 0, 0, ⟨#[]⟩, its⟩ (.slice sa its.length sc)) 25))
        have F1 := hide ((Below.heap_alloc wr (.cells (vcells ⟨kind, 0, 0, ⟨#[]⟩, its⟩ (.slice sa its.length sc)) 25) _ hsz2).trans f1)
        clear f1
        generalize hu0 : cnt 16 ⟨kind, 0, 0, ⟨#[]⟩, its⟩ 0 = u at *
        by_cases hu : u ≤ 4096
        · have hu' : ¬ ((u : Int) > 4096) := by omega
          go_wp2_with (go_at_call 64; refine HC.out.mono ?_; clear HC; rintro e w3 ⟨rfl, b3⟩; have f3 := (b3.block _ (by rw [World.size_alloc]; omega)).trans F3.out; have f1 := (b3.block _ (by rw [World.size_alloc]; omega)).trans F1.out; have G1 := hide f1; have y0 := cells_at f3 0 _ rfl; have y1 := cells_at f3 1 _ rfl; have y2 := cells_at f3 2 _ rfl; have y3 := cells_at f3 3 _ rfl; have y4 := cells_at f3 4 _ rfl; have r0 := cells_at f1 0 _ rfl; have r1 := cells_at f1 1 _ rfl; have r2 := cells_at f1 2 _ rfl; have r3 := cells_at f1 3 _ rfl; have r4 := cells_at f1 4 _ rfl; have q0 := frozen_at f1 0; have q1 := frozen_at f1 1; have q2 := frozen_at f1 2; have q3 := frozen_at f1 3; have q4 := frozen_at f1 4; have B3 := hide b3; clear f3 f1 b3)
          have b4 := trans_v bW (trans_v HB2.out (trans_v (alloc_v (Below.refl _ _) _) B3.out))
          have g := stored w w3 kind 0 0 ⟨#[]⟩ (.slice sa its.length sc) zcells w.heap.size (Nat.le_refl _) b4 rfl G1.out
          refine bodyPost_ret (results_struct_tmp rfl _ _ w.heap.size _ _ _ _ rfl g.1 Tryz.underlying25 rfl infoVal5) rfl ?_
          refine ⟨.inr ⟨HALL.out, .slice sa its.length sc, ?_, fun _ => ?_⟩, g.2⟩
          · rw [hmv, hu0, decide_eq_true hu]; rfl
          · rw [hm]
            exact ((HIT.out.below (alloc_v (Below.refl _ _) _)).below (B3.out.mono (by simp))).kept (fun b o hb => stored_cellR _ _ _ _ _ _ _ _ _ (by have := hb.1; omega)) (fun b hb => ⟨by have := hb.1; omega, by have := hb.2; have := B3.out.size; rw [World.size_alloc] at this; simp; omega⟩)
        · have hu' : ((u : Int) > 4096) := by omega
          go_wp2_with (go_at_call 64; refine HC.out.mono ?_; clear HC; rintro e w3 ⟨rfl, b3⟩; have f3 := (b3.block _ (by rw [World.size_alloc]; omega)).trans F3.out; have f1 := (b3.block _ (by rw [World.size_alloc]; omega)).trans F1.out; have G1 := hide f1; have y0 := cells_at f3 0 _ rfl; have y1 := cells_at f3 1 _ rfl; have y2 := cells_at f3 2 _ rfl; have y3 := cells_at f3 3 _ rfl; have y4 := cells_at f3 4 _ rfl; have r0 := cells_at f1 0 _ rfl; have r1 := cells_at f1 1 _ rfl; have r2 := cells_at f1 2 _ rfl; have r3 := cells_at f1 3 _ rfl; have r4 := cells_at f1 4 _ rfl; have q0 := frozen_at f1 0; have q1 := frozen_at f1 1; have q2 := frozen_at f1 2; have q3 := frozen_at f1 3; have q4 := frozen_at f1 4; have B3 := hide b3; clear f3 f1 b3)
          have b4 := trans_v bW (trans_v HB2.out (trans_v (alloc_v (Below.refl _ _) _) B3.out))
          have g := stored w w3 0 0 0 ⟨#[]⟩ (.slice none 0 0) zcells w.heap.size (Nat.le_refl _) b4 rfl G1.out
          refine bodyPost_ret (results_struct_tmp rfl _ _ w.heap.size _ _ _ _ rfl g.1 Tryz.underlying25 rfl infoVal5) rfl ?_
          refine ⟨.inr ⟨HALL.out, .slice sa its.length sc, ?_, fun h => ?_⟩, g.2⟩
          · rw [hmv, hu0, decide_eq_false hu]; rfl
          · rw [hmv, hu0] at h; exact absurd h hu
end Go.Proofs.YtgglommnipbagaaGreatDoor

/- What Made answers of right items: right just if it is within the limits. -/
namespace Go.Proofs.YtgglommnipbagaaGreatDoor

theorem madeItems_mem (kind : Int) (its : List Vl) (x : Vl) : x ∈ madeItems kind its ↔ x ∈ its := by
  unfold madeItems
  split
  · exact setV_mem its x
  · exact Iff.rfl
theorem rises_riseB {l : List Vl} (h : Rises l) : riseB l = true := (riseB_iff l).2 fun j hj => List.pairwise_iff_getElem.1 h j (j + 1) (by omega) hj (by omega)
theorem form_made {kind : Int} {its : List Vl} (hk : kind = 5 ∨ kind = 6 ∨ kind = 7) (h : ∀ x ∈ its, rightV x = true) : formV (madeV kind its) = true := by
  have hall : (madeItems kind its).all formV = true := List.all_eq_true.2 fun x hx => form_right (h x ((madeItems_mem kind its x).1 hx))
  rw [formV_eq]
  rcases hk with rfl | rfl | rfl
  · simp [hall, usedB, goodB]
  · simp [hall, usedB, goodB]
  · have hr : riseB (madeItems 7 its) = true := by
      rw [madeItems, if_pos rfl]
      exact rises_riseB (setV_rises its)
    simp [hall, hr, usedB, goodB]
/-- Of right items: right just if within the limits. -/
theorem right_made {kind : Int} {its : List Vl} (hk : kind = 5 ∨ kind = 6 ∨ kind = 7) (h : ∀ x ∈ its, rightV x = true) : decide (cnt 16 (madeV kind its) 0 ≤ 4096) = rightV (madeV kind its) := by
  rw [← right_doc, form_made hk h, Bool.and_true]
/-- The program's set of items: a sorted row of them without repetition. -/
theorem dd_set {s its : List Vl} (hp : s.Perm its) (hs : s.Pairwise (fun x y => ordV x y ≤ 0)) : dd likeV s = setV its := by rw [srt_only hp hs, setV]
end Go.Proofs.YtgglommnipbagaaGreatDoor

/- The program's Tuple, List and Set of items, in the reference's words. -/
namespace Go.Proofs.YtgglommnipbagaaGreatDoor
open Go.RowKit

theorem ddGo_sum : ∀ (l : List Vl) (p : Vl), ((ddGo likeV p l).map Vl.size).sum ≤ (l.map Vl.size).sum
  | [], p => by simp [ddGo]
  | a :: l, p => by
    rw [ddGo]
    split
    · have := ddGo_sum l a; simp only [List.map_cons, List.sum_cons]; omega
    · have := ddGo_sum l a; simp only [List.map_cons, List.sum_cons]; omega
theorem dd_sum (l : List Vl) : ((dd likeV l).map Vl.size).sum ≤ (l.map Vl.size).sum := by
  cases l with
  | nil => simp [dd]
  | cons a l => rw [dd]; have := ddGo_sum l a; simp only [List.map_cons, List.sum_cons]; omega
theorem set_size {k : Int} {s its : List Vl} (h : s.Perm its) : (⟨7, 0, 0, ⟨#[]⟩, dd likeV s⟩ : Vl).size ≤ (⟨k, 0, 0, ⟨#[]⟩, its⟩ : Vl).size := by
  rw [Vl.size_eq, Vl.size_eq]
  have h1 := dd_sum s
  have h2 := (h.map Vl.size).sum_nat
  simp only
  omega
set_option maxRecDepth 100000 in
theorem listM_bad (its : List Vl) (w : World) (n : Nat) (sl : Value) (hT : Tabs w) (hi : ItemsAt w w.heap.size (n + 2) sl its) (hb : ∃ x ∈ its, rightV x = false) :
    Calls Tryz.prog 45 #[sl] w fun e w' => e = .returned (.tuple #[.agg zcells, .int .i64 40]) ∧ Below w.heap.size w w' := by
  obtain ⟨W, hW⟩ : ∃ W, w.alloc (.cells zcells 25) = W := ⟨_, rfl⟩
  have bW : Below w.heap.size w W := by rw [← hW]; exact alloc_v (Below.refl _ _) _
  have e1 : W.heap[w.heap.size]? = some (.cells zcells 25 (0, 0)) := by rw [← hW]; exact World.alloc_heap_new w _
  have zW : w.heap.size < W.heap.size := (Array.getElem?_eq_some_iff.1 e1).1
  have HE1 := hide e1
  have HG := hide (gather_bad 6 its W n sl (hT.below bW) ((hi.below bW).up bW.size) hb)
  obtain ⟨a, c, rfl, _⟩ := hi.len
  clear hi hT e1 hb
  go_enter Tryz.func45, Tryz.ntmps45
  go_wp2_with (go_at_call 97; refine HG.out.mono ?_; clear HG; rintro e w2 ⟨rfl, b2⟩; have f2 := (b2.block _ zW).trans HE1.out; have G := hide f2; have y0 := cells_at f2 0 _ rfl; have y1 := cells_at f2 1 _ rfl; have y2 := cells_at f2 2 _ rfl; have y3 := cells_at f2 3 _ rfl; have y4 := cells_at f2 4 _ rfl; have q0 := frozen_at f2 0; have q1 := frozen_at f2 1; have q2 := frozen_at f2 2; have q3 := frozen_at f2 3; have q4 := frozen_at f2 4; have B2 := hide b2; clear f2 b2)
  have g := stored w w2 0 0 0 ⟨#[]⟩ (.slice none 0 0) zcells w.heap.size (Nat.le_refl _) (trans_v bW B2.out) rfl G.out
  refine bodyPost_ret (results_struct_tmp rfl _ _ w.heap.size _ _ _ _ rfl g.1 Tryz.underlying25 rfl infoVal5) rfl ?_
  exact ⟨rfl, g.2⟩
set_option maxRecDepth 100000 in
theorem setM_bad (its : List Vl) (w : World) (n : Nat) (sl : Value) (hT : Tabs w) (hi : ItemsAt w w.heap.size (n + 2) sl its) (hb : ∃ x ∈ its, rightV x = false) :
    Calls Tryz.prog 46 #[sl] w fun e w' => e = .returned (.tuple #[.agg zcells, .int .i64 40]) ∧ Below w.heap.size w w' := by
  obtain ⟨W, hW⟩ : ∃ W, w.alloc (.cells zcells 25) = W := ⟨_, rfl⟩
  have bW : Below w.heap.size w W := by rw [← hW]; exact alloc_v (Below.refl _ _) _
  have e1 : W.heap[w.heap.size]? = some (.cells zcells 25 (0, 0)) := by rw [← hW]; exact World.alloc_heap_new w _
  have zW : w.heap.size < W.heap.size := (Array.getElem?_eq_some_iff.1 e1).1
  have HE1 := hide e1
  have HG := hide (gather_bad 7 its W n sl (hT.below bW) ((hi.below bW).up bW.size) hb)
  obtain ⟨a, c, rfl, _⟩ := hi.len
  clear hi hT e1 hb
  go_enter Tryz.func46, Tryz.ntmps46
  go_wp2_with (go_at_call 97; refine HG.out.mono ?_; clear HG; rintro e w2 ⟨rfl, b2⟩; have f2 := (b2.block _ zW).trans HE1.out; have G := hide f2; have y0 := cells_at f2 0 _ rfl; have y1 := cells_at f2 1 _ rfl; have y2 := cells_at f2 2 _ rfl; have y3 := cells_at f2 3 _ rfl; have y4 := cells_at f2 4 _ rfl; have q0 := frozen_at f2 0; have q1 := frozen_at f2 1; have q2 := frozen_at f2 2; have q3 := frozen_at f2 3; have q4 := frozen_at f2 4; have B2 := hide b2; clear f2 b2)
  have g := stored w w2 0 0 0 ⟨#[]⟩ (.slice none 0 0) zcells w.heap.size (Nat.le_refl _) (trans_v bW B2.out) rfl G.out
  refine bodyPost_ret (results_struct_tmp rfl _ _ w.heap.size _ _ _ _ rfl g.1 Tryz.underlying25 rfl infoVal5) rfl ?_
  exact ⟨rfl, g.2⟩
set_option maxRecDepth 100000 in
theorem listM_k (its : List Vl) (w : World) (n : Nat) (sl : Value) (hT : Tabs w) (hi : ItemsAt w w.heap.size (n + 2) sl its) (ha : ∀ x ∈ its, rightV x = true) (hsz : (⟨6, 0, 0, ⟨#[]⟩, its⟩ : Vl).size ≤ 1000000000) :
    Calls Tryz.prog 45 #[sl] w fun e w' => ∃ s', e = .returned (.tuple #[.agg (bif rightV ⟨6, 0, 0, ⟨#[]⟩, its⟩ then vcells ⟨6, 0, 0, ⟨#[]⟩, its⟩ s' else zcells), .int .i64 (bif rightV ⟨6, 0, 0, ⟨#[]⟩, its⟩ then 0 else 42)]) ∧ (rightV ⟨6, 0, 0, ⟨#[]⟩, its⟩ = true → ItemsIn w' (fun b => w.heap.size < b ∧ b < w'.heap.size) (n + 2) s' its) ∧ Below w.heap.size w w' := by
  obtain ⟨W, hW⟩ : ∃ W, w.alloc (.cells zcells 25) = W := ⟨_, rfl⟩
  have bW : Below w.heap.size w W := by rw [← hW]; exact alloc_v (Below.refl _ _) _
  have e1 : W.heap[w.heap.size]? = some (.cells zcells 25 (0, 0)) := by rw [← hW]; exact World.alloc_heap_new w _
  have zW : w.heap.size < W.heap.size := (Array.getElem?_eq_some_iff.1 e1).1
  have HE1 := hide e1
  have HG := hide (gather_other 6 (by decide) its W n sl (hT.below bW) ((hi.below bW).up bW.size) ha hsz)
  obtain ⟨a, c, rfl, _⟩ := hi.len
  clear hi hT e1 ha hsz
  go_enter Tryz.func45, Tryz.ntmps45
  go_wp2_with (go_at_call 97; refine HG.out.mono ?_; clear HG; rintro e w2 ⟨s2, rfl, i2, b2⟩; have I2 := hide i2; clear i2; generalize hx : rightV ⟨6, 0, 0, ⟨#[]⟩, its⟩ = x at *; have HX := hide hx; clear hx; have f2 := (b2.block _ zW).trans HE1.out; have G := hide f2; have y0 := cells_at f2 0 _ rfl; have y1 := cells_at f2 1 _ rfl; have y2 := cells_at f2 2 _ rfl; have y3 := cells_at f2 3 _ rfl; have y4 := cells_at f2 4 _ rfl; have q0 := frozen_at f2 0; have q1 := frozen_at f2 1; have q2 := frozen_at f2 2; have q3 := frozen_at f2 3; have q4 := frozen_at f2 4; have B2 := hide b2; clear f2 b2; cases x; rotate_left; obtain ⟨a2, c2, rfl, _⟩ := (I2.out rfl).len)
  · have g := stored w w2 6 0 0 ⟨#[]⟩ (.slice a2 its.length c2) zcells w.heap.size (Nat.le_refl _) (trans_v bW B2.out) rfl G.out
    refine bodyPost_ret (results_struct_tmp rfl _ _ w.heap.size _ _ _ _ rfl g.1 Tryz.underlying25 rfl infoVal5) rfl ?_
    exact ⟨.slice a2 its.length c2, by rw [HX.out]; rfl, fun _ => (I2.out trivial).kept (fun b o hb => stored_cell _ _ _ _ _ _ _ _ _ (by have := hb.1; omega)) (fun b hb => ⟨by have := hb.1; omega, by simpa using hb.2⟩), g.2⟩
  · have g := stored w w2 0 0 0 ⟨#[]⟩ (.slice none 0 0) zcells w.heap.size (Nat.le_refl _) (trans_v bW B2.out) rfl G.out
    refine bodyPost_ret (results_struct_tmp rfl _ _ w.heap.size _ _ _ _ rfl g.1 Tryz.underlying25 rfl infoVal5) rfl ?_
    exact ⟨.slice none 0 0, by rw [HX.out]; rfl, fun h => (by rw [HX.out] at h; cases h), g.2⟩
theorem madeTuple (its : List Vl) (w : World) (n : Nat) (sl : Value) (hT : Tabs w) (hi : ItemsAt w w.heap.size (n + 2) sl its) (hl : its.length ≤ 1000000000) (hsz : (⟨5, 0, 0, ⟨#[]⟩, its⟩ : Vl).size ≤ 1000000000) :
    Calls Tryz.prog 44 #[sl] w fun e w' => (((∃ x ∈ its, rightV x = false) ∧ e = .returned (.tuple #[.agg zcells, .int .i64 40])) ∨ ((∀ x ∈ its, rightV x = true) ∧
      ∃ s', e = .returned (.tuple #[.agg (bif rightV (madeV 5 its) then vcells (madeV 5 its) s' else zcells), .int .i64 (bif rightV (madeV 5 its) then 0 else 42)]) ∧
        (rightV (madeV 5 its) = true → ItemsIn w' (fun b => w.heap.size < b ∧ b < w'.heap.size) (n + 2) s' (madeItems 5 its)))) ∧ Below w.heap.size w w' := by
  have _ := hl
  have hm : madeItems 5 its = its := rfl
  by_cases hb : ∃ x ∈ its, rightV x = false
  · exact (tuple_bad its w n sl hT hi hb).mono fun e w' h => ⟨.inl ⟨hb, h.1⟩, h.2⟩
  · have ha : ∀ x ∈ its, rightV x = true := fun x hx => by
      cases h : rightV x
      · exact absurd ⟨x, hx, h⟩ hb
      · rfl
    refine (tuple_k its w n sl hT hi ha hsz).mono fun e w' h => ?_
    obtain ⟨s', h1, h2, h3⟩ := h
    exact ⟨.inr ⟨ha, s', h1, h2⟩, h3⟩
theorem madeList (its : List Vl) (w : World) (n : Nat) (sl : Value) (hT : Tabs w) (hi : ItemsAt w w.heap.size (n + 2) sl its) (hl : its.length ≤ 1000000000) (hsz : (⟨6, 0, 0, ⟨#[]⟩, its⟩ : Vl).size ≤ 1000000000) :
    Calls Tryz.prog 45 #[sl] w fun e w' => (((∃ x ∈ its, rightV x = false) ∧ e = .returned (.tuple #[.agg zcells, .int .i64 40])) ∨ ((∀ x ∈ its, rightV x = true) ∧
      ∃ s', e = .returned (.tuple #[.agg (bif rightV (madeV 6 its) then vcells (madeV 6 its) s' else zcells), .int .i64 (bif rightV (madeV 6 its) then 0 else 42)]) ∧
        (rightV (madeV 6 its) = true → ItemsIn w' (fun b => w.heap.size < b ∧ b < w'.heap.size) (n + 2) s' (madeItems 6 its)))) ∧ Below w.heap.size w w' := by
  have _ := hl
  have hm : madeItems 6 its = its := rfl
  by_cases hb : ∃ x ∈ its, rightV x = false
  · exact (listM_bad its w n sl hT hi hb).mono fun e w' h => ⟨.inl ⟨hb, h.1⟩, h.2⟩
  · have ha : ∀ x ∈ its, rightV x = true := fun x hx => by
      cases h : rightV x
      · exact absurd ⟨x, hx, h⟩ hb
      · rfl
    refine (listM_k its w n sl hT hi ha hsz).mono fun e w' h => ?_
    obtain ⟨s', h1, h2, h3⟩ := h
    exact ⟨.inr ⟨ha, s', h1, h2⟩, h3⟩
theorem madeSet (its : List Vl) (w : World) (n : Nat) (sl : Value) (hT : Tabs w) (hi : ItemsAt w w.heap.size (n + 2) sl its) (hl : its.length ≤ 1000000000) (hsz : (⟨7, 0, 0, ⟨#[]⟩, its⟩ : Vl).size ≤ 1000000000) :
    Calls Tryz.prog 46 #[sl] w fun e w' => (((∃ x ∈ its, rightV x = false) ∧ e = .returned (.tuple #[.agg zcells, .int .i64 40])) ∨ ((∀ x ∈ its, rightV x = true) ∧
      ∃ s', e = .returned (.tuple #[.agg (bif rightV (madeV 7 its) then vcells (madeV 7 its) s' else zcells), .int .i64 (bif rightV (madeV 7 its) then 0 else 42)]) ∧
        (rightV (madeV 7 its) = true → ItemsIn w' (fun b => w.heap.size < b ∧ b < w'.heap.size) (n + 2) s' (madeItems 7 its)))) ∧ Below w.heap.size w w' := by
  have hm : madeItems 7 its = setV its := if_pos rfl
  by_cases hb : ∃ x ∈ its, rightV x = false
  · exact (setM_bad its w n sl hT hi hb).mono fun e w' h => ⟨.inl ⟨hb, h.1⟩, h.2⟩
  · have ha : ∀ x ∈ its, rightV x = true := fun x hx => by
      cases h : rightV x
      · exact absurd ⟨x, hx, h⟩ hb
      · rfl
    refine (setA_k its w n sl hT hi hl ha fun s hp => Nat.le_trans (set_size (k := 7) hp) hsz).mono fun e w' h => ?_
    obtain ⟨s, s', hp, hs, h1, h2, h3⟩ := h
    rw [dd_set hp hs] at h1 h2
    unfold madeV
    rw [hm]
    exact ⟨.inr ⟨ha, s', h1, h2⟩, h3⟩
end Go.Proofs.YtgglommnipbagaaGreatDoor

/- Tuple and List of items, with word that the row of items is the call's own. -/
namespace Go.Proofs.YtgglommnipbagaaGreatDoor
open Go.RowKit

/-- A row of values that lies in a block of the call's own. -/
def RowOwn (w : World) (L : Nat) (sl : Value) (n : Nat) : Prop := ∃ xs, w.ownsRow L 25 5 sl n xs
theorem RowOwn.nil (w : World) (L : Nat) : RowOwn w L (.slice none 0 0) 0 := ⟨[], rfl, .inl ⟨rfl, rfl⟩⟩
theorem RowOwn.same {w w' : World} {L L' : Nat} {sl : Value} {n : Nat} (h : RowOwn w L sl n) (hk : ∀ g, L ≤ g → w'.heap[g]? = w.heap[g]?) (hL : L' ≤ L) : RowOwn w' L' sl n := by
  obtain ⟨xs, h1, h2⟩ := h
  refine ⟨xs, h1, ?_⟩
  rcases h2 with h | ⟨g, cap, cur, hv, hb, hg, rest⟩
  · exact .inl h
  · exact .inr ⟨g, cap, cur, hv, by omega, (hk g hb).trans hg, rest⟩
theorem stored_heap (W : World) (b b' : Nat) (v0 v1 v2 v3 v4 : Value) (h : b' ≠ b) :
    (((((W.setCell ⟨b, 0, none⟩ v0).setCell ⟨b, 1, none⟩ v1).setCell ⟨b, 2, none⟩ v2).setCell ⟨b, 3, none⟩ v3).setCell ⟨b, 4, none⟩ v4).heap[b']? = W.heap[b']? := by
  rw [Below.heap_setCell _ _ _ _ h, Below.heap_setCell _ _ _ _ h, Below.heap_setCell _ _ _ _ h, Below.heap_setCell _ _ _ _ h, Below.heap_setCell _ _ _ _ h]
def CopyO (n : Nat) : Prop := ∀ (v : Vl) (w : World) (B : Nat) (sl : Value), v.size ≤ 1000000000 → B ≤ w.heap.size → ItemsAt w B n sl v.items →
  Calls Tryz.prog 58 #[.agg (vcells v sl)] w fun e w' => ∃ s', e = .returned (.agg (vcells v s')) ∧ (ItemsIn w' (fun b => w.heap.size ≤ b ∧ b < w'.heap.size) n s' v.items ∧ RowOwn w' w.heap.size s' v.items.length) ∧ Below w.heap.size w w'
set_option maxRecDepth 100000 in
set_option maxHeartbeats 1000000 in
theorem copiedO_step {n : Nat} (hC : CopyC n) : CopyO (n + 1) := by
  intro v w B sl hv hB hi
  have HI := hide hi
  obtain ⟨a, c, rfl, hla⟩ := hi.len
  unfold maxLen at hla
  have HC0 := hide hC
  have HSZ := hide (fun (x : Vl) (hx : x ∈ v.items) => (show x.size ≤ 1000000000 from by have := Vl.size_item hx; omega))
  have HLN := hide (size_len v)
  have hln : v.items.length ≤ 1000000000 := by have := size_len v; omega
  obtain ⟨W, hW⟩ : ∃ W, (w.alloc (.cells (vcells v (.slice a v.items.length c)) 25)).alloc (.cells #[.int .i64 0, .int .i64 0, .int .i64 0, .string ⟨#[]⟩, .slice none 0 0] 25) = W := ⟨_, rfl⟩
  have bW : Below w.heap.size w W := by rw [← hW]; exact alloc_v (alloc_v (Below.refl _ _) _) _
  have e1 : W.heap[w.heap.size]? = some (.cells (vcells v (.slice a v.items.length c)) 25 (0, 0)) := by rw [← hW]; exact (Below.heap_alloc _ _ _ (by simp)).trans (World.alloc_heap_new w _)
  have e2 : W.heap[w.heap.size + 1]? = some (.cells #[.int .i64 0, .int .i64 0, .int .i64 0, .string ⟨#[]⟩, .slice none 0 0] 25 (0, 0)) := by rw [← hW]; have := World.alloc_heap_new (w.alloc (.cells (vcells v (.slice a v.items.length c)) 25)) (.cells #[.int .i64 0, .int .i64 0, .int .i64 0, .string ⟨#[]⟩, .slice none 0 0] 25); rwa [World.size_alloc] at this
  have zW : w.heap.size + 1 < W.heap.size := (Array.getElem?_eq_some_iff.1 e2).1
  have x4 := cells_at e1 4 _ rfl
  have HE1 := hide e1
  have HE2 := hide e2
  have HV := hide (HI.out.below (bW.mono hB))
  have hBW : B ≤ W.heap.size := by have := bW.size; omega
  clear hi hC e1 e2
  go_enter Tryz.func58, Tryz.ntmps58
  go_wp2
  clear hW x4
  go_loopw [3, 9] (fun o i wr => ∃ k : Nat, k ≤ v.items.length ∧ i = .int .i64 k ∧ OwnAt wr W.heap.size n o (v.items.take k) ∧ Below W.heap.size W wr) (fun _ i _ => v.items.length - (intOf i).toNat)
  case atStart => exact ⟨0, Nat.zero_le _, rfl, OwnAt.nil _ _ _, Below.refl _ _⟩
  case round =>
    obtain ⟨k, hk, rfl, hO, hbel⟩ := hrel
    by_cases hlt : k < v.items.length
    · obtain ⟨b1, o1, s1, rfl, g1, p0, p1, p2, p3, p4, p5, p6⟩ := (HV.out.below (hbel.mono hBW)).item k hlt
      have l1 : b1 < wr.heap.size := by have := hbel.size; omega
      have HC := hide (fun (U : World) (b : Below wr.heap.size wr U) => HC0.out v.items[k] U B s1 (HSZ.out _ (List.getElem_mem hlt)) (by have := hbel.size; have := b.size; omega) (p5.below (b.mono (by have := hbel.size; omega))))
      have HP := hide (fun (U : World) (s : Value) (b : Below wr.heap.size wr U) (hx : ItemsIn U (fun b => wr.heap.size ≤ b ∧ b < U.heap.size) n s v.items[k].items) => OwnAt.push (ty := 22) hO hbel.size b hx p6 (by rw [List.length_take]; omega))
      have HT := hide (List.take_succ_eq_append_getElem hlt)
      obtain ⟨xx1, yy1, rfl, _⟩ := p5.len
      have HB2 := hide hbel
      clear p5 p6 hbel g1 hO
      generalize v.items[k].items = xi at *
      generalize v.items[k] = x at *
      go_wp2_with (first
        | (go_at_call 58; refine (HC.out _ (alloc_v (Below.refl _ _) _)).mono ?_; clear HC; rintro e w2 ⟨s2, rfl, i2, b2⟩; obtain ⟨sa2, sc2, rfl, _⟩ := i2.len; obtain ⟨v3, w3, hrun, o3, b3⟩ := HP.out w2 _ (trans_v (alloc_v (Below.refl _ _) _) b2) (i2.kept (fun _ _ _ => rfl) (fun b hb => ⟨(by have := hb.1; rw [World.size_alloc] at this; omega), hb.2⟩)); have HR := hide hrun; have O3 := hide o3; have B3 := hide (HB2.out.trans (((trans_v (alloc_v (Below.refl _ _) _) b2).mono HB2.out.size).trans b3)); clear hrun o3 b3 HP i2 b2)
        | (at_builtin; refine Lib.wpList_append_run _ rfl (.tmp 13) (.tmp 16) 22 22 rfl _ _ rfl rfl _ _ HR.out ?_))
      go_roundw
      case rel => exact ⟨k + 1, by omega, by go_num, by rw [HT.out]; exact O3.out, B3.out⟩
      case measure => simp [intOf]; omega
    · rw [List.take_of_length_le (by omega)] at hO
      have hit := hO.items (by unfold maxLen; omega)
      obtain ⟨sa, sc, rfl, _⟩ := hit.len
      have HIT := hide hit
      have HOW := hide (show RowOwn wr W.heap.size (.slice sa v.items.length sc) v.items.length from ⟨_, hO.choose_spec.choose_spec.1⟩)
      have f1 := (hbel.block _ (by omega)).trans HE1.out
      have f2 := (hbel.block _ zW).trans HE2.out
      have x0 := cells_at f1 0 _ rfl
      have x1 := cells_at f1 1 _ rfl
      have x2 := cells_at f1 2 _ rfl
      have x3 := cells_at f1 3 _ rfl
      have x4 := cells_at f1 4 _ rfl
      have z4 := frozen_at f1 4
      have y0 := cells_at f2 0 _ rfl
      have y1 := cells_at f2 1 _ rfl
      have y2 := cells_at f2 2 _ rfl
      have y3 := cells_at f2 3 _ rfl
      have y4 := cells_at f2 4 _ rfl
      have q0 := frozen_at f2 0
      have q1 := frozen_at f2 1
      have q2 := frozen_at f2 2
      have q3 := frozen_at f2 3
      have q4 := frozen_at f2 4
      have F1 := hide f1
      have F2 := hide f2
      have HB2 := hide hbel
      clear hO hit f1 f2 hbel
      go_wp2
      have ne1 : w.heap.size + 1 ≠ w.heap.size := by omega
      have g1 := (Below.heap_setCell wr ⟨w.heap.size, 4, none⟩ (.slice sa v.items.length sc) (w.heap.size + 1) ne1).trans F2.out
      have g2 := heap_setCell_same _ _ 0 _ _ (.int .i64 v.kind) g1
      have g3 := heap_setCell_same _ _ 1 _ _ (.int .i64 v.int) g2
      have g4 := heap_setCell_same _ _ 2 _ _ (.int .i64 v.im) g3
      have g5 := heap_setCell_same _ _ 3 _ _ (.string v.text) g4
      have g6 := heap_setCell_same _ _ 4 _ _ (.slice sa v.items.length sc) g5
      have hbw := HB2.out
      have hsz := bW.size
      refine bodyPost_ret (results_cell_row rfl _ _ (w.heap.size + 1) _ _ _ _ rfl g6 Tryz.underlying25 rfl infoVal5) rfl ?_
      refine ⟨.slice sa v.items.length sc, rfl, ⟨HIT.out.kept (fun b o hb => ?_) (fun b hb => ⟨by omega, by simpa using hb.2⟩), HOW.out.same (fun g hg => ?_) hsz⟩, ?_⟩
      · have hn1 : b ≠ w.heap.size := by have := hb.1; omega
        have hn2 : b ≠ w.heap.size + 1 := by have := hb.1; omega
        refine World.cell?_of_block ?_
        rw [Below.heap_setCell _ _ _ _ hn2, Below.heap_setCell _ _ _ _ hn2, Below.heap_setCell _ _ _ _ hn2, Below.heap_setCell _ _ _ _ hn2, Below.heap_setCell _ _ _ _ hn2, Below.heap_setCell _ _ _ _ hn1]
      · have hn1 : g ≠ w.heap.size := by omega
        have hn2 : g ≠ w.heap.size + 1 := by omega
        rw [Below.heap_setCell _ _ _ _ hn2, Below.heap_setCell _ _ _ _ hn2, Below.heap_setCell _ _ _ _ hn2, Below.heap_setCell _ _ _ _ hn2, Below.heap_setCell _ _ _ _ hn2, Below.heap_setCell _ _ _ _ hn1]
      · exact ((((((bW.trans (hbw.mono hsz)).setCell (Nat.le_refl _) _).setCell (by show w.heap.size ≤ w.heap.size + 1; omega) _).setCell (by show w.heap.size ≤ w.heap.size + 1; omega) _).setCell (by show w.heap.size ≤ w.heap.size + 1; omega) _).setCell (by show w.heap.size ≤ w.heap.size + 1; omega) _).setCell (by show w.heap.size ≤ w.heap.size + 1; omega) _
theorem copiedO_k : ∀ n, CopyO n
  | 0 => fun _ _ _ _ _ _ h => h.elim
  | n + 1 => copiedO_step (copied_k n)
set_option maxRecDepth 100000 in
set_option maxHeartbeats 1000000 in
theorem gatherO_other (kind : Int) (h7 : kind ≠ 7) (its : List Vl) (w : World) (n : Nat) (sl : Value) (hT : Tabs w) (hi : ItemsAt w w.heap.size (n + 2) sl its) (ha : ∀ x ∈ its, rightV x = true) (hsz : (⟨kind, 0, 0, ⟨#[]⟩, its⟩ : Vl).size ≤ 1000000000) :
    Calls Tryz.prog 97 #[.int .i64 kind, sl] w fun e w' => ∃ s', e = .returned (.tuple #[.agg (bif rightV ⟨kind, 0, 0, ⟨#[]⟩, its⟩ then vcells ⟨kind, 0, 0, ⟨#[]⟩, its⟩ s' else zcells), .int .i64 (bif rightV ⟨kind, 0, 0, ⟨#[]⟩, its⟩ then 0 else 42)]) ∧ (rightV ⟨kind, 0, 0, ⟨#[]⟩, its⟩ = true → (ItemsIn w' (fun b => w.heap.size < b ∧ b < w'.heap.size) (n + 2) s' its ∧ RowOwn w' w.heap.size s' its.length)) ∧ Below w.heap.size w w' := by
  have HA := hide ha
  have HSZ := hide hsz
  have h7' : (kind == 7) = false := by simpa using h7
  clear ha hsz
  obtain ⟨W, hW⟩ : ∃ W, w.alloc (.cells zcells 25) = W := ⟨_, rfl⟩
  have bW : Below w.heap.size w W := by rw [← hW]; exact alloc_v (Below.refl _ _) _
  have e1 : W.heap[w.heap.size]? = some (.cells zcells 25 (0, 0)) := by rw [← hW]; exact World.alloc_heap_new w _
  have zW : w.heap.size < W.heap.size := (Array.getElem?_eq_some_iff.1 e1).1
  have HE1 := hide e1
  have HV := hide (hi.below bW)
  have HT := hide (hT.below bW)
  obtain ⟨a, c, rfl, hla⟩ := hi.len
  unfold maxLen at hla
  clear hi hT e1
  go_enter Tryz.func97, Tryz.ntmps97
  go_wp2
  clear hW
  go_loopw [11] (fun i wr => ∃ k : Nat, k ≤ its.length ∧ i = .int .i64 k ∧ (∀ j (h : j < its.length), j < k → rightV its[j] = true) ∧ Below W.heap.size W wr) (fun i _ => its.length - (intOf i).toNat)
  case atStart => exact ⟨0, Nat.zero_le _, rfl, fun j _ h => by omega, Below.refl _ _⟩
  case round =>
    obtain ⟨k, hk, rfl, hz, hbel⟩ := hrel
    by_cases hlt : k < its.length
    · obtain ⟨b1, o1, s1, rfl, g1, p0, p1, p2, p3, p4, p5, p6⟩ := (HV.out.below (hbel.mono (Nat.le_of_lt zW))).item k hlt
      have l1 : b1 < wr.heap.size := by have := hbel.size; omega
      have HC := hide (fun (U : World) (b : Below wr.heap.size wr U) => right_k its[k] U (n + 1) s1 (HT.out.below (trans_v hbel b)) p6.1 ((p5.below (b.mono (by have := hbel.size; omega))).up (by have := hbel.size; have := b.size; omega)))
      have HN := hide (fun (h : rightV its[k] = true) => (show ∀ j (h : j < its.length), j < k + 1 → rightV its[j] = true from fun j hj hjk => by
        by_cases e : j = k
        · subst e; exact h
        · exact hz j hj (by omega)))
      obtain ⟨xx1, yy1, rfl, _⟩ := p5.len
      have HB2 := hide hbel
      clear hz p5 p6 hbel g1
      have hx := HA.out its[k] (List.getElem_mem hlt)
      rw [hx] at HC
      have HX := hide hx
      clear hx
      generalize its[k].items = xi at *
      generalize its[k] = y at *
      · go_wp2_with (go_at_call 56; refine (HC.out _ (alloc_v (Below.refl _ _) _)).mono ?_; clear HC; rintro e w2 ⟨rfl, b2⟩; have B2 := hide b2; clear b2)
        go_roundw
        case rel => exact ⟨k + 1, by omega, by go_num, HN.out HX.out, trans_v HB2.out (trans_v (alloc_v (Below.refl _ _) _) B2.out)⟩
        case measure => simp [intOf]; omega
    · have HI2 := hide ((HV.out.below (hbel.mono (Nat.le_of_lt zW))).up (Nat.le_trans (Nat.le_of_lt zW) hbel.size))
      have HB2 := hide hbel
      clear hz hbel
      have f1 := (HB2.out.block _ zW).trans HE1.out
      have hsz2 : w.heap.size < wr.heap.size := by have := HB2.out.size; omega
      have HR := hide (right_k ⟨kind, 0, 0, ⟨#[]⟩, its⟩ (wr.alloc (.cells (vcells ⟨kind, 0, 0, ⟨#[]⟩, its⟩ (.slice a its.length c)) 25)) (n + 2) (.slice a its.length c) (HT.out.below (trans_v HB2.out (alloc_v (Below.refl _ _) _))) (Nat.zero_le _) ((HI2.out.below (alloc_v (Below.refl _ _) _)).up (by simp)))
      have HC := hide (fun (U : World) (b : Below wr.heap.size wr U) => copiedO_k (n + 2) ⟨kind, 0, 0, ⟨#[]⟩, its⟩ U wr.heap.size (.slice a its.length c) HSZ.out b.size (HI2.out.below b))
      have F3 := hide (World.alloc_heap_new wr (.cells (vcells ⟨kind, 0, 0, ⟨#[]⟩, its⟩ (.slice a its.length c)) 25))
      have F1 := hide ((Below.heap_alloc wr (.cells (vcells ⟨kind, 0, 0, ⟨#[]⟩, its⟩ (.slice a its.length c)) 25) _ hsz2).trans f1)
      clear f1
      cases hx : rightV ⟨kind, 0, 0, ⟨#[]⟩, its⟩
      · rw [hx] at HR
        go_wp2_with (go_at_call 56; refine HR.out.mono ?_; clear HR; rintro e w3 ⟨rfl, b3⟩; have f3 := (b3.block _ (by rw [World.size_alloc]; omega)).trans F3.out; have f1 := (b3.block _ (by rw [World.size_alloc]; omega)).trans F1.out; have G1 := hide f1; have y0 := cells_at f3 0 _ rfl; have y1 := cells_at f3 1 _ rfl; have y2 := cells_at f3 2 _ rfl; have y3 := cells_at f3 3 _ rfl; have y4 := cells_at f3 4 _ rfl; have r0 := cells_at f1 0 _ rfl; have r1 := cells_at f1 1 _ rfl; have r2 := cells_at f1 2 _ rfl; have r3 := cells_at f1 3 _ rfl; have r4 := cells_at f1 4 _ rfl; have q0 := frozen_at f1 0; have q1 := frozen_at f1 1; have q2 := frozen_at f1 2; have q3 := frozen_at f1 3; have q4 := frozen_at f1 4; have B3 := hide b3; clear f3 f1 b3)
        have b4 := trans_v bW (trans_v HB2.out (trans_v (alloc_v (Below.refl _ _) _) B3.out))
        have g := stored w w3 0 0 0 ⟨#[]⟩ (.slice none 0 0) zcells w.heap.size (Nat.le_refl _) b4 rfl G1.out
        refine bodyPost_ret (results_struct_tmp rfl _ _ w.heap.size _ _ _ _ rfl g.1 Tryz.underlying25 rfl infoVal5) rfl ?_
        exact ⟨.slice none 0 0, by rw [hx]; rfl, fun h => (by rw [hx] at h; cases h), g.2⟩
      · rw [hx] at HR
        go_wp2_with (first
          | (go_at_call 56; refine HR.out.mono ?_; clear HR; rintro e w3 ⟨rfl, b3⟩; have f3 := (b3.block _ (by rw [World.size_alloc]; omega)).trans F3.out; have f1 := (b3.block _ (by rw [World.size_alloc]; omega)).trans F1.out; have G1 := hide f1; have y0 := cells_at f3 0 _ rfl; have y1 := cells_at f3 1 _ rfl; have y2 := cells_at f3 2 _ rfl; have y3 := cells_at f3 3 _ rfl; have y4 := cells_at f3 4 _ rfl; have r0 := cells_at f1 0 _ rfl; have r1 := cells_at f1 1 _ rfl; have r2 := cells_at f1 2 _ rfl; have r3 := cells_at f1 3 _ rfl; have r4 := cells_at f1 4 _ rfl; have q0 := frozen_at f1 0; have q1 := frozen_at f1 1; have q2 := frozen_at f1 2; have q3 := frozen_at f1 3; have q4 := frozen_at f1 4; have B3 := hide b3; clear f3 f1 b3)
          | (go_at_call 58; refine (HC.out _ (trans_v (alloc_v (Below.refl _ _) _) B3.out)).mono ?_; clear HC; rintro e w4 ⟨s4, rfl, i4, b4⟩; obtain ⟨a4, c4, rfl, _⟩ := i4.1.len; have f4 := (b4.block _ (by have := B3.out.size; rw [World.size_alloc] at this; omega)).trans G1.out; have G4 := hide f4; have s0 := cells_at f4 0 _ rfl; have s1 := cells_at f4 1 _ rfl; have s2 := cells_at f4 2 _ rfl; have s3 := cells_at f4 3 _ rfl; have s4 := cells_at f4 4 _ rfl; have t0 := frozen_at f4 0; have t1 := frozen_at f4 1; have t2 := frozen_at f4 2; have t3 := frozen_at f4 3; have t4 := frozen_at f4 4; have B4 := hide b4; have I4 := hide i4; clear f4 b4 i4))
        have b5 := trans_v bW (trans_v HB2.out (trans_v (alloc_v (Below.refl _ _) _) (trans_v B3.out B4.out)))
        have g := stored w w4 kind 0 0 ⟨#[]⟩ (.slice a4 its.length c4) zcells w.heap.size (Nat.le_refl _) b5 rfl G4.out
        refine bodyPost_ret (results_struct_tmp rfl _ _ w.heap.size _ _ _ _ rfl g.1 Tryz.underlying25 rfl infoVal5) rfl ?_
        exact ⟨.slice a4 its.length c4, by rw [hx]; rfl, fun _ => ⟨I4.out.1.kept (fun b o hb => stored_cell _ _ _ _ _ _ _ _ _ (by have := hb.1; have := B3.out.size; rw [World.size_alloc] at this; omega)) (fun b hb => ⟨by have := hb.1; have := B3.out.size; rw [World.size_alloc] at this; omega, by simpa using hb.2⟩), I4.out.2.same (fun j hj => stored_heap _ _ _ _ _ _ _ _ (by have := B3.out.size; rw [World.size_alloc] at this; omega)) (by have := B3.out.size; rw [World.size_alloc] at this; omega)⟩, g.2⟩
set_option maxRecDepth 100000 in
theorem tupleO_k (its : List Vl) (w : World) (n : Nat) (sl : Value) (hT : Tabs w) (hi : ItemsAt w w.heap.size (n + 2) sl its) (ha : ∀ x ∈ its, rightV x = true) (hsz : (⟨5, 0, 0, ⟨#[]⟩, its⟩ : Vl).size ≤ 1000000000) :
    Calls Tryz.prog 44 #[sl] w fun e w' => ∃ s', e = .returned (.tuple #[.agg (bif rightV ⟨5, 0, 0, ⟨#[]⟩, its⟩ then vcells ⟨5, 0, 0, ⟨#[]⟩, its⟩ s' else zcells), .int .i64 (bif rightV ⟨5, 0, 0, ⟨#[]⟩, its⟩ then 0 else 42)]) ∧ (rightV ⟨5, 0, 0, ⟨#[]⟩, its⟩ = true → (ItemsIn w' (fun b => w.heap.size < b ∧ b < w'.heap.size) (n + 2) s' its ∧ RowOwn w' w.heap.size s' its.length)) ∧ Below w.heap.size w w' := by
  obtain ⟨W, hW⟩ : ∃ W, w.alloc (.cells zcells 25) = W := ⟨_, rfl⟩
  have bW : Below w.heap.size w W := by rw [← hW]; exact alloc_v (Below.refl _ _) _
  have e1 : W.heap[w.heap.size]? = some (.cells zcells 25 (0, 0)) := by rw [← hW]; exact World.alloc_heap_new w _
  have zW : w.heap.size < W.heap.size := (Array.getElem?_eq_some_iff.1 e1).1
  have HE1 := hide e1
  have HG := hide (gatherO_other 5 (by decide) its W n sl (hT.below bW) ((hi.below bW).up bW.size) ha hsz)
  obtain ⟨a, c, rfl, _⟩ := hi.len
  clear hi hT e1 ha hsz
  go_enter Tryz.func44, Tryz.ntmps44
  go_wp2_with (go_at_call 97; refine HG.out.mono ?_; clear HG; rintro e w2 ⟨s2, rfl, i2, b2⟩; have I2 := hide i2; clear i2; generalize hx : rightV ⟨5, 0, 0, ⟨#[]⟩, its⟩ = x at *; have HX := hide hx; clear hx; have f2 := (b2.block _ zW).trans HE1.out; have G := hide f2; have y0 := cells_at f2 0 _ rfl; have y1 := cells_at f2 1 _ rfl; have y2 := cells_at f2 2 _ rfl; have y3 := cells_at f2 3 _ rfl; have y4 := cells_at f2 4 _ rfl; have q0 := frozen_at f2 0; have q1 := frozen_at f2 1; have q2 := frozen_at f2 2; have q3 := frozen_at f2 3; have q4 := frozen_at f2 4; have B2 := hide b2; clear f2 b2; cases x; rotate_left; obtain ⟨a2, c2, rfl, _⟩ := (I2.out rfl).1.len)
  · have g := stored w w2 5 0 0 ⟨#[]⟩ (.slice a2 its.length c2) zcells w.heap.size (Nat.le_refl _) (trans_v bW B2.out) rfl G.out
    refine bodyPost_ret (results_struct_tmp rfl _ _ w.heap.size _ _ _ _ rfl g.1 Tryz.underlying25 rfl infoVal5) rfl ?_
    exact ⟨.slice a2 its.length c2, by rw [HX.out]; rfl, fun _ => ⟨(I2.out trivial).1.kept (fun b o hb => stored_cell _ _ _ _ _ _ _ _ _ (by have := hb.1; omega)) (fun b hb => ⟨by have := hb.1; omega, by simpa using hb.2⟩), (I2.out trivial).2.same (fun j hj => stored_heap _ _ _ _ _ _ _ _ (by omega)) (by omega)⟩, g.2⟩
  · have g := stored w w2 0 0 0 ⟨#[]⟩ (.slice none 0 0) zcells w.heap.size (Nat.le_refl _) (trans_v bW B2.out) rfl G.out
    refine bodyPost_ret (results_struct_tmp rfl _ _ w.heap.size _ _ _ _ rfl g.1 Tryz.underlying25 rfl infoVal5) rfl ?_
    exact ⟨.slice none 0 0, by rw [HX.out]; rfl, fun h => (by rw [HX.out] at h; cases h), g.2⟩
set_option maxRecDepth 100000 in
theorem listO_k (its : List Vl) (w : World) (n : Nat) (sl : Value) (hT : Tabs w) (hi : ItemsAt w w.heap.size (n + 2) sl its) (ha : ∀ x ∈ its, rightV x = true) (hsz : (⟨6, 0, 0, ⟨#[]⟩, its⟩ : Vl).size ≤ 1000000000) :
    Calls Tryz.prog 45 #[sl] w fun e w' => ∃ s', e = .returned (.tuple #[.agg (bif rightV ⟨6, 0, 0, ⟨#[]⟩, its⟩ then vcells ⟨6, 0, 0, ⟨#[]⟩, its⟩ s' else zcells), .int .i64 (bif rightV ⟨6, 0, 0, ⟨#[]⟩, its⟩ then 0 else 42)]) ∧ (rightV ⟨6, 0, 0, ⟨#[]⟩, its⟩ = true → (ItemsIn w' (fun b => w.heap.size < b ∧ b < w'.heap.size) (n + 2) s' its ∧ RowOwn w' w.heap.size s' its.length)) ∧ Below w.heap.size w w' := by
  obtain ⟨W, hW⟩ : ∃ W, w.alloc (.cells zcells 25) = W := ⟨_, rfl⟩
  have bW : Below w.heap.size w W := by rw [← hW]; exact alloc_v (Below.refl _ _) _
  have e1 : W.heap[w.heap.size]? = some (.cells zcells 25 (0, 0)) := by rw [← hW]; exact World.alloc_heap_new w _
  have zW : w.heap.size < W.heap.size := (Array.getElem?_eq_some_iff.1 e1).1
  have HE1 := hide e1
  have HG := hide (gatherO_other 6 (by decide) its W n sl (hT.below bW) ((hi.below bW).up bW.size) ha hsz)
  obtain ⟨a, c, rfl, _⟩ := hi.len
  clear hi hT e1 ha hsz
  go_enter Tryz.func45, Tryz.ntmps45
  go_wp2_with (go_at_call 97; refine HG.out.mono ?_; clear HG; rintro e w2 ⟨s2, rfl, i2, b2⟩; have I2 := hide i2; clear i2; generalize hx : rightV ⟨6, 0, 0, ⟨#[]⟩, its⟩ = x at *; have HX := hide hx; clear hx; have f2 := (b2.block _ zW).trans HE1.out; have G := hide f2; have y0 := cells_at f2 0 _ rfl; have y1 := cells_at f2 1 _ rfl; have y2 := cells_at f2 2 _ rfl; have y3 := cells_at f2 3 _ rfl; have y4 := cells_at f2 4 _ rfl; have q0 := frozen_at f2 0; have q1 := frozen_at f2 1; have q2 := frozen_at f2 2; have q3 := frozen_at f2 3; have q4 := frozen_at f2 4; have B2 := hide b2; clear f2 b2; cases x; rotate_left; obtain ⟨a2, c2, rfl, _⟩ := (I2.out rfl).1.len)
  · have g := stored w w2 6 0 0 ⟨#[]⟩ (.slice a2 its.length c2) zcells w.heap.size (Nat.le_refl _) (trans_v bW B2.out) rfl G.out
    refine bodyPost_ret (results_struct_tmp rfl _ _ w.heap.size _ _ _ _ rfl g.1 Tryz.underlying25 rfl infoVal5) rfl ?_
    exact ⟨.slice a2 its.length c2, by rw [HX.out]; rfl, fun _ => ⟨(I2.out trivial).1.kept (fun b o hb => stored_cell _ _ _ _ _ _ _ _ _ (by have := hb.1; omega)) (fun b hb => ⟨by have := hb.1; omega, by simpa using hb.2⟩), (I2.out trivial).2.same (fun j hj => stored_heap _ _ _ _ _ _ _ _ (by omega)) (by omega)⟩, g.2⟩
  · have g := stored w w2 0 0 0 ⟨#[]⟩ (.slice none 0 0) zcells w.heap.size (Nat.le_refl _) (trans_v bW B2.out) rfl G.out
    refine bodyPost_ret (results_struct_tmp rfl _ _ w.heap.size _ _ _ _ rfl g.1 Tryz.underlying25 rfl infoVal5) rfl ?_
    exact ⟨.slice none 0 0, by rw [HX.out]; rfl, fun h => (by rw [HX.out] at h; cases h), g.2⟩
/-- What Tuple, List, Set and the reference's Made come to. -/
def madeR (kind : Int) (its : List Vl) : Vl × Int := bif its.all rightV then (bif rightV (madeV kind its) then (madeV kind its, 0) else (⟨0, 0, 0, ⟨#[]⟩, []⟩, 42)) else (⟨0, 0, 0, ⟨#[]⟩, []⟩, 40)
theorem madeR_bad {kind : Int} {its : List Vl} (h : ∃ x ∈ its, rightV x = false) : madeR kind its = (⟨0, 0, 0, ⟨#[]⟩, []⟩, 40) := by
  have : its.all rightV = false := by
    obtain ⟨x, hx, hr⟩ := h
    cases e : its.all rightV
    · rfl
    · have := List.all_eq_true.1 e x hx
      rw [hr] at this
      cases this
  unfold madeR
  rw [this]
  rfl
theorem madeR_good {kind : Int} {its : List Vl} (h : ∀ x ∈ its, rightV x = true) : madeR kind its = bif rightV (madeV kind its) then (madeV kind its, 0) else (⟨0, 0, 0, ⟨#[]⟩, []⟩, 42) := by
  unfold madeR
  rw [List.all_eq_true.2 h]
  rfl
theorem in_nil2 (w : World) (S : Nat → Prop) (n : Nat) : ItemsIn w S (n + 1) (.slice none 0 0) [] := ⟨none, 0, rfl, by simp [maxLen], fun j h => by simp at h⟩
theorem bad_or_good (its : List Vl) : (∃ x ∈ its, rightV x = false) ∨ ∀ x ∈ its, rightV x = true := by
  by_cases hb : ∃ x ∈ its, rightV x = false
  · exact .inl hb
  · refine .inr fun x hx => ?_
    cases h : rightV x
    · exact absurd ⟨x, hx, h⟩ hb
    · rfl
theorem tupleD_k (its : List Vl) (w : World) (n : Nat) (sl : Value) (hT : Tabs w) (hi : ItemsAt w w.heap.size (n + 2) sl its) (hsz : (⟨5, 0, 0, ⟨#[]⟩, its⟩ : Vl).size ≤ 1000000000) :
    Calls Tryz.prog 44 #[sl] w fun e w' => ∃ s', e = .returned (.tuple #[.agg (vcells (madeR 5 its).1 s'), .int .i64 (madeR 5 its).2]) ∧ ItemsIn w' (fun b => w.heap.size ≤ b ∧ b < w'.heap.size) (n + 2) s' (madeR 5 its).1.items ∧ RowOwn w' w.heap.size s' (madeR 5 its).1.items.length ∧ Below w.heap.size w w' := by
  have hm : madeV 5 its = ⟨5, 0, 0, ⟨#[]⟩, its⟩ := rfl
  rcases bad_or_good its with hb | ha
  · rw [madeR_bad hb]
    exact (tuple_bad its w n sl hT hi hb).mono fun e w' h => ⟨_, h.1, in_nil2 _ _ _, RowOwn.nil _ _, h.2⟩
  · rw [madeR_good ha, hm]
    refine (tupleO_k its w n sl hT hi ha hsz).mono fun e w' h => ?_
    obtain ⟨s', h1, h2, h3⟩ := h
    cases hx : rightV ⟨5, 0, 0, ⟨#[]⟩, its⟩
    · rw [hx] at h1
      exact ⟨_, h1, in_nil2 _ _ _, RowOwn.nil _ _, h3⟩
    · rw [hx] at h1
      exact ⟨s', h1, (h2 hx).1.kept (fun _ _ _ => rfl) (fun b hb => ⟨Nat.le_of_lt hb.1, hb.2⟩), (h2 hx).2, h3⟩
theorem listD_k (its : List Vl) (w : World) (n : Nat) (sl : Value) (hT : Tabs w) (hi : ItemsAt w w.heap.size (n + 2) sl its) (hsz : (⟨6, 0, 0, ⟨#[]⟩, its⟩ : Vl).size ≤ 1000000000) :
    Calls Tryz.prog 45 #[sl] w fun e w' => ∃ s', e = .returned (.tuple #[.agg (vcells (madeR 6 its).1 s'), .int .i64 (madeR 6 its).2]) ∧ ItemsIn w' (fun b => w.heap.size ≤ b ∧ b < w'.heap.size) (n + 2) s' (madeR 6 its).1.items ∧ RowOwn w' w.heap.size s' (madeR 6 its).1.items.length ∧ Below w.heap.size w w' := by
  have hm : madeV 6 its = ⟨6, 0, 0, ⟨#[]⟩, its⟩ := rfl
  rcases bad_or_good its with hb | ha
  · rw [madeR_bad hb]
    exact (listM_bad its w n sl hT hi hb).mono fun e w' h => ⟨_, h.1, in_nil2 _ _ _, RowOwn.nil _ _, h.2⟩
  · rw [madeR_good ha, hm]
    refine (listO_k its w n sl hT hi ha hsz).mono fun e w' h => ?_
    obtain ⟨s', h1, h2, h3⟩ := h
    cases hx : rightV ⟨6, 0, 0, ⟨#[]⟩, its⟩
    · rw [hx] at h1
      exact ⟨_, h1, in_nil2 _ _ _, RowOwn.nil _ _, h3⟩
    · rw [hx] at h1
      exact ⟨s', h1, (h2 hx).1.kept (fun _ _ _ => rfl) (fun b hb => ⟨Nat.le_of_lt hb.1, hb.2⟩), (h2 hx).2, h3⟩
theorem setD_k (its : List Vl) (w : World) (n : Nat) (sl : Value) (hT : Tabs w) (hi : ItemsAt w w.heap.size (n + 2) sl its) (hl : its.length ≤ 1000000000) (hsz : (⟨7, 0, 0, ⟨#[]⟩, its⟩ : Vl).size ≤ 1000000000) :
    Calls Tryz.prog 46 #[sl] w fun e w' => ∃ s', e = .returned (.tuple #[.agg (vcells (madeR 7 its).1 s'), .int .i64 (madeR 7 its).2]) ∧ ItemsIn w' (fun b => w.heap.size ≤ b ∧ b < w'.heap.size) (n + 2) s' (madeR 7 its).1.items ∧ Below w.heap.size w w' := by
  refine (madeSet its w n sl hT hi hl hsz).mono fun e w' h => ?_
  rcases h with ⟨⟨hb, h1⟩ | ⟨ha, s', h1, h2⟩, h3⟩
  · rw [madeR_bad hb]
    exact ⟨_, h1, in_nil2 _ _ _, h3⟩
  · rw [madeR_good ha]
    cases hx : rightV (madeV 7 its)
    · rw [hx] at h1
      exact ⟨_, h1, in_nil2 _ _ _, h3⟩
    · rw [hx] at h1
      exact ⟨s', h1, (h2 hx).kept (fun _ _ _ => rfl) (fun b hb => ⟨Nat.le_of_lt hb.1, hb.2⟩), h3⟩
theorem madeD_k (kind : Int) (hk : kind = 5 ∨ kind = 6 ∨ kind = 7) (its : List Vl) (w : World) (n : Nat) (sl : Value) (hi : ItemsAt w w.heap.size (n + 2) sl its) (hsz : ∀ x ∈ its, x.size ≤ 1000000000) (hl : its.length ≤ 1000000000) :
    Calls Tryz.prog 47 #[.int .i64 kind, sl] w fun e w' => ∃ s', e = .returned (.tuple #[.agg (vcells (madeR kind its).1 s'), .int .i64 (madeR kind its).2]) ∧ ItemsIn w' (fun b => w.heap.size ≤ b ∧ b < w'.heap.size) (n + 2) s' (madeR kind its).1.items ∧ Below w.heap.size w w' := by
  refine (refMade_k kind its w (n + 1) sl hi hsz hl).mono fun e w' h => ?_
  rcases h with ⟨⟨hb, h1⟩ | ⟨ha, s', h1, h2⟩, h3⟩
  · rw [madeR_bad hb]
    exact ⟨_, h1, in_nil2 _ _ _, h3⟩
  · rw [madeR_good ha]
    rw [right_made hk ha] at h1
    cases hx : rightV (madeV kind its)
    · rw [hx] at h1
      exact ⟨_, h1, in_nil2 _ _ _, h3⟩
    · rw [hx] at h1
      have h4 := right_made hk ha
      rw [hx] at h4
      exact ⟨s', h1, h2 (of_decide_eq_true h4), h3⟩
end Go.Proofs.YtgglommnipbagaaGreatDoor

/- A row of one's own whose items are older than it, or fresh. -/
namespace Go.Proofs.YtgglommnipbagaaGreatDoor
open Go.RowKit

/-- A row of the call's own, from block L on; its items' own items lie anywhere but in its block. -/
def OwnM (w : World) (L n : Nat) (v : Value) (its : List Vl) : Prop := ∃ ss : List Value, ∃ hl : ss.length = its.length, w.ownsRow L 25 5 v its.length (rowC its ss) ∧
  ∀ j (h : j < its.length), ItemsIn w (fun b => b < w.heap.size ∧ some b ≠ v.ownBlock) n (ss[j]'(by omega)) its[j].items ∧ its[j].ok
theorem OwnM.nil (w : World) (L n : Nat) : OwnM w L n (.slice none 0 0) [] := ⟨[], rfl, ⟨rfl, .inl ⟨rfl, rfl⟩⟩, fun j h => by simp at h⟩
theorem OwnM.items {w : World} {L n : Nat} {v : Value} {its : List Vl} (h : OwnM w L n v its) (hm : its.length ≤ maxLen) : ItemsIn w (fun b => b < w.heap.size) (n + 1) v its := by
  obtain ⟨ss, hl, hr, hc⟩ := h
  have hlt := hr.lt
  rcases hr.2 with ⟨hv, h0⟩ | ⟨g, cap, cur, hv, _⟩
  · refine ⟨none, 0, by rw [hv, h0], hm, fun j hj => by omega⟩
  · subst hv
    refine ⟨some ⟨g, 0, none⟩, cap, rfl, hm, fun j hj => ?_⟩
    obtain ⟨h1, h2⟩ := hc j hj
    have hg := hlt g rfl
    have ce : ∀ i, i < 5 → w.cell? ⟨g, 0 + j * 5 + i, none⟩ = (cells5 its[j] (ss[j]'(by omega)))[i]? := fun i hi => by
      rw [Nat.zero_add, hr.cellAt (j * 5 + i) (by have := Nat.mul_le_mul_right 5 (show j + 1 ≤ its.length by omega); omega), rowC_get hl j hj i hi]
    exact ⟨g, 0, ss[j]'(by omega), rfl, hg.2, ce 0 (by omega), ce 1 (by omega), ce 2 (by omega), ce 3 (by omega), ce 4 (by omega), h1.kept (fun _ _ _ => rfl) (fun b hb => hb.1), h2⟩
/-- One value more is laid behind. -/
theorem OwnM.push {wr W : World} {L n : Nat} {v s : Value} {its : List Vl} {x : Vl} (h : OwnM wr L n v its) (hL : L ≤ wr.heap.size) (hb : Below wr.heap.size wr W) (hx : ItemsIn W (fun b => (b < L ∨ wr.heap.size ≤ b) ∧ b < W.heap.size) n s x.items) (ht : x.ok) (hn : its.length + 1 ≤ 1000000000) (ty : TypeId) :
    ∃ v' w', (Builtin.append_ #[22, 22] ty #[v, .slice (some ⟨W.heap.size, 0, none⟩) 1 1]).run Tryz.prog (W.alloc (.cells #[.int .i64 x.kind, .int .i64 x.int, .int .i64 x.im, .string x.text, s] 25)) = .ok v' w' ∧ OwnM w' L n v' (its ++ [x]) ∧ Below L W w' := by
  obtain ⟨i0, hi, hz0, hz1, hz2⟩ := info_partsV infoVal
  obtain ⟨ss, hl, hr, hc⟩ := h
  obtain ⟨sa, sc, rfl, _⟩ := hx.len
  have hbA : Below W.heap.size W (W.alloc (.cells #[.int .i64 x.kind, .int .i64 x.int, .int .i64 x.im, .string x.text, .slice sa x.items.length sc] 25)) := alloc_v (Below.refl _ _) _
  have hbW := trans_v hb hbA
  have hsz := hb.size
  have eA := World.alloc_heap_new W (.cells #[.int .i64 x.kind, .int .i64 x.int, .int .i64 x.im, .string x.text, .slice sa x.items.length sc] 25)
  have hrA : (W.alloc (.cells #[.int .i64 x.kind, .int .i64 x.int, .int .i64 x.im, .string x.text, .slice sa x.items.length sc] 25)).ownsRow L 25 5 v its.length (rowC its ss) := hr.kept (grown_of_below (r := none) hbW) (by cases v.ownBlock <;> simp)
  obtain ⟨g, cap, w', hrun, A1, A2, A3, A4⟩ := run_append_lies (P := Tryz.prog) (W.alloc (.cells #[.int .i64 x.kind, .int .i64 x.int, .int .i64 x.im, .string x.text, .slice sa x.items.length sc] 25)) 22 ty L 25 i0 _ 5 64 Tryz.underlying22 hi hz0 hz1 hz2 rfl (by decide) v its.length (rowC its ss) hrA ⟨W.heap.size, 0, none⟩ 1 1 (cells5 x (.slice sa x.items.length sc)) rfl (fun j u hj => by
      rw [Addr.add_lit, Nat.zero_add]
      exact cells_at eA j u (by simpa [cells5] using hj)) (fun u hu => by simp [cells5] at hu; rcases hu with rfl | rfl | rfl | rfl | rfl <;> rfl) (by omega) (by unfold maxLen; omega) (by omega) (by rw [World.size_alloc]; omega) (W.heap.size + 1) (by rw [World.size_alloc])
  have hgz := A2.size
  rw [World.size_alloc] at hgz
  have hvl := hr.lt
  refine ⟨_, w', hrun, ⟨ss ++ [.slice sa x.items.length sc], by simp [hl], ?_, fun j hj => ?_⟩, ?_⟩
  · rw [rowC_snoc _ _ hl, List.length_append]
    exact A1
  · by_cases e : j < its.length
    · obtain ⟨h1, h2⟩ := hc j e
      rw [List.getElem_append_left (by omega), List.getElem_append_left e]
      refine ⟨h1.kept (fun b o hb => ?_) (fun b hb => ⟨by have := hb.1; omega, fun eq => ?_⟩), h2⟩
      · exact (World.cell?_of_block (A2.block b (by rw [World.size_alloc]; have := hb.1; omega) hb.2)).trans ((bcellV hbW).1 b o hb.1)
      · simp only [Value.ownBlock, Option.some.injEq] at eq
        rcases A3 with A3 | A3
        · exact hb.2 (by rw [A3, eq])
        · have := hb.1; omega
    · have ej : j = its.length := by rw [List.length_append, List.length_singleton] at hj; omega
      subst ej
      rw [List.getElem_append_right (by omega), List.getElem_append_right (by omega)]
      simp only [hl, Nat.sub_self, List.getElem_singleton]
      refine ⟨hx.kept (fun b o hb => ?_) (fun b hb => ⟨by omega, fun eq => ?_⟩), ht⟩
      · refine (World.cell?_of_block (A2.block b (by rw [World.size_alloc]; omega) (fun eq => ?_))).trans ((bcellV hbA).1 b o hb.2)
        have := hvl b eq.symm
        have := hb.1
        omega
      · simp only [Value.ownBlock, Option.some.injEq] at eq
        rcases A3 with A3 | A3
        · have := hvl g A3
          have := hb.1
          omega
        · omega
  · have hb1 : Below L W (W.alloc (.cells #[.int .i64 x.kind, .int .i64 x.int, .int .i64 x.im, .string x.text, .slice sa x.items.length sc] 25)) := hbA.mono (by omega)
    exact hb1.grown A2 (by rw [World.size_alloc]; omega) (fun k hk => (hvl k hk).1)
end Go.Proofs.YtgglommnipbagaaGreatDoor

/- The reference's Int, Bool, Gauss, Symbol. -/
namespace Go.Proofs.YtgglommnipbagaaGreatDoor
open Go.RowKit

theorem refInt_k (i : Int) (w : World) : Calls Tryz.prog 15 #[.int .i64 i] w fun e w' => e = .returned (.agg (vcells ⟨2, i, 0, ⟨#[]⟩, []⟩ (.slice none 0 0))) ∧ Below w.heap.size w w' := by
  obtain ⟨W, hW⟩ : ∃ W, w.alloc (.cells zcells 25) = W := ⟨_, rfl⟩
  have bW : Below w.heap.size w W := by rw [← hW]; exact alloc_v (Below.refl _ _) _
  have e1 : W.heap[w.heap.size]? = some (.cells zcells 25 (0, 0)) := by rw [← hW]; exact World.alloc_heap_new w _
  have x0 := cells_at e1 0 _ rfl
  have x1 := cells_at e1 1 _ rfl
  have x2 := cells_at e1 2 _ rfl
  have x3 := cells_at e1 3 _ rfl
  have x4 := cells_at e1 4 _ rfl
  have q0 := frozen_at e1 0
  have q1 := frozen_at e1 1
  have q2 := frozen_at e1 2
  have q3 := frozen_at e1 3
  have q4 := frozen_at e1 4
  have E := hide e1
  clear e1
  go_enter Tryz.func15, Tryz.ntmps15
  go_wp2
  have g := stored w W 2 i 0 ⟨#[]⟩ (.slice none 0 0) zcells w.heap.size (Nat.le_refl _) bW rfl E.out
  refine bodyPost_ret (results_cell_row rfl _ _ w.heap.size _ _ _ _ rfl g.1 Tryz.underlying25 rfl infoVal5) rfl ?_
  exact ⟨rfl, g.2⟩
theorem refBool_k (b : Bool) (w : World) : Calls Tryz.prog 17 #[.bool b] w fun e w' => e = .returned (.agg (vcells ⟨1, bif b then 1 else 0, 0, ⟨#[]⟩, []⟩ (.slice none 0 0))) ∧ Below w.heap.size w w' := by
  obtain ⟨W, hW⟩ : ∃ W, w.alloc (.cells zcells 25) = W := ⟨_, rfl⟩
  have bW : Below w.heap.size w W := by rw [← hW]; exact alloc_v (Below.refl _ _) _
  have e1 : W.heap[w.heap.size]? = some (.cells zcells 25 (0, 0)) := by rw [← hW]; exact World.alloc_heap_new w _
  have x0 := cells_at e1 0 _ rfl
  have x1 := cells_at e1 1 _ rfl
  have x2 := cells_at e1 2 _ rfl
  have x3 := cells_at e1 3 _ rfl
  have x4 := cells_at e1 4 _ rfl
  have q0 := frozen_at e1 0
  have q1 := frozen_at e1 1
  have q2 := frozen_at e1 2
  have q3 := frozen_at e1 3
  have q4 := frozen_at e1 4
  have E := hide e1
  clear e1
  cases b
  · go_enter Tryz.func17, Tryz.ntmps17
    go_wp2
    have g := stored w W 1 0 0 ⟨#[]⟩ (.slice none 0 0) zcells w.heap.size (Nat.le_refl _) bW rfl E.out
    refine bodyPost_ret (results_cell_row rfl _ _ w.heap.size _ _ _ _ rfl g.1 Tryz.underlying25 rfl infoVal5) rfl ?_
    exact ⟨rfl, g.2⟩
  · go_enter Tryz.func17, Tryz.ntmps17
    go_wp2
    have g := stored w W 1 1 0 ⟨#[]⟩ (.slice none 0 0) zcells w.heap.size (Nat.le_refl _) bW rfl E.out
    refine bodyPost_ret (results_cell_row rfl _ _ w.heap.size _ _ _ _ rfl g.1 Tryz.underlying25 rfl infoVal5) rfl ?_
    exact ⟨rfl, g.2⟩
theorem refGauss_k (i m : Int) (w : World) : Calls Tryz.prog 12 #[.int .i64 i, .int .i64 m] w fun e w' => e = .returned (.tuple #[.agg (bif gaussB i m then vcells ⟨3, i, m, ⟨#[]⟩, []⟩ (.slice none 0 0) else zcells), .int .i64 (bif gaussB i m then 0 else 42)]) ∧ Below w.heap.size w w' := by
  obtain ⟨W, hW⟩ : ∃ W, w.alloc (.cells zcells 25) = W := ⟨_, rfl⟩
  have bW : Below w.heap.size w W := by rw [← hW]; exact alloc_v (Below.refl _ _) _
  have e1 : W.heap[w.heap.size]? = some (.cells zcells 25 (0, 0)) := by rw [← hW]; exact World.alloc_heap_new w _
  have x0 := cells_at e1 0 _ rfl
  have x1 := cells_at e1 1 _ rfl
  have x2 := cells_at e1 2 _ rfl
  have x3 := cells_at e1 3 _ rfl
  have x4 := cells_at e1 4 _ rfl
  have q0 := frozen_at e1 0
  have q1 := frozen_at e1 1
  have q2 := frozen_at e1 2
  have q3 := frozen_at e1 3
  have q4 := frozen_at e1 4
  have E := hide e1
  have H1 := hide (part_k i W)
  have H2 := hide (part_k m W)
  clear e1
  unfold gaussB
  generalize (decide (-1048576 ≤ i) && decide (i ≤ 1048576)) = u1 at *
  generalize (decide (-1048576 ≤ m) && decide (m ≤ 1048576)) = u2 at *
  cases u1
  · go_enter Tryz.func12, Tryz.ntmps12
    go_wp2_with (go_at_call 43; refine H1.out.mono ?_; clear H1; rintro e w2 ⟨rfl, rfl⟩)
    have g := stored w W 0 0 0 ⟨#[]⟩ (.slice none 0 0) zcells w.heap.size (Nat.le_refl _) bW rfl E.out
    refine bodyPost_ret (results_struct_tmp rfl _ _ w.heap.size _ _ _ _ rfl g.1 Tryz.underlying25 rfl infoVal5) rfl ?_
    exact ⟨rfl, g.2⟩
  · cases u2
    · go_enter Tryz.func12, Tryz.ntmps12
      go_wp2_with (first
        | (go_at_call 43; with_reducible refine H1.out.mono ?_; clear H1; rintro e w2 ⟨rfl, rfl⟩)
        | (go_at_call 43; with_reducible refine H2.out.mono ?_; clear H2; rintro e w2 ⟨rfl, rfl⟩))
      have g := stored w W 0 0 0 ⟨#[]⟩ (.slice none 0 0) zcells w.heap.size (Nat.le_refl _) bW rfl E.out
      refine bodyPost_ret (results_struct_tmp rfl _ _ w.heap.size _ _ _ _ rfl g.1 Tryz.underlying25 rfl infoVal5) rfl ?_
      exact ⟨rfl, g.2⟩
    · go_enter Tryz.func12, Tryz.ntmps12
      go_wp2_with (first
        | (go_at_call 43; with_reducible refine H1.out.mono ?_; clear H1; rintro e w2 ⟨rfl, rfl⟩)
        | (go_at_call 43; with_reducible refine H2.out.mono ?_; clear H2; rintro e w2 ⟨rfl, rfl⟩))
      have g := stored w W 3 i m ⟨#[]⟩ (.slice none 0 0) zcells w.heap.size (Nat.le_refl _) bW rfl E.out
      refine bodyPost_ret (results_struct_tmp rfl _ _ w.heap.size _ _ _ _ rfl g.1 Tryz.underlying25 rfl infoVal5) rfl ?_
      exact ⟨rfl, g.2⟩
set_option maxRecDepth 100000 in
theorem refSymV_k (t : ByteArray) (ht : t.size ≤ 1048576) (w : World) :
    Calls Tryz.prog 10 #[.string t] w fun e w' => e = .returned (.tuple #[.agg (bif symB t then vcells ⟨4, 0, 0, t, []⟩ (.slice none 0 0) else zcells), .int .i64 (bif symB t then 0 else 40)]) ∧ Below w.heap.size w w' := by
  obtain ⟨W, hW⟩ : ∃ W, w.alloc (.cells zcells 25) = W := ⟨_, rfl⟩
  have bW : Below w.heap.size w W := by rw [← hW]; exact alloc_v (Below.refl _ _) _
  have e1 : W.heap[w.heap.size]? = some (.cells zcells 25 (0, 0)) := by rw [← hW]; exact World.alloc_heap_new w _
  have x0 := cells_at e1 0 _ rfl
  have x1 := cells_at e1 1 _ rfl
  have x2 := cells_at e1 2 _ rfl
  have x3 := cells_at e1 3 _ rfl
  have x4 := cells_at e1 4 _ rfl
  have q0 := frozen_at e1 0
  have q1 := frozen_at e1 1
  have q2 := frozen_at e1 2
  have q3 := frozen_at e1 3
  have q4 := frozen_at e1 4
  have E := hide e1
  have H := hide (refSymbol_k t ht W)
  have zW : w.heap.size < W.heap.size := (Array.getElem?_eq_some_iff.1 e1).1
  clear e1 ht
  generalize symB t = u at *
  cases u
  · go_enter Tryz.func10, Tryz.ntmps10
    go_wp2_with (go_at_call 41; refine H.out.mono ?_; clear H; rintro e w2 ⟨rfl, b2⟩; have e2 := (b2.block _ zW).trans E.out; have E2 := hide e2; have y0 := cells_at e2 0 _ rfl; have y1 := cells_at e2 1 _ rfl; have y2 := cells_at e2 2 _ rfl; have y3 := cells_at e2 3 _ rfl; have y4 := cells_at e2 4 _ rfl; have p0 := frozen_at e2 0; have p1 := frozen_at e2 1; have p2 := frozen_at e2 2; have p3 := frozen_at e2 3; have p4 := frozen_at e2 4; clear e2)
    have g := stored w w2 0 0 0 ⟨#[]⟩ (.slice none 0 0) zcells w.heap.size (Nat.le_refl _) (trans_v bW b2) rfl E2.out
    refine bodyPost_ret (results_struct_tmp rfl _ _ w.heap.size _ _ _ _ rfl g.1 Tryz.underlying25 rfl infoVal5) rfl ?_
    exact ⟨rfl, g.2⟩
  · go_enter Tryz.func10, Tryz.ntmps10
    go_wp2_with (go_at_call 41; refine H.out.mono ?_; clear H; rintro e w2 ⟨rfl, b2⟩; have e2 := (b2.block _ zW).trans E.out; have E2 := hide e2; have y0 := cells_at e2 0 _ rfl; have y1 := cells_at e2 1 _ rfl; have y2 := cells_at e2 2 _ rfl; have y3 := cells_at e2 3 _ rfl; have y4 := cells_at e2 4 _ rfl; have p0 := frozen_at e2 0; have p1 := frozen_at e2 1; have p2 := frozen_at e2 2; have p3 := frozen_at e2 3; have p4 := frozen_at e2 4; clear e2)
    have g := stored w w2 4 0 0 t (.slice none 0 0) zcells w.heap.size (Nat.le_refl _) (trans_v bW b2) rfl E2.out
    refine bodyPost_ret (results_struct_tmp rfl _ _ w.heap.size _ _ _ _ rfl g.1 Tryz.underlying25 rfl infoVal5) rfl ?_
    exact ⟨rfl, g.2⟩
end Go.Proofs.YtgglommnipbagaaGreatDoor

/- What makes writes over: rows and values of its own. -/
namespace Go.Proofs.YtgglommnipbagaaGreatDoor
open Go.RowKit

theorem RowOwn.set {w : World} {L g n cap : Nat} (h : RowOwn w L (.slice (some ⟨g, 0, none⟩) n cap) n) (k : Nat) (u : Value) : RowOwn (w.setCell ⟨g, k, none⟩ u) L (.slice (some ⟨g, 0, none⟩) n cap) n := by
  obtain ⟨xs, h1, h2⟩ := h
  refine ⟨xs.set k u, by rw [List.length_set]; exact h1, ?_⟩
  rcases h2 with ⟨h, _⟩ | ⟨g', cap', cur, hv, hb, hh, hnc, hcm, hcs, ht⟩
  · cases h
  · simp only [Value.slice.injEq, Option.some.injEq, Addr.mk.injEq, and_true, true_and] at hv
    obtain ⟨rfl, rfl⟩ := hv
    refine .inr ⟨g, cap, cur.setIfInBounds k u, rfl, hb, ?_, hnc, hcm, by simp; omega, ?_⟩
    · simp [World.setCell, Array.getElem?_modify, hh]
    · rw [← ht, Array.toList_setIfInBounds, List.take_set]
theorem RowOwn.cell {w : World} {L g n cap : Nat} (h : RowOwn w L (.slice (some ⟨g, 0, none⟩) n cap) n) (k : Nat) (hk : k < n * 5) : (∃ u, w.cell? ⟨g, k, none⟩ = some u) ∧ w.frozen? ⟨g, k, none⟩ = false := by
  obtain ⟨xs, h1, h2⟩ := h
  rcases h2 with ⟨h, _⟩ | ⟨g', cap', cur, hv, hb, hh, hnc, hcm, hcs, ht⟩
  · cases h
  · simp only [Value.slice.injEq, Option.some.injEq, Addr.mk.injEq, and_true, true_and] at hv
    obtain ⟨rfl, rfl⟩ := hv
    have hlt : k < cur.size := by rw [hcs]; have := Nat.mul_le_mul_right 5 hnc; omega
    exact ⟨⟨cur[k], cells_at hh k _ (Array.getElem?_eq_getElem hlt)⟩, frozen_at hh k⟩
theorem RowOwn.some {w : World} {L n : Nat} {a : Option Addr} {c : Nat} (h : RowOwn w L (.slice a n c) n) (hn : 0 < n) : ∃ g, a = some ⟨g, 0, none⟩ ∧ L ≤ g ∧ g < w.heap.size := by
  obtain ⟨xs, h1, h2⟩ := h
  rcases h2 with ⟨_, h⟩ | ⟨g, cap, cur, hv, hb, hh, _⟩
  · omega
  · simp only [Value.slice.injEq, true_and] at hv
    exact ⟨g, hv.1, hb, (Array.getElem?_eq_some_iff.1 hh).1⟩
/-- Blocks from A up to those of Y stay, and those below L. -/
def MidK (L A : Nat) (X Y w : World) : Prop := Below L X w ∧ (∀ j, A ≤ j → j < Y.heap.size → w.heap[j]? = Y.heap[j]?) ∧ Y.heap.size ≤ w.heap.size
theorem MidK.later {L A : Nat} {X Y w w' : World} (h : MidK L A X Y w) (b : Below w.heap.size w w') (hL : L ≤ Y.heap.size) : MidK L A X Y w' :=
  ⟨h.1.trans (b.mono (Nat.le_trans hL h.2.2)), fun j h1 h2 => (b.block j (by have := h.2.2; omega)).trans (h.2.1 j h1 h2), Nat.le_trans h.2.2 b.size⟩
theorem MidK.put {L A : Nat} {X Y w : World} (h : MidK L A X Y w) {g : Nat} (hg : L ≤ g) (hA : g < A ∨ Y.heap.size ≤ g) (o : Nat) (u : Value) : MidK L A X Y (w.setCell ⟨g, o, none⟩ u) :=
  ⟨h.1.setCell hg _, fun j h1 h2 => (Below.heap_setCell _ _ _ _ (by intro e; simp at e; omega)).trans (h.2.1 j h1 h2), by simpa [World.setCell] using h.2.2⟩
theorem MidK.far {L A n : Nat} {X Y w : World} {sl : Value} {its : List Vl} (h : MidK L A X Y w) (hi : ItemsIn Y (fun b => A ≤ b ∧ b < Y.heap.size) n sl its) : ItemsAt w w.heap.size n sl its :=
  (hi.kept (S' := fun b => A ≤ b ∧ b < Y.heap.size) (fun b o hb => World.cell?_of_block (h.2.1 b hb.1 hb.2)) (fun _ hb => hb)).at (fun b hb => by have := h.2.2; omega)
/-- The row of a value that the call has made, while it grows. -/
def OwnY (L A yb : Nat) (Y w : World) (s : Value) (n : Nat) : Prop := ∃ xs, w.ownsRow L 25 5 s n xs ∧ ∀ k, s.ownBlock = some k → (k < A ∨ Y.heap.size ≤ k) ∧ k ≠ yb
theorem OwnY.push {L A yb n : Nat} {X Y w : World} {s : Value} (h : OwnY L A yb Y w s n) (hm : MidK L A X Y w) (hL : L ≤ Y.heap.size) (hn : n + 1 ≤ 1000000000000) (hy : yb < Y.heap.size) (ty : TypeId) :
    ∃ s' w', (Builtin.append_ #[22, 22] ty #[s, .slice (some ⟨w.heap.size, 0, none⟩) 1 1]).run Tryz.prog (w.alloc (.cells #[.int .i64 78, .int .i64 0, .int .i64 0, .string ⟨#[]⟩, .slice none 0 0] 25)) = .ok s' w' ∧ (∃ g cap, s' = .slice (some ⟨g, 0, none⟩) (n + 1) cap) ∧ OwnY L A yb Y w' s' (n + 1) ∧ MidK L A X Y w' ∧ w'.heap[yb]? = w.heap[yb]? := by
  obtain ⟨xs, h1, h2⟩ := h
  obtain ⟨i0, hi, hz0, hz1, hz2⟩ := info_partsV infoVal
  have hYw := hm.2.2
  have bA : Below w.heap.size w (w.alloc (.cells #[.int .i64 78, .int .i64 0, .int .i64 0, .string ⟨#[]⟩, .slice none 0 0] 25)) := alloc_v (Below.refl _ _) _
  have e := World.alloc_heap_new w (.cells #[.int .i64 78, .int .i64 0, .int .i64 0, .string ⟨#[]⟩, .slice none 0 0] 25)
  have hA : (w.alloc (.cells #[.int .i64 78, .int .i64 0, .int .i64 0, .string ⟨#[]⟩, .slice none 0 0] 25)).ownsRow L 25 5 s n xs := h1.kept (grown_of_below (r := none) bA) (by cases s.ownBlock <;> simp)
  obtain ⟨g, cap, w', hrun, A1, A2, A3, A4⟩ := run_append_lies (P := Tryz.prog) (w.alloc (.cells #[.int .i64 78, .int .i64 0, .int .i64 0, .string ⟨#[]⟩, .slice none 0 0] 25)) 22 ty L 25 i0 _ 5 64 Tryz.underlying22 hi hz0 hz1 hz2 rfl (by decide) s n xs hA ⟨w.heap.size, 0, none⟩ 1 1 [.int .i64 78, .int .i64 0, .int .i64 0, .string ⟨#[]⟩, .slice none 0 0] rfl (fun j u hj => by
      rw [Addr.add_lit, Nat.zero_add]
      exact cells_at e j u (by simpa using hj)) (fun u hu => by simp at hu; rcases hu with rfl | rfl | rfl | rfl <;> rfl) (by omega) (by unfold maxLen; omega) (by omega) (by rw [World.size_alloc]; omega) (w.heap.size + 1) (by rw [World.size_alloc])
  have hsz := A2.size
  rw [World.size_alloc] at hsz
  have hmA := hm.later bA hL
  refine ⟨_, w', hrun, ⟨g, cap, rfl⟩, ⟨_, A1, fun k hk => ?_⟩, ⟨?_, fun j h6 h7 => ?_, by omega⟩, ?_⟩
  · simp only [Value.ownBlock, Option.some.injEq] at hk
    rcases A3 with A3 | A3
    · exact h2 k (by rw [A3, hk])
    · constructor <;> omega
  · exact hmA.1.grown A2 (by rw [World.size_alloc]; omega) (fun k hk => (h1.lt k hk).1)
  · refine (A2.block j (by rw [World.size_alloc]; omega) (fun eq => ?_)).trans (hmA.2.1 j h6 h7)
    have := (h2 j eq.symm).1
    omega
  · refine (A2.block yb (by rw [World.size_alloc]; omega) (fun eq => ?_)).trans (bA.block yb (by omega))
    exact (h2 yb eq.symm).2 rfl
theorem MidK.mono {L A A' : Nat} {X Y w : World} (h : MidK L A X Y w) (hA : A ≤ A') : MidK L A' X Y w := ⟨h.1, fun j h1 h2 => h.2.1 j (by omega) h2, h.2.2⟩
theorem MidK.start {L A : Nat} {X Y : World} (h : Below L X Y) : MidK L A X Y Y := ⟨h, fun _ _ _ => rfl, Nat.le_refl _⟩
theorem RowOwn.far {w w' : World} {L L' n : Nat} {s : Value} (h : RowOwn w L s n) (hk : ∀ g, L ≤ g → g < w.heap.size → w'.heap[g]? = w.heap[g]?) (hL : L' ≤ L) : RowOwn w' L' s n := by
  obtain ⟨xs, h1, h2⟩ := h
  refine ⟨xs, h1, ?_⟩
  rcases h2 with h | ⟨g, cap, cur, hv, hb, hg, rest⟩
  · exact .inl h
  · exact .inr ⟨g, cap, cur, hv, by omega, (hk g hb (Array.getElem?_eq_some_iff.1 hg).1).trans hg, rest⟩
theorem RowOwn.ownY {w w' Y : World} {L L' A yb n : Nat} {s : Value} (h : RowOwn w L' s n) (hk : ∀ g, L' ≤ g → g < w.heap.size → w'.heap[g]? = w.heap[g]?) (hL : L ≤ L') (hy : w.heap.size ≤ yb) (hA : yb < A) : OwnY L A yb Y w' s n := by
  obtain ⟨xs, h1⟩ := h.far hk hL
  obtain ⟨ys, h2⟩ := h
  refine ⟨xs, h1, fun k hk' => ?_⟩
  have := h2.lt k hk'
  omega
theorem OwnY.put {L A yb n : Nat} {Y w : World} {s : Value} (h : OwnY L A yb Y w s n) (o : Nat) (u : Value) : OwnY L A yb Y (w.setCell ⟨yb, o, none⟩ u) s n := by
  obtain ⟨xs, h1, h2⟩ := h
  refine ⟨xs, ⟨h1.1, ?_⟩, h2⟩
  rcases h1.2 with h | ⟨g, cap, cur, hv, hb, hg, rest⟩
  · exact .inl h
  · exact .inr ⟨g, cap, cur, hv, hb, (Below.heap_setCell _ _ _ _ (by intro e; exact (h2 g (by rw [hv]; rfl)).2 e)).trans hg, rest⟩
/-- A value that lies in a block of its own. -/
def Lies (W : World) (b : Nat) (v : Vl) (s : Value) : Prop := W.heap[b]? = some (.cells (vcells v s) 25 (0, 0))
theorem Lies.new (w : World) (v : Vl) (s : Value) : Lies (w.alloc (.cells (vcells v s) 25)) w.heap.size v s := World.alloc_heap_new w _
theorem Lies.later {W W' : World} {b : Nat} {v : Vl} {s : Value} (h : Lies W b v s) (hb : Below W.heap.size W W') : Lies W' b v s := (hb.block _ (Array.getElem?_eq_some_iff.1 h).1).trans h
theorem Lies.lt {W : World} {b : Nat} {v : Vl} {s : Value} (h : Lies W b v s) : b < W.heap.size := (Array.getElem?_eq_some_iff.1 h).1
theorem Lies.cells {W : World} {b : Nat} {v : Vl} {s : Value} (h : Lies W b v s) : W.cell? ⟨b, 0, none⟩ = some (.int .i64 v.kind) ∧ W.cell? ⟨b, 1, none⟩ = some (.int .i64 v.int) ∧ W.cell? ⟨b, 2, none⟩ = some (.int .i64 v.im) ∧ W.cell? ⟨b, 3, none⟩ = some (.string v.text) ∧ W.cell? ⟨b, 4, none⟩ = some s :=
  ⟨cells_at h 0 _ rfl, cells_at h 1 _ rfl, cells_at h 2 _ rfl, cells_at h 3 _ rfl, cells_at h 4 _ rfl⟩
theorem Lies.put {W : World} {b : Nat} {v : Vl} {s : Value} (h : Lies W b v s) (s' : Value) : Lies (W.setCell ⟨b, 4, none⟩ s') b v s' := heap_setCell_same _ _ 4 _ _ s' h
theorem alike_self (a : Vl) (w : World) (n m : Nat) (sa sb : Value) (ha : ItemsAt w w.heap.size n sa a.items) (hb : ItemsAt w w.heap.size m sb a.items) :
    Calls Tryz.prog 13 #[.agg (vcells a sa), .agg (vcells a sb)] w fun e w' => e = .returned (.bool true) ∧ Below w.heap.size w w' := by
  have h := alike_k n a a w w.heap.size m sa sb (Nat.le_refl _) ha hb
  rw [decide_eq_true (ordV_self a)] at h
  exact h
end Go.Proofs.YtgglommnipbagaaGreatDoor
