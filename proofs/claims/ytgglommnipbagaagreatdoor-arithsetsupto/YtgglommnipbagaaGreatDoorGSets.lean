/- More that leans on the table of letters alone: Set, Encode. -/
import Derived.Test.YtgglommnipbagaaGreatDoorZALet
import Derived.Test.YtgglommnipbagaaGreatDoorGMade
import Derived.Test.YtgglommnipbagaaGreatDoorZVEncC
import Derived.Test.YtgglommnipbagaaGreatDoorZVAlike
import Derived.Test.YtgglommnipbagaaGreatDoorGArith
import Derived.Test.YtgglommnipbagaaGreatDoorZVEncode
import Derived.Test.YtgglommnipbagaaGreatDoorZVMake
import Derived.Test.YtgglommnipbagaaGreatDoorGSetM
import Derived.Maps.OwnSet
import Derived.StringKeys
import Derived.Test.YtgglommnipbagaaGreatDoorZVClone
import Derived.Lib.AppendZeros
import Derived.Test.YtgglommnipbagaaGreatDoorGFns
namespace Go.Proofs.YtgglommnipbagaaGreatDoor
open Go.RowKit

set_option maxRecDepth 100000 in
set_option maxHeartbeats 1000000 in
/-- A set, of at least one item. -/
theorem gatherL_setA (its : List Vl) (w : World) (n : Nat) (sl : Value) (hT : TabL w) (hi : ItemsAt w w.heap.size (n + 2) sl its) (hl : its.length ≤ 1000000000) (ha : ∀ x ∈ its, rightV x = true) (hsz : ∀ s : List Vl, s.Perm its → (⟨7, 0, 0, ⟨#[]⟩, dd likeV s⟩ : Vl).size ≤ 1000000000) :
    Calls Tryz.prog 97 #[.int .i64 7, sl] w fun e w' => ∃ s s', s.Perm its ∧ s.Pairwise (fun x y => ordV x y ≤ 0) ∧ e = .returned (.tuple #[.agg (bif rightV ⟨7, 0, 0, ⟨#[]⟩, dd likeV s⟩ then vcells ⟨7, 0, 0, ⟨#[]⟩, dd likeV s⟩ s' else zcells), .int .i64 (bif rightV ⟨7, 0, 0, ⟨#[]⟩, dd likeV s⟩ then 0 else 42)]) ∧ (rightV ⟨7, 0, 0, ⟨#[]⟩, dd likeV s⟩ = true → ItemsIn w' (fun b => w.heap.size < b ∧ b < w'.heap.size) (n + 2) s' (dd likeV s)) ∧ Below w.heap.size w w' := by
  have HA := hide ha
  have HSZ := hide hsz
  have HD0 := hide (fun (U : World) (b : Below w.heap.size w U) => distinct_any U w.heap.size n sl its (hi.below b) hl b.size)
  clear ha hsz
  obtain ⟨W, hW⟩ : ∃ W, w.alloc (.cells zcells 25) = W := ⟨_, rfl⟩
  have bW : Below w.heap.size w W := by rw [← hW]; exact alloc_v (Below.refl _ _) _
  have e1 : W.heap[w.heap.size]? = some (.cells zcells 25 (0, 0)) := by rw [← hW]; exact World.alloc_heap_new w _
  have zW : w.heap.size < W.heap.size := (Array.getElem?_eq_some_iff.1 e1).1
  have HE1 := hide e1
  have HV := hide (hi.below bW)
  have HT := hide (hT.below bW)
  obtain ⟨a, c, rfl, hla⟩ := hi.len
  unfold maxLen at hla
  clear hi hT e1
  go_enter Tryz.func97, Tryz.ntmps97
  go_wp2
  clear hW
  go_loopw [11] (fun i wr => ∃ k : Nat, k ≤ its.length ∧ i = .int .i64 k ∧ (∀ j (h : j < its.length), j < k → rightV its[j] = true) ∧ Below W.heap.size W wr) (fun i _ => its.length - (intOf i).toNat)
  case atStart => exact ⟨0, Nat.zero_le _, rfl, fun j _ h => by omega, Below.refl _ _⟩
  case round =>
    obtain ⟨k, hk, rfl, hz, hbel⟩ := hrel
    by_cases hlt : k < its.length
    · obtain ⟨b1, o1, s1, rfl, g1, p0, p1, p2, p3, p4, p5, p6⟩ := (HV.out.below (hbel.mono (Nat.le_of_lt zW))).item k hlt
      have l1 : b1 < wr.heap.size := by have := hbel.size; omega
      have HC := hide (fun (U : World) (b : Below wr.heap.size wr U) => rightL_k its[k] U (n + 1) s1 (HT.out.below (trans_v hbel b)) p6.1 ((p5.below (b.mono (by have := hbel.size; omega))).up (by have := hbel.size; have := b.size; omega)))
      have HN := hide (fun (h : rightV its[k] = true) => (show ∀ j (h : j < its.length), j < k + 1 → rightV its[j] = true from fun j hj hjk => by
        by_cases e : j = k
        · subst e; exact h
        · exact hz j hj (by omega)))
      obtain ⟨xx1, yy1, rfl, _⟩ := p5.len
      have HB2 := hide hbel
      clear hz p5 p6 hbel g1
      have hx := HA.out its[k] (List.getElem_mem hlt)
      rw [hx] at HC
      have HX := hide hx
      clear hx
      generalize its[k].items = xi at *
      generalize its[k] = y at *
      · go_wp2_with (go_at_call 56; refine (HC.out _ (alloc_v (Below.refl _ _) _)).mono ?_; clear HC; rintro e w2 ⟨rfl, b2⟩; have B2 := hide b2; clear b2)
        go_roundw
        case rel => exact ⟨k + 1, by omega, by go_num, HN.out HX.out, trans_v HB2.out (trans_v (alloc_v (Below.refl _ _) _) B2.out)⟩
        case measure => simp [intOf]; omega
    · have HB2 := hide hbel
      have HD := hide (fun (U : World) (b : Below W.heap.size W U) => HD0.out U (trans_v bW b))
      clear hz hbel HD0
      go_wp2_with (first
        | (go_at_call 155; refine (HD.out wr HB2.out).mono ?_; clear HD; rintro e w2 ⟨s, sl2, hp, hs, rfl, i2, b2⟩; have HB3 := hide (trans_v HB2.out b2); have f1 := (HB3.out.block _ zW).trans HE1.out; have hsz2 : w.heap.size < w2.heap.size := (by have := HB3.out.size; omega); obtain ⟨a2, c2, rfl, _⟩ := i2.len; have HI2 := hide i2; have HR := hide (rightL_k ⟨7, 0, 0, ⟨#[]⟩, dd likeV s⟩ (w2.alloc (.cells (vcells ⟨7, 0, 0, ⟨#[]⟩, dd likeV s⟩ (.slice a2 (dd likeV s).length c2)) 25)) (n + 2) (.slice a2 (dd likeV s).length c2) (HT.out.below (trans_v HB3.out (alloc_v (Below.refl _ _) _))) (Nat.zero_le _) ((HI2.out.below (alloc_v (Below.refl _ _) _)).up (by simp))); have HC := hide (fun (U : World) (b : Below w2.heap.size w2 U) => copied_k (n + 2) ⟨7, 0, 0, ⟨#[]⟩, dd likeV s⟩ U w2.heap.size (.slice a2 (dd likeV s).length c2) (HSZ.out s hp) b.size (HI2.out.below b)); have F3 := hide (World.alloc_heap_new w2 (.cells (vcells ⟨7, 0, 0, ⟨#[]⟩, dd likeV s⟩ (.slice a2 (dd likeV s).length c2)) 25)); have F1 := hide ((Below.heap_alloc w2 (.cells (vcells ⟨7, 0, 0, ⟨#[]⟩, dd likeV s⟩ (.slice a2 (dd likeV s).length c2)) 25) _ hsz2).trans f1); have HP := hide (And.intro hp hs); clear f1 i2 b2 hp hs; generalize hx : rightV ⟨7, 0, 0, ⟨#[]⟩, dd likeV s⟩ = x at HR; have HX := hide hx; clear hx)
        | (go_at_call 56; refine HR.out.mono ?_; clear HR; rintro e w3 ⟨rfl, b3⟩; have f3 := (b3.block _ (by rw [World.size_alloc]; omega)).trans F3.out; have f1 := (b3.block _ (by rw [World.size_alloc]; omega)).trans F1.out; have G1 := hide f1; have y0 := cells_at f3 0 _ rfl; have y1 := cells_at f3 1 _ rfl; have y2 := cells_at f3 2 _ rfl; have y3 := cells_at f3 3 _ rfl; have y4 := cells_at f3 4 _ rfl; have r0 := cells_at f1 0 _ rfl; have r1 := cells_at f1 1 _ rfl; have r2 := cells_at f1 2 _ rfl; have r3 := cells_at f1 3 _ rfl; have r4 := cells_at f1 4 _ rfl; have q0 := frozen_at f1 0; have q1 := frozen_at f1 1; have q2 := frozen_at f1 2; have q3 := frozen_at f1 3; have q4 := frozen_at f1 4; have B3 := hide b3; clear f3 f1 b3)
        | (go_at_call 58; refine (HC.out _ (trans_v (alloc_v (Below.refl _ _) _) B3.out)).mono ?_; clear HC; rintro e w4 ⟨s4, rfl, i4, b4⟩; obtain ⟨a4, c4, rfl, _⟩ := i4.len; have f4 := (b4.block _ (by have := B3.out.size; rw [World.size_alloc] at this; omega)).trans G1.out; have G4 := hide f4; have s0 := cells_at f4 0 _ rfl; have s1 := cells_at f4 1 _ rfl; have s2 := cells_at f4 2 _ rfl; have s3 := cells_at f4 3 _ rfl; have s4 := cells_at f4 4 _ rfl; have t0 := frozen_at f4 0; have t1 := frozen_at f4 1; have t2 := frozen_at f4 2; have t3 := frozen_at f4 3; have t4 := frozen_at f4 4; have B4 := hide b4; have I4 := hide i4; clear f4 b4 i4))
      · rename_i hn
        have hx := HX.out.trans (show x = false by simpa using hn)
        have b4 := trans_v bW (trans_v HB3.out (trans_v (alloc_v (Below.refl _ _) _) B3.out))
        have g := stored w w3 0 0 0 ⟨#[]⟩ (.slice none 0 0) zcells w.heap.size (Nat.le_refl _) b4 rfl G1.out
        refine bodyPost_ret (results_struct_tmp rfl _ _ w.heap.size _ _ _ _ rfl g.1 Tryz.underlying25 rfl infoVal5) rfl ?_
        exact ⟨s, .slice none 0 0, HP.out.1, HP.out.2, by rw [hx]; rfl, fun h => (by rw [hx] at h; cases h), g.2⟩
      · have hx := HX.out.trans (show x = true by simp_all)
        have b5 := trans_v bW (trans_v HB3.out (trans_v (alloc_v (Below.refl _ _) _) (trans_v B3.out B4.out)))
        have g := stored w w4 7 0 0 ⟨#[]⟩ (.slice a4 (dd likeV s).length c4) zcells w.heap.size (Nat.le_refl _) b5 rfl G4.out
        refine bodyPost_ret (results_struct_tmp rfl _ _ w.heap.size _ _ _ _ rfl g.1 Tryz.underlying25 rfl infoVal5) rfl ?_
        exact ⟨s, .slice a4 (dd likeV s).length c4, HP.out.1, HP.out.2, by rw [hx]; rfl, fun _ => I4.out.kept (fun b o hb => stored_cell _ _ _ _ _ _ _ _ _ (by have := hb.1; have := B3.out.size; rw [World.size_alloc] at this; omega)) (fun b hb => ⟨by have := hb.1; have := B3.out.size; rw [World.size_alloc] at this; omega, by simpa using hb.2⟩), g.2⟩
set_option maxRecDepth 100000 in
theorem setAL_k (its : List Vl) (w : World) (n : Nat) (sl : Value) (hT : TabL w) (hi : ItemsAt w w.heap.size (n + 2) sl its) (hl : its.length ≤ 1000000000) (ha : ∀ x ∈ its, rightV x = true) (hsz : ∀ s : List Vl, s.Perm its → (⟨7, 0, 0, ⟨#[]⟩, dd likeV s⟩ : Vl).size ≤ 1000000000) :
    Calls Tryz.prog 46 #[sl] w fun e w' => ∃ s s', s.Perm its ∧ s.Pairwise (fun x y => ordV x y ≤ 0) ∧ e = .returned (.tuple #[.agg (bif rightV ⟨7, 0, 0, ⟨#[]⟩, (dd likeV s)⟩ then vcells ⟨7, 0, 0, ⟨#[]⟩, (dd likeV s)⟩ s' else zcells), .int .i64 (bif rightV ⟨7, 0, 0, ⟨#[]⟩, (dd likeV s)⟩ then 0 else 42)]) ∧ (rightV ⟨7, 0, 0, ⟨#[]⟩, (dd likeV s)⟩ = true → ItemsIn w' (fun b => w.heap.size < b ∧ b < w'.heap.size) (n + 2) s' (dd likeV s)) ∧ Below w.heap.size w w' := by
  obtain ⟨W, hW⟩ : ∃ W, w.alloc (.cells zcells 25) = W := ⟨_, rfl⟩
  have bW : Below w.heap.size w W := by rw [← hW]; exact alloc_v (Below.refl _ _) _
  have e1 : W.heap[w.heap.size]? = some (.cells zcells 25 (0, 0)) := by rw [← hW]; exact World.alloc_heap_new w _
  have zW : w.heap.size < W.heap.size := (Array.getElem?_eq_some_iff.1 e1).1
  have HE1 := hide e1
  have HG := hide (gatherL_setA its W n sl (hT.below bW) ((hi.below bW).up bW.size) hl ha hsz)
  obtain ⟨a, c, rfl, _⟩ := hi.len
  clear hi hT e1 hl ha hsz
  go_enter Tryz.func46, Tryz.ntmps46
  go_wp2_with (go_at_call 97; refine HG.out.mono ?_; clear HG; rintro e w2 ⟨s, s2, hp, hs, rfl, i2, b2⟩; have I2 := hide i2; clear i2; generalize hx : rightV ⟨7, 0, 0, ⟨#[]⟩, (dd likeV s)⟩ = x at *; have HX := hide hx; clear hx; have f2 := (b2.block _ zW).trans HE1.out; have G := hide f2; have y0 := cells_at f2 0 _ rfl; have y1 := cells_at f2 1 _ rfl; have y2 := cells_at f2 2 _ rfl; have y3 := cells_at f2 3 _ rfl; have y4 := cells_at f2 4 _ rfl; have q0 := frozen_at f2 0; have q1 := frozen_at f2 1; have q2 := frozen_at f2 2; have q3 := frozen_at f2 3; have q4 := frozen_at f2 4; have B2 := hide b2; clear f2 b2; cases x; rotate_left; obtain ⟨a2, c2, rfl, _⟩ := (I2.out rfl).len)
  · have g := stored w w2 7 0 0 ⟨#[]⟩ (.slice a2 (dd likeV s).length c2) zcells w.heap.size (Nat.le_refl _) (trans_v bW B2.out) rfl G.out
    refine bodyPost_ret (results_struct_tmp rfl _ _ w.heap.size _ _ _ _ rfl g.1 Tryz.underlying25 rfl infoVal5) rfl ?_
    exact ⟨s, .slice a2 (dd likeV s).length c2, hp, hs, by rw [HX.out]; rfl, fun _ => (I2.out trivial).kept (fun b o hb => stored_cell _ _ _ _ _ _ _ _ _ (by have := hb.1; omega)) (fun b hb => ⟨by have := hb.1; omega, by simpa using hb.2⟩), g.2⟩
  · have g := stored w w2 0 0 0 ⟨#[]⟩ (.slice none 0 0) zcells w.heap.size (Nat.le_refl _) (trans_v bW B2.out) rfl G.out
    refine bodyPost_ret (results_struct_tmp rfl _ _ w.heap.size _ _ _ _ rfl g.1 Tryz.underlying25 rfl infoVal5) rfl ?_
    exact ⟨s, .slice none 0 0, hp, hs, by rw [HX.out]; rfl, fun h => (by rw [HX.out] at h; cases h), g.2⟩
set_option maxRecDepth 100000 in
theorem encodeCL_k (v : Vl) (w : World) (n : Nat) (sl : Value) (hT : TabL w) (hok : v.ok) (hz : v.size ≤ 1000000000) (hs : ItemsAt w w.heap.size n sl v.items) :
    Calls Tryz.prog 48 #[.agg (vcells v sl)] w fun e w' => ∃ bv, e = .returned (.tuple #[bv, .int .i64 (bif rightV v then 0 else 40)]) ∧ RowB w w.heap.size none w' bv (bif rightV v then encV v else []) := by
  have hl := enc_short hs hok
  obtain ⟨W, hW⟩ : ∃ W, w.alloc (.cells (vcells v sl) 25) = W := ⟨_, rfl⟩
  have bW : Below w.heap.size w W := by rw [← hW]; exact alloc_v (Below.refl _ _) _
  have e1 : W.heap[w.heap.size]? = some (.cells (vcells v sl) 25 (0, 0)) := by rw [← hW]; exact World.alloc_heap_new w _
  have x0 := cells_at e1 0 _ rfl
  have x1 := cells_at e1 1 _ rfl
  have x2 := cells_at e1 2 _ rfl
  have x3 := cells_at e1 3 _ rfl
  have x4 := cells_at e1 4 _ rfl
  have zW : w.heap.size < W.heap.size := (Array.getElem?_eq_some_iff.1 e1).1
  have HR := hide (rightL_k v W n sl (hT.below bW) hok.1 ((hs.below bW).up bW.size))
  have HE := hide (fun (h : rightV v = true) (U : World) (b : Below W.heap.size W U) => enc_k n v U w.heap.size w.heap.size sl (.slice none 0 0) [] (form_right h) hok hz (Nat.le_refl _) (trans_v bW b).size (hs.below (trans_v bW b)) (World.ownsRow_nil _ _ _ _) (by simpa using hl h))
  obtain ⟨a, c, rfl, _⟩ := hs.len
  clear hs e1 hT
  cases hx : rightV v
  · rw [hx] at HR
    go_enter Tryz.func48, Tryz.ntmps48
    go_wp2_with (go_at_call 56; refine HR.out.mono ?_; clear HR; rintro e w2 ⟨rfl, b2⟩)
    go_ret2
    exact ⟨_, rfl, RowB.below (rowNil w) (trans_v bW b2)⟩
  · rw [hx] at HR
    have HE := hide (HE.out hx)
    clear hx
    go_enter Tryz.func48, Tryz.ntmps48
    go_wp2_with (first
      | (go_at_call 56; refine HR.out.mono ?_; clear HR; rintro e w2 ⟨rfl, b2⟩; have hc := (bcellV b2).1)
      | (go_at_call 99; refine (HE.out _ b2).mono ?_; clear HE; rintro e w3 ⟨bv, rfl, r3⟩))
    go_ret2
    exact ⟨_, rfl, RowB.more (RowB.below (rowNil w) (trans_v bW b2)) r3⟩
/-- Set of right items. -/
theorem setR_k (its : List Vl) (w : World) (n : Nat) (sl : Value) (hT : TabL w) (hi : ItemsAt w w.heap.size (n + 2) sl its) (hl : its.length ≤ 1000000000) (ha : ∀ x ∈ its, rightV x = true) (hsz : (⟨7, 0, 0, ⟨#[]⟩, its⟩ : Vl).size ≤ 1000000000) :
    Calls Tryz.prog 46 #[sl] w fun e w' => ∃ s', e = .returned (.tuple #[.agg (bif rightV ⟨7, 0, 0, ⟨#[]⟩, setV its⟩ then vcells ⟨7, 0, 0, ⟨#[]⟩, setV its⟩ s' else zcells), .int .i64 (bif rightV ⟨7, 0, 0, ⟨#[]⟩, setV its⟩ then 0 else 42)]) ∧ (rightV ⟨7, 0, 0, ⟨#[]⟩, setV its⟩ = true → ItemsIn w' (fun b => w.heap.size < b ∧ b < w'.heap.size) (n + 2) s' (setV its)) ∧ Below w.heap.size w w' := by
  refine (setAL_k its w n sl hT hi hl ha fun s hp => Nat.le_trans (set_size (k := 7) hp) hsz).mono fun e w' h => ?_
  obtain ⟨s, s', hp, hs, h1, h2, h3⟩ := h
  rw [dd_set hp hs] at h1 h2
  exact ⟨s', h1, h2, h3⟩
/-- The bytes of a right value, as a text. -/
def bytesT (v : Vl) : ByteArray := ⟨(encV v).toArray⟩
theorem bytesOf_k (v : Vl) (w : World) (n : Nat) (sl : Value) (hT : TabL w) (hok : v.ok) (hz : v.size ≤ 1000000000) (hr : rightV v = true) (hs : ItemsAt w w.heap.size n sl v.items) :
    Calls Tryz.prog 198 #[.agg (vcells v sl)] w fun e w' => e = .returned (.string (bytesT v)) ∧ Below w.heap.size w w' := by
  obtain ⟨W, hW⟩ : ∃ W, w.alloc (.cells (vcells v sl) 25) = W := ⟨_, rfl⟩
  have bW : Below w.heap.size w W := by rw [← hW]; exact alloc_v (Below.refl _ _) _
  have e1 : W.heap[w.heap.size]? = some (.cells (vcells v sl) 25 (0, 0)) := by rw [← hW]; exact World.alloc_heap_new w _
  have x0 := cells_at e1 0 _ rfl
  have x1 := cells_at e1 1 _ rfl
  have x2 := cells_at e1 2 _ rfl
  have x3 := cells_at e1 3 _ rfl
  have x4 := cells_at e1 4 _ rfl
  have HE := hide (encodeCL_k v W n sl (hT.below bW) hok hz ((hs.below bW).up bW.size))
  rw [hr] at HE
  simp only [cond_true] at HE
  have hbt : (⟨⟨encV v⟩⟩ : ByteArray) = bytesT v := rfl
  have HBT := hide hbt
  obtain ⟨a, c, rfl, _⟩ := hs.len
  clear hs e1 hT hbt
  generalize encV v = bs at *
  generalize bytesT v = bt at *
  go_enter Tryz.func198, Tryz.ntmps198
  go_wp2_with (go_at_call 48; refine HE.out.mono ?_; clear HE; rintro e w2 ⟨bv, rfl, R2⟩; have B2 : Below W.heap.size W w2 := ⟨R2.gr.os, R2.gr.tape, R2.gr.output, R2.gr.size, fun k hk => R2.gr.block k hk (by simp)⟩; have hcb := conv_bytes (ownsRow_bytes R2.row).2.plain; have HV := hide (show ∃ ba bc, bv = .slice ba bs.length bc from by (rcases R2.row.2 with ⟨hv, h0⟩ | ⟨g, cap, cur, hv, _⟩; (exact ⟨none, 0, by rw [hv, h0]⟩); (exact ⟨_, _, hv⟩))); obtain ⟨ba, bc, rfl⟩ := HV.out; clear R2 HV)
  go_ret
  exact ⟨by rw [← HBT.out]; rfl, trans_v bW B2⟩
end Go.Proofs.YtgglommnipbagaaGreatDoor

/- arith's same: whether two values are one. -/
namespace Go.Proofs.YtgglommnipbagaaGreatDoor
open Go.RowKit

/-- What same answers of two values, wherever they lie. -/
def SameC (n : Nat) : Prop := ∀ (a b : Vl) (w : World) (B m : Nat) (sa sb : Value), B ≤ w.heap.size → ItemsAt w B n sa a.items → ItemsAt w B m sb b.items →
  Calls Tryz.prog 115 #[.agg (vcells a sa), .agg (vcells b sb)] w fun e w' => e = .returned (.bool (decide (ordV a b = 0))) ∧ Below w.heap.size w w'
theorem equalFunc_no (l r : List Vl) (aa ab : Option Addr) (ca cb : Nat) (f : Value) (w : World) (hl : l.length ≠ r.length) :
    Calls Tryz.prog 196 #[.slice aa l.length ca, .slice ab r.length cb, f] w fun e w' => e = .returned (.bool false) ∧ w = w' := by
  have hlb : ((l.length : Int) != (r.length : Int)) = true := by simp; omega
  clear hl
  go_enter Tryz.func196, Tryz.ntmps196
  go_wp2
  go_ret
  exact ⟨rfl, rfl⟩
set_option maxRecDepth 100000 in
set_option maxHeartbeats 1000000 in
theorem equalFunc_k {n : Nat} (hO : SameC n) (l r : List Vl) (w : World) (B m : Nat) (sa sb : Value) (hB : B ≤ w.heap.size) (ha : ItemsAt w B (n + 1) sa l) (hb : ItemsAt w B m sb r) (hl : l.length = r.length) :
    Calls Tryz.prog 196 #[sa, sb, .func (.func 115) #[] #[]] w fun e w' => e = .returned (.bool (decide (ordL l r = 0))) ∧ Below w.heap.size w w' := by
  obtain ⟨m, rfl⟩ := hb.pos
  have HA := hide ha
  have HB := hide hb
  have HO := hide hO
  obtain ⟨aa, ca, rfl, hla⟩ := ha.len
  obtain ⟨ab, cb, rfl, hlb⟩ := hb.len
  unfold maxLen at hla hlb
  have HL := hide hl
  have hlb : ((l.length : Int) != (r.length : Int)) = false := by simp; omega
  clear ha hb hO hl
  go_enter Tryz.func196, Tryz.ntmps196
  go_wp2
  clear hlb
  go_loopw [7, 8, 9, 17] (fun _ _ _ i wr => ∃ k : Nat, k ≤ l.length ∧ i = .int .i64 k ∧ ordL (l.take k) (r.take k) = 0 ∧ Below w.heap.size w wr) (fun _ _ _ i _ => l.length - (intOf i).toNat)
  case atStart => exact ⟨0, Nat.zero_le _, rfl, ordL_nil _, Below.refl _ _⟩
  case round =>
    obtain ⟨k, hk, rfl, hz, hbel⟩ := hrel
    by_cases hlt : k < l.length
    · have hlr : k < r.length := by have := HL.out; omega
      obtain ⟨b1, o1, s1, rfl, g1, p0, p1, p2, p3, p4, p5, _⟩ := (HA.out.below (hbel.mono hB)).item k hlt
      obtain ⟨b2, o2, s2, rfl, g2, q0, q1, q2, q3, q4, q5, _⟩ := (HB.out.below (hbel.mono hB)).item k hlr
      have l1 : b1 < wr.heap.size := by have := hbel.size; omega
      have l2 : b2 < wr.heap.size := by have := hbel.size; omega
      clear g1 g2
      have HZ := hide (fun (h : ordV l[k] r[k] = 0) => (ordL_take hlt hlr hz).trans h)
      have HN := hide (fun (h : ordV l[k] r[k] ≠ 0) => (ordL_part (k := k + 1) (l := l) (r := r) (by rw [ordL_take hlt hlr hz]; exact h)).trans (ordL_take hlt hlr hz))
      have HC := hide (fun (W : World) (hW : Below wr.heap.size wr W) => HO.out l[k] r[k] W B m s1 s2 (by have := hbel.size; have := hW.size; omega) (p5.below (hW.mono (by have := hbel.size; omega))) (q5.below (hW.mono (by have := hbel.size; omega))))
      have HB2 := hide hbel
      have hk0 : (0 : Int) ≤ (k : Int) := by omega
      have hk1 : (k : Int) < (l.length : Int) := by omega
      have hk2 : (k : Int) < (r.length : Int) := by omega
      obtain ⟨x1, y1, rfl, _⟩ := p5.len
      obtain ⟨x2, y2, rfl, _⟩ := q5.len
      clear hz p5 q5 hbel
      generalize l[k].items = xi at *
      generalize r[k].items = yi at *
      generalize l[k] = x at *
      generalize r[k] = y at *
      obtain ⟨bb, hbb⟩ : ∃ bb, decide (ordV x y = 0) = bb := ⟨_, rfl⟩
      rw [hbb] at HC
      have HBB := hide hbb
      clear hbb
      cases bb
      · go_wp2_with (go_at_call 115; refine (HC.out _ (((Below.refl _ _).alloc (Nat.le_refl _) _).alloc (by simp) _)).mono ?_; clear HC; rintro e w2 ⟨rfl, b2⟩; have B2 := hide b2; clear b2)
        go_ret
        exact ⟨by rw [HN.out (of_decide_eq_false HBB.out), HBB.out]; rfl, trans_v (alloc_v (alloc_v HB2.out _) _) B2.out⟩
      · go_wp2_with (go_at_call 115; refine (HC.out _ (((Below.refl _ _).alloc (Nat.le_refl _) _).alloc (by simp) _)).mono ?_; clear HC; rintro e w2 ⟨rfl, b2⟩; have B2 := hide b2; clear b2)
        go_roundw
        case rel => exact ⟨k + 1, by omega, by go_num, HZ.out (of_decide_eq_true HBB.out), trans_v (alloc_v (alloc_v HB2.out _) _) B2.out⟩
        case measure => simp [intOf]; omega
    · rw [List.take_of_length_le (by omega), List.take_of_length_le (by have := HL.out; omega)] at hz
      have HZ := hide hz
      clear hz
      go_wp2
      go_ret
      exact ⟨by rw [HZ.out]; rfl, hbel⟩
set_option maxRecDepth 100000 in
set_option maxHeartbeats 2000000 in
theorem same_step {n : Nat} (hO : SameC n) : SameC (n + 1) := by
  intro a b w B m sa sb hB ha hb
  obtain ⟨m, rfl⟩ := hb.pos
  obtain ⟨W, hW⟩ : ∃ W, (w.alloc (.cells (vcells a sa) 25)).alloc (.cells (vcells b sb) 25) = W := ⟨_, rfl⟩
  have bW : Below w.heap.size w W := by rw [← hW]; exact alloc_v (alloc_v (Below.refl _ _) _) _
  have e1 : W.heap[w.heap.size]? = some (.cells (vcells a sa) 25 (0, 0)) := by rw [← hW]; exact (Below.heap_alloc _ _ _ (by simp)).trans (World.alloc_heap_new w _)
  have e2 : W.heap[w.heap.size + 1]? = some (.cells (vcells b sb) 25 (0, 0)) := by rw [← hW]; have := World.alloc_heap_new (w.alloc (.cells (vcells a sa) 25)) (.cells (vcells b sb) 25); rwa [World.size_alloc] at this
  have x0 := cells_at e1 0 _ rfl
  have x1 := cells_at e1 1 _ rfl
  have x2 := cells_at e1 2 _ rfl
  have x3 := cells_at e1 3 _ rfl
  have x4 := cells_at e1 4 _ rfl
  have y0 := cells_at e2 0 _ rfl
  have y1 := cells_at e2 1 _ rfl
  have y2 := cells_at e2 2 _ rfl
  have y3 := cells_at e2 3 _ rfl
  have y4 := cells_at e2 4 _ rfl
  have HE := hide (ordV_is a b)
  have hBW : B ≤ W.heap.size := by have := bW.size; omega
  have HQ := hide (fun (hl : a.items.length = b.items.length) => equalFunc_k hO a.items b.items W B (m + 1) sa sb hBW (ha.below (bW.mono hB)) (hb.below (bW.mono hB)) hl)
  obtain ⟨aa, ca, rfl, hla⟩ := ha.len
  obtain ⟨ab, cb, rfl, hlb⟩ := hb.len
  have HQN := hide (fun (hl : a.items.length ≠ b.items.length) => equalFunc_no a.items b.items aa ab ca cb (.func (.func 115) #[] #[]) W hl)
  clear e1 e2 ha hb hO
  obtain ⟨k1, i1, m1, t1, l1⟩ := a
  obtain ⟨k2, i2, m2, t2, l2⟩ := b
  simp only at *
  by_cases hk : k1 = k2
  case neg =>
    have hkb : (k1 == k2) = false := by simp [hk]
    go_enter Tryz.func115, Tryz.ntmps115
    go_wp2
    go_ret
    exact ⟨by rw [HE.out, orI_cons, if_neg (cmpI_ne hk), decide_eq_false (cmpI_ne hk)]; rfl, bW⟩
  case pos =>
    subst hk
    rw [orI_cons, if_pos (cmpI_self _)] at HE
    by_cases hi : i1 = i2
    case neg =>
      have hib : (i1 == i2) = false := by simp [hi]
      go_enter Tryz.func115, Tryz.ntmps115
      go_wp2
      go_ret
      exact ⟨by rw [HE.out, orI_cons, if_neg (cmpI_ne hi), decide_eq_false (cmpI_ne hi)]; rfl, bW⟩
    case pos =>
      subst hi
      rw [orI_cons, if_pos (cmpI_self _)] at HE
      by_cases hm : m1 = m2
      case neg =>
        have hmb : (m1 == m2) = false := by simp [hm]
        go_enter Tryz.func115, Tryz.ntmps115
        go_wp2
        go_ret
        exact ⟨by rw [HE.out, orI_cons, if_neg (cmpI_ne hm), decide_eq_false (cmpI_ne hm)]; rfl, bW⟩
      case pos =>
        subst hm
        rw [orI_cons, if_pos (cmpI_self _)] at HE
        cases ht : (t1.toList == t2.toList)
        case false =>
          have HN := hide (cmpS_ne ht)
          go_enter Tryz.func115, Tryz.ntmps115
          go_wp2
          go_ret
          exact ⟨by rw [HE.out, orI_cons, if_neg HN.out, decide_eq_false HN.out]; rfl, bW⟩
        case true =>
          rw [orI_cons, if_pos (cmpS_eq ht)] at HE
          by_cases hl : l1.length = l2.length
          case neg =>
            have HI : Hid (ordI l1 l2 = cmpI l1.length l2.length) := by unfold ordI; rw [if_neg (cmpI_ne (by omega))]; rfl
            have HN := hide (cmpI_ne (a := l1.length) (b := l2.length) (by omega))
            have HQ2 := hide (HQN.out hl)
            clear HQ HQN hl
            go_enter Tryz.func115, Tryz.ntmps115
            go_wp2_with (go_at_call 196; refine HQ2.out.mono ?_; clear HQ2; rintro e wq ⟨rfl, rfl⟩)
            go_ret
            exact ⟨by rw [HE.out, orI_cons, HI.out, if_neg HN.out, decide_eq_false HN.out]; rfl, bW⟩
          case pos =>
            have HI : Hid (ordV ⟨k1, i1, m1, t1, l1⟩ ⟨k1, i1, m1, t2, l2⟩ = ordL l1 l2) := by
              refine HE.out.trans ?_
              unfold ordI
              rw [hl, cmpI_self, if_pos rfl, orI_cons]
              split
              · rename_i e; rw [e]; rfl
              · rfl
            have HQ2 := hide (HQ.out hl)
            clear HQ HQN hl HE
            generalize hbb : decide (ordL l1 l2 = 0) = bb at *
            have HBB := hide hbb
            clear hbb
            go_enter Tryz.func115, Tryz.ntmps115
            go_wp2_with (go_at_call 196; refine HQ2.out.mono ?_; clear HQ2; rintro e w2 ⟨rfl, b2⟩)
            go_ret
            exact ⟨by rw [HI.out, HBB.out]; rfl, trans_v bW b2⟩
theorem same_k : ∀ n, SameC n
  | 0 => fun _ _ _ _ _ _ _ _ h _ => h.elim
  | n + 1 => same_step (same_k n)
end Go.Proofs.YtgglommnipbagaaGreatDoor

/- Whether a value is in a row. -/
namespace Go.Proofs.YtgglommnipbagaaGreatDoor
open Go.RowKit

def hasV (l : List Vl) (v : Vl) : Bool := l.any (fun x => decide (ordV x v = 0))
theorem hasV_mem {l : List Vl} {v : Vl} : hasV l v = true ↔ v ∈ l := by
  unfold hasV
  rw [List.any_eq_true]
  constructor
  · rintro ⟨x, hx, h⟩
    rw [← ordV_zero (of_decide_eq_true h)]
    exact hx
  · exact fun h => ⟨v, h, decide_eq_true (ordV_self v)⟩
theorem within1_k (x v : Vl) (w : World) (B n m vb : Nat) (s sv : Value) (hv : w.heap[vb]? = some (.cells (vcells v sv) 25 (0, 0))) (hB : B ≤ w.heap.size) (hx : ItemsAt w B n s x.items) (hi : ItemsAt w B m sv v.items) :
    Calls Tryz.prog 114 #[.agg (vcells x s), .pointer (some ⟨vb, 0, none⟩)] w fun e w' => e = .returned (.bool (decide (ordV x v = 0))) ∧ Below w.heap.size w w' := by
  obtain ⟨W, hW⟩ : ∃ W, w.alloc (.cells (vcells x s) 25) = W := ⟨_, rfl⟩
  have bW : Below w.heap.size w W := by rw [← hW]; exact alloc_v (Below.refl _ _) _
  have e1 : W.heap[w.heap.size]? = some (.cells (vcells x s) 25 (0, 0)) := by rw [← hW]; exact World.alloc_heap_new w _
  have e2 := (bW.block vb (Array.getElem?_eq_some_iff.1 hv).1).trans hv
  have x0 := cells_at e1 0 _ rfl
  have x1 := cells_at e1 1 _ rfl
  have x2 := cells_at e1 2 _ rfl
  have x3 := cells_at e1 3 _ rfl
  have x4 := cells_at e1 4 _ rfl
  have y0 := cells_at e2 0 _ rfl
  have y1 := cells_at e2 1 _ rfl
  have y2 := cells_at e2 2 _ rfl
  have y3 := cells_at e2 3 _ rfl
  have y4 := cells_at e2 4 _ rfl
  have HS := hide (same_k n x v W B m s sv (by have := bW.size; omega) (hx.below (bW.mono hB)) (hi.below (bW.mono hB)))
  obtain ⟨a1, c1, rfl, _⟩ := hx.len
  obtain ⟨a2, c2, rfl, _⟩ := hi.len
  clear e1 e2 hv hx hi
  go_enter Tryz.func114, Tryz.ntmps114
  go_wp2_with (go_at_call 115; refine HS.out.mono ?_; clear HS; rintro e w2 ⟨rfl, b2⟩)
  go_ret
  exact ⟨rfl, trans_v bW b2⟩
set_option maxRecDepth 100000 in
set_option maxHeartbeats 1000000 in
theorem indexFunc_k (l : List Vl) (v : Vl) (w : World) (B n m vb : Nat) (sl sv : Value) (hv : w.heap[vb]? = some (.cells (vcells v sv) 25 (0, 0))) (hB : B ≤ w.heap.size) (hl : ItemsAt w B (n + 1) sl l) (hi : ItemsAt w B m sv v.items) :
    Calls Tryz.prog 195 #[sl, .func (.func 114) #[] #[.pointer (some ⟨vb, 0, none⟩)]] w fun e w' => ∃ r : Int, e = .returned (.int .i64 r) ∧ decide (r ≥ 0) = hasV l v ∧ Below w.heap.size w w' := by
  have HA := hide hl
  have HI := hide hi
  have HV := hide hv
  obtain ⟨a, c, rfl, hla⟩ := hl.len
  unfold maxLen at hla
  clear hl hi hv
  go_enter Tryz.func195, Tryz.ntmps195
  go_wp2
  go_loopw [5, 8] (fun _ i wr => ∃ k : Nat, k ≤ l.length ∧ i = .int .i64 k ∧ hasV (l.take k) v = false ∧ Below w.heap.size w wr) (fun _ i _ => l.length - (intOf i).toNat)
  case atStart => exact ⟨0, Nat.zero_le _, rfl, rfl, Below.refl _ _⟩
  case round =>
    obtain ⟨k, hk, rfl, hz, hbel⟩ := hrel
    by_cases hlt : k < l.length
    · obtain ⟨b1, o1, s1, rfl, g1, p0, p1, p2, p3, p4, p5, _⟩ := (HA.out.below (hbel.mono hB)).item k hlt
      have l1 : b1 < wr.heap.size := by have := hbel.size; omega
      have HC := hide (within1_k l[k] v wr B n m vb s1 sv ((hbel.block vb (Array.getElem?_eq_some_iff.1 HV.out).1).trans HV.out) (by have := hbel.size; omega) p5 (HI.out.below (hbel.mono hB)))
      have HZ := hide (fun (h : decide (ordV l[k] v = 0) = false) => (show hasV (l.take (k + 1)) v = false from by
        unfold hasV at hz ⊢
        rw [List.take_succ_eq_append_getElem hlt, List.any_append, hz]
        simpa using h))
      have HY := hide (fun (h : decide (ordV l[k] v = 0) = true) => (show hasV l v = true from List.any_eq_true.2 ⟨_, List.getElem_mem hlt, h⟩))
      have hk0 : (0 : Int) ≤ (k : Int) := by omega
      have hk1 : (k : Int) < (l.length : Int) := by omega
      have HB2 := hide hbel
      obtain ⟨x1, y1, rfl, _⟩ := p5.len
      clear hz p5 hbel g1
      generalize l[k].items = xi at *
      generalize l[k] = x at *
      generalize decide (ordV x v = 0) = bb at *
      cases bb
      · go_wp2_with (go_at_call 114; refine HC.out.mono ?_; clear HC; rintro e w2 ⟨rfl, b2⟩; have B2 := hide b2; clear b2)
        go_roundw
        case rel => exact ⟨k + 1, by omega, by go_num, HZ.out trivial, trans_v HB2.out B2.out⟩
        case measure => simp [intOf]; omega
      · go_wp2_with (go_at_call 114; refine HC.out.mono ?_; clear HC; rintro e w2 ⟨rfl, b2⟩; have B2 := hide b2; clear b2)
        go_ret
        exact ⟨k, rfl, by rw [HY.out trivial]; exact decide_eq_true (by omega), trans_v HB2.out B2.out⟩
    · rw [List.take_of_length_le (by omega)] at hz
      have HZ := hide hz
      clear hz
      go_wp2
      go_ret
      exact ⟨-1, rfl, by rw [HZ.out]; rfl, hbel⟩
theorem containsFunc_k (l : List Vl) (v : Vl) (w : World) (B n m vb : Nat) (sl sv : Value) (hv : w.heap[vb]? = some (.cells (vcells v sv) 25 (0, 0))) (hB : B ≤ w.heap.size) (hl : ItemsAt w B (n + 1) sl l) (hi : ItemsAt w B m sv v.items) :
    Calls Tryz.prog 113 #[sl, .func (.func 114) #[] #[.pointer (some ⟨vb, 0, none⟩)]] w fun e w' => e = .returned (.bool (hasV l v)) ∧ Below w.heap.size w w' := by
  have HI := hide (indexFunc_k l v w B n m vb sl sv hv hB hl hi)
  obtain ⟨a, c, rfl, _⟩ := hl.len
  clear hv hl hi
  go_enter Tryz.func113, Tryz.ntmps113
  go_wp2_with (go_at_call 195; refine HI.out.mono ?_; clear HI; rintro e w2 ⟨r, rfl, hr, b2⟩; have HR := hide hr; clear hr)
  go_ret
  exact ⟨by rw [← HR.out]; rfl, b2⟩
set_option maxRecDepth 100000 in
set_option maxHeartbeats 1000000 in
theorem within_in (v row : Vl) (w : World) (n m : Nat) (sv sl : Value) (hk : row.kind = 6 ∨ row.kind = 7) (hi : ItemsAt w w.heap.size m sv v.items) (hl : ItemsAt w w.heap.size (n + 1) sl row.items) :
    Calls Tryz.prog 67 #[.agg (vcells v sv), .agg (vcells row sl)] w fun e w' => e = .returned (.tuple #[.agg (vcells ⟨1, bif hasV row.items v then 1 else 0, 0, ⟨#[]⟩, []⟩ (.slice none 0 0)), .int .i64 0]) ∧ Below w.heap.size w w' := by
  obtain ⟨W, hW⟩ : ∃ W, ((w.alloc (.cells (vcells v sv) 25)).alloc (.cells (vcells row sl) 25)).alloc (.cells zcells 25) = W := ⟨_, rfl⟩
  have bW : Below w.heap.size w W := by rw [← hW]; exact alloc_v (two_below _ _ _) _
  have e1 : W.heap[w.heap.size]? = some (.cells (vcells v sv) 25 (0, 0)) := by rw [← hW]; exact three_first _ _ _ _
  have e2 : W.heap[w.heap.size + 1]? = some (.cells (vcells row sl) 25 (0, 0)) := by rw [← hW]; exact three_second _ _ _ _
  have e3 : W.heap[w.heap.size + 2]? = some (.cells zcells 25 (0, 0)) := by rw [← hW]; exact three_third _ _ _ _
  have zW : w.heap.size + 2 < W.heap.size := (Array.getElem?_eq_some_iff.1 e3).1
  have y0 := cells_at e2 0 _ rfl
  have y1 := cells_at e2 1 _ rfl
  have y2 := cells_at e2 2 _ rfl
  have y3 := cells_at e2 3 _ rfl
  have y4 := cells_at e2 4 _ rfl
  have E3 := hide e3
  have HC := hide (containsFunc_k row.items v W w.heap.size n m w.heap.size sl sv e1 bW.size (hl.below bW) (hi.below bW))
  obtain ⟨a1, c1, rfl, _⟩ := hl.len
  obtain ⟨a2, c2, rfl, _⟩ := hi.len
  have hmf : ∀ (fn : Fn) (first cap : Array Value) (w : World), (Instr.makeFunc fn first cap).run Tryz.prog w = .ok (.func fn first cap) w := fun _ _ _ _ => rfl
  clear e1 e2 e3 hl hi
  obtain ⟨rk, ri, rm, rt, rl⟩ := row
  simp only at *
  generalize hasV rl v = bb at *
  have HB := hide (fun (U : World) => bool_k bb U)
  generalize (bif bb then (1 : Int) else 0) = z at *
  rcases hk with rfl | rfl
  · go_enter Tryz.func67, Tryz.ntmps67
    go_wp2_with (first
      | (go_at_call 113; refine HC.out.mono ?_; clear HC; rintro e w2 ⟨rfl, b2⟩)
      | (go_at_call 16; refine (HB.out _).mono ?_; clear HB; rintro e w3 ⟨rfl, b3⟩; have b4 := trans_v b2 b3; have f3 := (b4.block _ zW).trans E3.out; have F3 := hide f3; have z0 := cells_at f3 0 _ rfl; have z1 := cells_at f3 1 _ rfl; have z2 := cells_at f3 2 _ rfl; have z3 := cells_at f3 3 _ rfl; have z4 := cells_at f3 4 _ rfl; have q0 := frozen_at f3 0; have q1 := frozen_at f3 1; have q2 := frozen_at f3 2; have q3 := frozen_at f3 3; have q4 := frozen_at f3 4; clear f3))
    have g := stored w w3 1 z 0 ⟨#[]⟩ (.slice none 0 0) zcells (w.heap.size + 2) (by omega) (trans_v bW b4) rfl F3.out
    refine bodyPost_ret (results_struct_tmp rfl _ _ (w.heap.size + 2) _ _ _ _ rfl g.1 Tryz.underlying25 rfl infoVal5) rfl ?_
    exact ⟨rfl, g.2⟩
  · go_enter Tryz.func67, Tryz.ntmps67
    go_wp2_with (first
      | (go_at_call 113; refine HC.out.mono ?_; clear HC; rintro e w2 ⟨rfl, b2⟩)
      | (go_at_call 16; refine (HB.out _).mono ?_; clear HB; rintro e w3 ⟨rfl, b3⟩; have b4 := trans_v b2 b3; have f3 := (b4.block _ zW).trans E3.out; have F3 := hide f3; have z0 := cells_at f3 0 _ rfl; have z1 := cells_at f3 1 _ rfl; have z2 := cells_at f3 2 _ rfl; have z3 := cells_at f3 3 _ rfl; have z4 := cells_at f3 4 _ rfl; have q0 := frozen_at f3 0; have q1 := frozen_at f3 1; have q2 := frozen_at f3 2; have q3 := frozen_at f3 3; have q4 := frozen_at f3 4; clear f3))
    have g := stored w w3 1 z 0 ⟨#[]⟩ (.slice none 0 0) zcells (w.heap.size + 2) (by omega) (trans_v bW b4) rfl F3.out
    refine bodyPost_ret (results_struct_tmp rfl _ _ (w.heap.size + 2) _ _ _ _ rfl g.1 Tryz.underlying25 rfl infoVal5) rfl ?_
    exact ⟨rfl, g.2⟩
set_option maxRecDepth 100000 in
set_option maxHeartbeats 2000000 in
theorem binIn_k (a b : Vl) (w : World) (n : Nat) (sa sb : Value) (hT : TabL w) (oa : a.ok) (ob : b.ok) (ha : ItemsAt w w.heap.size (n + 1) sa a.items) (hb : ItemsAt w w.heap.size (n + 1) sb b.items) (kb : b.kind = 6 ∨ b.kind = 7) (ra : rightV a = true) (rb : rightV b = true) :
    Calls Tryz.prog 26 #[.string ⟨#[105, 110]⟩, .agg (vcells a sa), .agg (vcells b sb)] w fun e w' => e = .returned (.tuple #[.agg (vcells ⟨1, bif hasV b.items a then 1 else 0, 0, ⟨#[]⟩, []⟩ (.slice none 0 0)), .int .i64 0]) ∧ Below w.heap.size w w' := by
  obtain ⟨W, hW⟩ : ∃ W, ((w.alloc (.cells (vcells a sa) 25)).alloc (.cells (vcells b sb) 25)).alloc (.cells zcells 25) = W := ⟨_, rfl⟩
  have bW : Below w.heap.size w W := by rw [← hW]; exact alloc_v (two_below _ _ _) _
  have e1 : W.heap[w.heap.size]? = some (.cells (vcells a sa) 25 (0, 0)) := by rw [← hW]; exact three_first _ _ _ _
  have e2 : W.heap[w.heap.size + 1]? = some (.cells (vcells b sb) 25 (0, 0)) := by rw [← hW]; exact three_second _ _ _ _
  have e3 : W.heap[w.heap.size + 2]? = some (.cells zcells 25 (0, 0)) := by rw [← hW]; exact three_third _ _ _ _
  have zW : w.heap.size + 2 < W.heap.size := (Array.getElem?_eq_some_iff.1 e3).1
  have x0 := cells_at e1 0 _ rfl
  have x1 := cells_at e1 1 _ rfl
  have x2 := cells_at e1 2 _ rfl
  have x3 := cells_at e1 3 _ rfl
  have x4 := cells_at e1 4 _ rfl
  have r0 := cells_at e2 0 _ rfl
  have r1 := cells_at e2 1 _ rfl
  have r2 := cells_at e2 2 _ rfl
  have r3 := cells_at e2 3 _ rfl
  have r4 := cells_at e2 4 _ rfl
  have E1 := hide e1
  have E2 := hide e2
  have E3 := hide e3
  have HR := hide (aright_k [a, b] (W.alloc (.cells #[.int .i64 a.kind, .int .i64 a.int, .int .i64 a.im, .string a.text, sa, .int .i64 b.kind, .int .i64 b.int, .int .i64 b.im, .string b.text, sb] 25)) (n + 1) (.slice (some ⟨W.heap.size, 0, none⟩) 2 2) (hT.below (alloc_v bW _)) ((items_two ((ha.below bW).up bW.size).more ((hb.below bW).up bW.size).more oa ob).up (by simp)))
  have hall : [a, b].all rightV = (rightV a && rightV b) := by simp
  rw [hall] at HR
  have HI := hide (fun (U : World) (u : Below W.heap.size W U) => within_in a b U n (n + 1) sa sb kb ((ha.below (trans_v bW u)).up (trans_v bW u).size) ((hb.below (trans_v bW u)).up (trans_v bW u).size))
  obtain ⟨a1, c1, rfl, _⟩ := ha.len
  obtain ⟨a2, c2, rfl, _⟩ := hb.len
  clear ha hb e1 e2 e3 hT hall
  rw [ra, rb] at HR
  clear ra rb
  obtain ⟨k, i, m, t, l⟩ := a
  obtain ⟨k', i', m', t', l'⟩ := b
  simp only at *
  generalize (bif hasV l' ⟨k, i, m, t, l⟩ then (1 : Int) else 0) = zz at *
  clear kb
  go_enter Tryz.func26, Tryz.ntmps26
  go_wp2_with (first | (go_at_call 66; refine HR.out.mono ?_; clear HR; rintro e w2 ⟨rfl, b2⟩; have b3 := trans_v (alloc_v (Below.refl _ _) _) b2; have f1 := (b3.block _ (show w.heap.size < W.heap.size by omega)).trans E1.out; have f2 := (b3.block _ (show w.heap.size + 1 < W.heap.size by omega)).trans E2.out; have f3 := (b3.block _ zW).trans E3.out; have F1 := hide f1; have F2 := hide f2; have F3 := hide f3; have z0 := cells_at f1 0 _ rfl; have z1 := cells_at f1 1 _ rfl; have z2 := cells_at f1 2 _ rfl; have z3 := cells_at f1 3 _ rfl; have z4 := cells_at f1 4 _ rfl; have s0 := cells_at f2 0 _ rfl; have s1 := cells_at f2 1 _ rfl; have s2 := cells_at f2 2 _ rfl; have s3 := cells_at f2 3 _ rfl; have s4 := cells_at f2 4 _ rfl; have y0 := cells_at f3 0 _ rfl; have y1 := cells_at f3 1 _ rfl; have y2 := cells_at f3 2 _ rfl; have y3 := cells_at f3 3 _ rfl; have y4 := cells_at f3 4 _ rfl; have q0 := frozen_at f3 0; have q1 := frozen_at f3 1; have q2 := frozen_at f3 2; have q3 := frozen_at f3 3; have q4 := frozen_at f3 4; clear f1 f2 f3) | (go_at_call 67; refine (HI.out _ b3).mono ?_; clear HI; rintro e w4 ⟨rfl, b4⟩; have g3 := (b4.block _ (Nat.lt_of_lt_of_le zW b3.size)).trans F3.out; have G3 := hide g3; have u0 := cells_at g3 0 _ rfl; have u1 := cells_at g3 1 _ rfl; have u2 := cells_at g3 2 _ rfl; have u3 := cells_at g3 3 _ rfl; have u4 := cells_at g3 4 _ rfl; have p0 := frozen_at g3 0; have p1 := frozen_at g3 1; have p2 := frozen_at g3 2; have p3 := frozen_at g3 3; have p4 := frozen_at g3 4; clear g3))
  have g := stored w w4 1 zz 0 ⟨#[]⟩ (.slice none 0 0) zcells (w.heap.size + 2) (by omega) (trans_v (trans_v bW b3) b4) rfl G3.out
  refine bodyPost_ret (results_struct_tmp rfl _ _ (w.heap.size + 2) _ _ _ _ rfl g.1 Tryz.underlying25 rfl infoVal5) rfl ?_
  exact ⟨rfl, g.2⟩
end Go.Proofs.YtgglommnipbagaaGreatDoor

/- Unlike values have unlike bytes: plain mathematics. -/
namespace Go.Proofs.YtgglommnipbagaaGreatDoor
open Go.Lib (uvarint uvarint_small uvarint_big)

theorem u8_inj {a b : Nat} (ha : a < 256) (hb : b < 256) (h : a.toUInt8 = b.toUInt8) : a = b := by
  have := congrArg UInt8.toNat h
  simp at this
  omega
theorem uvarint_inj : ∀ (n m : Nat) (x y : List UInt8), uvarint n ++ x = uvarint m ++ y → n = m ∧ x = y := by
  intro n
  induction n using Nat.strongRecOn with
  | ind n ih =>
    intro m x y h
    by_cases hn : n < 128
    · by_cases hm : m < 128
      · rw [uvarint_small hn, uvarint_small hm] at h
        simp only [List.cons_append, List.nil_append, List.cons.injEq] at h
        exact ⟨u8_inj (by omega) (by omega) h.1, h.2⟩
      · rw [uvarint_small hn, uvarint_big (by omega : 128 ≤ m)] at h
        simp only [List.cons_append, List.nil_append, List.cons.injEq] at h
        have := u8_inj (by omega) (by omega) h.1
        omega
    · by_cases hm : m < 128
      · rw [uvarint_big (by omega : 128 ≤ n), uvarint_small hm] at h
        simp only [List.cons_append, List.nil_append, List.cons.injEq] at h
        have := u8_inj (by omega) (by omega) h.1
        omega
      · rw [uvarint_big (by omega : 128 ≤ n), uvarint_big (by omega : 128 ≤ m)] at h
        simp only [List.cons_append, List.cons.injEq] at h
        have h1 := u8_inj (by omega) (by omega) h.1
        obtain ⟨h2, h3⟩ := ih (n / 128) (by omega) (m / 128) x y h.2
        exact ⟨by omega, h3⟩
theorem zz_inj {a b : Int} (h : zz a = zz b) : a = b := by
  unfold zz at h
  split at h <;> split at h <;> omega
theorem txt_inj {s t : ByteArray} {x y : List UInt8} (h : txt s ++ x = txt t ++ y) : s = t ∧ x = y := by
  unfold txt at h
  rw [List.append_assoc, List.append_assoc] at h
  obtain ⟨h1, h2⟩ := uvarint_inj _ _ _ _ h
  have hl : s.data.toList.length = t.data.toList.length := by
    rw [Array.length_toList, Array.length_toList]
    exact h1
  obtain ⟨h3, h4⟩ := List.append_inj h2 hl
  obtain ⟨d⟩ := s
  obtain ⟨d'⟩ := t
  have h5 : d.toList = d'.toList := h3
  exact ⟨by rw [Array.toList_inj.1 h5], h4⟩
theorem form_used {v : Vl} (h : formV v = true) : usedB v = true ∧ goodB v = true := (form_parts h).1
theorem flat_inj {n : Nat} (ih : ∀ (a b : Vl) (x y : List UInt8), a.size ≤ n → formV a = true → formV b = true → encV a ++ x = encV b ++ y → a = b ∧ x = y) :
    ∀ (l r : List Vl) (x y : List UInt8), l.length = r.length → (∀ v ∈ l, v.size ≤ n) → (∀ v ∈ l, formV v = true) → (∀ v ∈ r, formV v = true) → (l.map encV).flatten ++ x = (r.map encV).flatten ++ y → l = r ∧ x = y
  | [], [], x, y, _, _, _, _, h => ⟨rfl, by simpa using h⟩
  | [], _ :: _, _, _, hl, _, _, _, _ => by simp at hl
  | _ :: _, [], _, _, hl, _, _, _, _ => by simp at hl
  | a :: l, b :: r, x, y, hl, hs, h1, h2, h => by
    simp only [List.map_cons, List.flatten_cons, List.append_assoc] at h
    obtain ⟨e, h⟩ := ih a b _ _ (hs a (by simp)) (h1 a (by simp)) (h2 b (by simp)) h
    obtain ⟨e2, h⟩ := flat_inj ih l r x y (by simpa using hl) (fun v hv => hs v (by simp [hv])) (fun v hv => h1 v (by simp [hv])) (fun v hv => h2 v (by simp [hv])) h
    exact ⟨by rw [e, e2], h⟩
theorem good_kind {v : Vl} (h : goodB v = true) : v.kind = 1 ∨ v.kind = 2 ∨ v.kind = 3 ∨ v.kind = 4 ∨ v.kind = 5 ∨ v.kind = 6 ∨ v.kind = 7 := by
  unfold goodB at h
  split at h
  · omega
  · split at h
    · omega
    · split at h
      · omega
      · split at h
        · omega
        · cases h
theorem text_nil {t : ByteArray} (h : t.toList = []) : t = ⟨#[]⟩ := by
  obtain ⟨d⟩ := t
  rw [ByteArray.toList_mk] at h
  rw [Array.toList_inj.1 (show d.toList = (#[] : Array UInt8).toList from h)]
theorem enc_inj : ∀ (n : Nat) (a b : Vl) (x y : List UInt8), a.size ≤ n → formV a = true → formV b = true → encV a ++ x = encV b ++ y → a = b ∧ x = y := by
  intro n
  induction n with
  | zero => intro a b x y h; have := a.size_pos; omega
  | succ n ih =>
    intro a b x y hs ha hb h
    obtain ⟨ua, ga⟩ := form_used ha
    obtain ⟨ub, gb⟩ := form_used hb
    have ka := good_kind ga
    have kb := good_kind gb
    have fa := (form_parts ha).2
    have fb := (form_parts hb).2
    rw [encV_eq a, encV_eq b] at h
    simp only [List.cons_append, List.cons.injEq] at h
    have hk : a.kind = b.kind := by
      have := u8_inj (a := a.kind.toNat) (b := b.kind.toNat) (by omega) (by omega) h.1
      omega
    have hsz : ∀ v ∈ a.items, v.size ≤ n := fun v hv => by have := Vl.size_item hv; omega
    obtain ⟨k, i, m, t, l⟩ := a
    obtain ⟨k', i', m', t', l'⟩ := b
    simp only at *
    subst hk
    have h2 := h.2
    clear h
    unfold usedB at ua ub
    unfold goodB at ga gb
    rcases ka with rfl | rfl | rfl | rfl | rfl | rfl | rfl
    · simp at ua ub ga gb h2
      obtain ⟨⟨rfl, hta⟩, rfl⟩ := ua
      obtain ⟨⟨rfl, htb⟩, rfl⟩ := ub
      rw [text_nil (t := t) (by simpa using hta), text_nil (t := t') (by simpa using htb)]
      have hi := u8_inj (a := i.toNat) (b := i'.toNat) (by omega) (by omega) h2.1
      exact ⟨by rw [show i = i' by omega], h2.2⟩
    · simp at ua ub h2
      obtain ⟨⟨rfl, hta⟩, rfl⟩ := ua
      obtain ⟨⟨rfl, htb⟩, rfl⟩ := ub
      rw [text_nil (t := t) (by simpa using hta), text_nil (t := t') (by simpa using htb)]
      obtain ⟨e, h3⟩ := uvarint_inj _ _ _ _ h2
      exact ⟨by rw [zz_inj e], h3⟩
    · simp at ua ub h2
      obtain ⟨hta, rfl⟩ := ua
      obtain ⟨htb, rfl⟩ := ub
      rw [text_nil (t := t) (by simpa using hta), text_nil (t := t') (by simpa using htb)]
      obtain ⟨e, h3⟩ := uvarint_inj _ _ _ _ h2
      obtain ⟨e2, h4⟩ := uvarint_inj _ _ _ _ h3
      exact ⟨by rw [zz_inj e, zz_inj e2], h4⟩
    · simp at ua ub h2
      obtain ⟨⟨rfl, rfl⟩, rfl⟩ := ua
      obtain ⟨⟨rfl, rfl⟩, rfl⟩ := ub
      obtain ⟨e, h3⟩ := txt_inj h2
      exact ⟨by rw [e], h3⟩
    all_goals
      simp at ua ub h2
      obtain ⟨⟨rfl, rfl⟩, hta⟩ := ua
      obtain ⟨⟨rfl, rfl⟩, htb⟩ := ub
      rw [text_nil (t := t) (by simpa using hta), text_nil (t := t') (by simpa using htb)]
      obtain ⟨e, h3⟩ := uvarint_inj _ _ _ _ h2
      obtain ⟨e2, h4⟩ := flat_inj ih l l' x y e hsz fa fb h3
      exact ⟨by rw [e2], h4⟩
theorem enc_eq {a b : Vl} (ha : formV a = true) (hb : formV b = true) (h : encV a = encV b) : a = b := (enc_inj a.size a b [] [] (Nat.le_refl _) ha hb (by rw [h])).1
end Go.Proofs.YtgglommnipbagaaGreatDoor

/- arith's shared: those of a row that are in another, or those that are not, by a map of bytes. -/
namespace Go.Proofs.YtgglommnipbagaaGreatDoor
open Go.RowKit Go.Maps

theorem lawStr : Keyed Tryz.prog 9 := string_keyed Tryz.underlying9
theorem zeroUnit (w : World) : (zeroValue 193).run Tryz.prog w = .ok (.agg #[]) w := by kernel_rfl
def keyL (x : Vl) : Lit := .string (encV x)
theorem keyL_of {x : Vl} (h : (encV x).length ≤ 1000000000000) : keyOf Tryz.prog 9 (.string (bytesT x)) = some (keyL x) := by
  rw [WideMaps.keyOf_string_mk Tryz.underlying9 (by unfold maxLen; show (encV x).toArray.size ≤ _; simp; omega)]
  simp [keyL, bytesT]
theorem hasKey {bs : List Vl} {x : Vl} (hb : ∀ y ∈ bs, formV y = true) (hx : formV x = true) : Maps.has (setOf (H := Unit) (.agg []) (bs.map keyL)) (keyL x) = hasV bs x := by
  rw [has_setOf _ _ _ (fun y hy => by obtain ⟨z, _, rfl⟩ := List.mem_map.1 hy; trivial)]
  rw [List.any_map]
  unfold hasV
  rw [Bool.eq_iff_iff, List.any_eq_true, List.any_eq_true]
  constructor
  · rintro ⟨y, hy, h⟩
    refine ⟨y, hy, decide_eq_true ?_⟩
    have e : encV y = encV x := by simpa [keyL, Lit.sameKey] using h
    rw [enc_eq (hb y hy) hx e]
    exact ordV_self x
  · rintro ⟨y, hy, h⟩
    refine ⟨y, hy, ?_⟩
    rw [ordV_zero (of_decide_eq_true h)]
    simp [keyL, Lit.sameKey]
theorem map_same {w w' : World} {P : Program} {k : TypeId} {R : Value → Option (DataW Unit × List MemPlace)} {b n : Nat} {D : DataW Unit} (h : w.ownsMap P k R b n D) (hb : w'.heap[b]? = w.heap[b]?) : w'.ownsMap P k R b n D := by
  obtain ⟨es, clock, h1, h2⟩ := h
  exact ⟨es, clock, hb.trans h1, h2⟩
theorem item_ok {w : World} {B n : Nat} {sl : Value} {its : List Vl} (h : ItemsAt w B (n + 1) sl its) (j : Nat) (hj : j < its.length) : its[j].ok := by
  obtain ⟨a, c, rfl, _⟩ := h.len
  obtain ⟨_, _, _, _, _, _, _, _, _, _, _, h⟩ := h.item j hj
  exact h
set_option maxRecDepth 100000 in
set_option maxHeartbeats 4000000 in
theorem shared_k (ls bs : List Vl) (inn : Bool) (w : World) (n : Nat) (sa sb : Value) (hT : TabL w) (ha : ItemsAt w w.heap.size (n + 1) sa ls) (hb : ItemsAt w w.heap.size (n + 1) sb bs) (ra : ∀ x ∈ ls, rightV x = true) (rb : ∀ x ∈ bs, rightV x = true)
    (za : ∀ x ∈ ls, x.size ≤ 1000000000) (zb : ∀ x ∈ bs, x.size ≤ 1000000000) (la : ls.length ≤ 1000000000) (lb : bs.length ≤ 1000000000) :
    Calls Tryz.prog 120 #[sa, sb, .bool inn] w fun e w' => ∃ s', e = .returned s' ∧ ItemsAt w' w'.heap.size (n + 1) s' (ls.filter (fun x => hasV bs x == inn)) ∧ Below w.heap.size w w' := by
  have hmm := @run_makeMap Tryz.prog
  have HA := hide ha
  have HB := hide hb
  have HT := hide hT
  have HRA := hide ra
  have HRB := hide rb
  have HZA := hide za
  have HZB := hide zb
  obtain ⟨a1, c1, rfl, _⟩ := ha.len
  obtain ⟨a2, c2, rfl, _⟩ := hb.len
  clear ha hb hT ra rb za zb
  go_enter Tryz.func120, Tryz.ntmps120
  go_wp2
  go_loopw [9, 18] (fun _ i wr => ∃ k : Nat, k ≤ bs.length ∧ i = .int .i64 k ∧ wr.ownsMap Tryz.prog 9 unitElem w.heap.size k (setOf (H := Unit) (.agg []) ((bs.take k).map keyL)) ∧ Below w.heap.size w wr ∧ w.heap.size + 1 ≤ wr.heap.size) (fun _ i _ => bs.length - (intOf i).toNat)
  case atStart => exact ⟨0, Nat.zero_le _, rfl, World.ownsMap_made _ _ _ _, alloc_v (Below.refl _ _) _, by simp⟩
  case round =>
    obtain ⟨k, hk, rfl, hown, hbel, hsz⟩ := hrel
    by_cases hlt : k < bs.length
    · obtain ⟨b1, o1, s1, rfl, g1, p0, p1, p2, p3, p4, p5, p6⟩ := (HB.out.below hbel).item k hlt
      have l1 : b1 < wr.heap.size := by omega
      have hrx := HRB.out _ (List.getElem_mem hlt)
      have bA : Below wr.heap.size wr (wr.alloc (.cells (vcells bs[k] s1) 25)) := alloc_v (Below.refl _ _) _
      have hsb := hbel.size
      have HC := hide (bytesOf_k bs[k] (wr.alloc (.cells (vcells bs[k] s1) 25)) n s1 (HT.out.below (trans_v hbel bA)) p6 (HZB.out _ (List.getElem_mem hlt)) hrx ((p5.below (bA.mono hsb)).up (by have := bA.size; omega)))
      have hkey := keyL_of (enc_short p5 p6 hrx)
      have HOW := hide (fun (U : World) (b : Below wr.heap.size wr U) => hown.kept (grown_of_below (r := none) b) (by simp))
      have HTK := hide (show (bs.take (k + 1)).map keyL = (bs.take k).map keyL ++ [keyL bs[k]] by rw [List.take_succ_eq_append_getElem hlt, List.map_append]; rfl)
      have HB2 := hide hbel
      obtain ⟨xx1, yy1, rfl, _⟩ := p5.len
      clear p5 p6 hown hbel g1 hrx bA
      generalize keyL bs[k] = kl at *
      generalize bytesT bs[k] = bt at *
      generalize bs[k].items = xi at *
      generalize bs[k] = x at *
      go_wp2_with (first
        | (go_at_call 198; refine HC.out.mono ?_; clear HC; rintro e w2 ⟨rfl, b2⟩; have b3 := trans_v (alloc_v (Below.refl _ _) _) b2; have HO2 := hide (HOW.out w2 b3); have B3 := hide b3; clear b2 b3)
        | (at_mapUpdate; refine wpList_mapUpdate_own _ rfl _ _ _ 192 rfl 9 193 lawStr Tryz.underlying192 (unitElem (H := Unit)) w.heap.size k _ rfl HO2.out (by unfold maxLen; omega) _ _ _ rfl rfl hkey _ [] unitElem_mk ?_; intro w3 hown3 hgrow3; have HO3 := hide hown3; have HG3 := hide hgrow3; clear hown3 hgrow3))
      go_roundw
      case rel =>
        have s1 := HG3.out.size
        have s2 := B3.out.size
        refine ⟨k + 1, by omega, by go_num, by rw [HTK.out, setOf_snoc]; exact HO3.out, ?_, by omega⟩
        exact (trans_v HB2.out B3.out).grown HG3.out (by omega) (fun j hj => by cases hj; exact Nat.le_refl _)
      case measure => simp [intOf]; omega
    · rw [List.take_of_length_le (by omega)] at hown
      have HOW := hide hown
      have HBE := hide hbel
      clear hown hbel
      go_wp2
      obtain ⟨wo, hwo⟩ : ∃ wo, wo = wr := ⟨_, rfl⟩
      subst hwo
      go_loopw [10, 12, 13, 14, 29] (fun o _ _ _ i wr => ∃ k2 : Nat, k2 ≤ ls.length ∧ i = .int .i64 k2 ∧ wr.ownsMap Tryz.prog 9 unitElem w.heap.size k (setOf (H := Unit) (.agg []) (bs.map keyL)) ∧ RowS 0 wr (w.heap.size + 1) w.heap.size n o ((ls.take k2).filter (fun x => hasV bs x == inn)) ∧ Below w.heap.size w wr ∧ w.heap.size + 1 ≤ wr.heap.size) (fun _ _ _ _ i _ => ls.length - (intOf i).toNat)
      case atStart => exact ⟨0, Nat.zero_le _, rfl, HOW.out, RowS.nil _ _ _ _ _, HBE.out, hsz⟩
      case round =>
        obtain ⟨k2, hk2, rfl, hown, hrow, hbel, hsz2⟩ := hrel
        by_cases hlt2 : k2 < ls.length
        · obtain ⟨b1, o1, s1, rfl, g1, p0, p1, p2, p3, p4, p5, p6⟩ := (HA.out.below hbel).item k2 hlt2
          have l1 : b1 < wr.heap.size := by omega
          have hrx := HRA.out _ (List.getElem_mem hlt2)
          have bA : Below wr.heap.size wr (wr.alloc (.cells (vcells ls[k2] s1) 25)) := alloc_v (Below.refl _ _) _
          have hsb := hbel.size
          have HC := hide (bytesOf_k ls[k2] (wr.alloc (.cells (vcells ls[k2] s1) 25)) n s1 (HT.out.below (trans_v hbel bA)) p6 (HZA.out _ (List.getElem_mem hlt2)) hrx ((p5.below (bA.mono hsb)).up (by have := bA.size; omega)))
          have hkey := keyL_of (enc_short p5 p6 hrx)
          have HHK := hide (hasKey (bs := bs) (x := ls[k2]) (fun y hy => form_right (HRB.out y hy)) (form_right hrx))
          have HOW2 := hide (fun (U : World) (b : Below wr.heap.size wr U) => hown.kept (grown_of_below (r := none) b) (by simp))
          have HRW := hide (fun (U : World) (b : Below wr.heap.size wr U) => hrow.below (by omega) b)
          have HPU := hide (fun (U : World) (b : Below wr.heap.size wr U) => RowS.push (ty := 22) (x := ls[k2]) (s := s1) (hrow.below (by omega) b) (by have := b.size; omega) (Nat.le_succ _) ((p5.below (b.mono hsb)).lo) p6 (by have := List.length_filter_le (fun x => hasV bs x == inn) (ls.take k2); rw [List.length_take] at this; omega))
          have HTK := hide (show (ls.take (k2 + 1)).filter (fun x => hasV bs x == inn) = (ls.take k2).filter (fun x => hasV bs x == inn) ++ (if (hasV bs ls[k2] == inn) = true then [ls[k2]] else []) by rw [List.take_succ_eq_append_getElem hlt2, List.filter_append]; simp only [List.filter_cons, List.filter_nil])
          have HB2 := hide hbel
          obtain ⟨ra, rc, rfl⟩ := hrow.len
          obtain ⟨xx1, yy1, rfl, _⟩ := p5.len
          have hnr : (ls.take k2).filter (fun x => hasV bs x == inn) = (ls.take k2).filter (fun x => hasV bs x == inn) := rfl
          clear p5 p6 hown hbel g1 hrx bA hrow hnr
          generalize (ls.take k2).filter (fun x => hasV bs x == inn) = kept at *
          generalize keyL ls[k2] = kl at *
          generalize bytesT ls[k2] = bt at *
          generalize hasV bs ls[k2] = hv at *
          generalize ls[k2].items = xi at *
          generalize ls[k2] = x at *
          generalize setOf (H := Unit) (.agg []) (bs.map keyL) = D at *
          cases hw : (hv == inn)
          · rw [hw] at HTK
            go_wp2_with (first
              | (go_at_call 198; refine HC.out.mono ?_; clear HC; rintro e w2 ⟨rfl, b2⟩; have b3 := trans_v (alloc_v (Below.refl _ _) _) b2; have HO2 := hide (HOW2.out w2 b3); have B3 := hide b3; clear b2 b3)
              | (at_lookup; refine wpList_lookup_own_unit _ rfl _ _ 192 rfl 9 193 lawStr Tryz.underlying192 (zeroUnit _) w.heap.size k _ rfl HO2.out _ _ rfl hkey ?_; rw [HHK.out]))
            go_roundw
            case rel => exact ⟨k2 + 1, by omega, by go_num, HO2.out.alloc _, by rw [HTK.out]; simp only [Bool.false_eq_true, if_false, List.append_nil]; exact HRW.out _ (alloc_v B3.out _), alloc_v (trans_v HB2.out B3.out) _, by have := B3.out.size; simp; omega⟩
            case measure => simp [intOf]; omega
          · rw [hw] at HTK
            go_wp2_with (first
              | (go_at_call 198; refine HC.out.mono ?_; clear HC; rintro e w2 ⟨rfl, b2⟩; have b3 := trans_v (alloc_v (Below.refl _ _) (.cells (vcells x (.slice xx1 xi.length yy1)) 25)) b2; have HO2 := hide (HOW2.out w2 b3); have B3 := hide b3; obtain ⟨v4, w4, hrun, r4, b4⟩ := HPU.out (w2.alloc (.cells #[] 193)) (alloc_v b3 _); rw [World.size_alloc] at hrun; have HRN := hide hrun; have R4 := hide r4; have B4 := hide b4; have f2 := (b2.block wr.heap.size (by simp)).trans (World.alloc_heap_new wr (.cells (vcells x (.slice xx1 xi.length yy1)) 25)); have F2 := hide f2; have d0 := (bcellV (alloc_v (Below.refl w2.heap.size w2) (.cells #[] 193))).1 wr.heap.size 0 (Array.getElem?_eq_some_iff.1 f2).1 |>.trans (cells_at f2 0 _ rfl); have d1 := (bcellV (alloc_v (Below.refl w2.heap.size w2) (.cells #[] 193))).1 wr.heap.size 1 (Array.getElem?_eq_some_iff.1 f2).1 |>.trans (cells_at f2 1 _ rfl); have d2 := (bcellV (alloc_v (Below.refl w2.heap.size w2) (.cells #[] 193))).1 wr.heap.size 2 (Array.getElem?_eq_some_iff.1 f2).1 |>.trans (cells_at f2 2 _ rfl); have d3 := (bcellV (alloc_v (Below.refl w2.heap.size w2) (.cells #[] 193))).1 wr.heap.size 3 (Array.getElem?_eq_some_iff.1 f2).1 |>.trans (cells_at f2 3 _ rfl); have d4 := (bcellV (alloc_v (Below.refl w2.heap.size w2) (.cells #[] 193))).1 wr.heap.size 4 (Array.getElem?_eq_some_iff.1 f2).1 |>.trans (cells_at f2 4 _ rfl); clear b2 b3 hrun r4 b4 f2)
              | (at_lookup; refine wpList_lookup_own_unit _ rfl _ _ 192 rfl 9 193 lawStr Tryz.underlying192 (zeroUnit _) w.heap.size k _ rfl HO2.out _ _ rfl hkey ?_; rw [HHK.out])
              | (at_builtin; refine Lib.wpList_append_run _ rfl (.tmp 43) (.tmp 45) 22 22 rfl _ _ rfl rfl _ _ HRN.out ?_; clear HRN))
            go_roundw
            case rel =>
              have s3 := B3.out.size
              have s4 := B4.out.size
              rw [World.size_alloc] at s4
              exact ⟨k2 + 1, by omega, by go_num, map_same (HO2.out.alloc _) (B4.out.block w.heap.size (Nat.lt_succ_self _)), by rw [HTK.out]; simp only [if_true]; exact R4.out, (alloc_v (trans_v HB2.out B3.out) _).trans (B4.out.mono (by omega)), by omega⟩
            case measure => simp [intOf]; omega
        · rw [List.take_of_length_le (by omega)] at hrow
          have hit := (hrow.items (by omega) (by have := List.length_filter_le (fun x => hasV bs x == inn) ls; unfold maxLen; omega) (Nat.zero_le _)).at
          obtain ⟨ra, rc, rfl⟩ := hrow.len
          have HIT := hide hit
          clear hit hrow hown
          go_wp2
          go_ret
          exact ⟨_, rfl, HIT.out, hbel⟩
end Go.Proofs.YtgglommnipbagaaGreatDoor

/- Rows of values put together. -/
namespace Go.Proofs.YtgglommnipbagaaGreatDoor
open Go.RowKit

theorem rowC_app : ∀ {l r : List Vl} {s t : List Value}, s.length = l.length → rowC (l ++ r) (s ++ t) = rowC l s ++ rowC r t
  | [], r, [], t, _ => by simp [rowC]
  | [], _, _ :: _, _, h => by simp at h
  | _ :: _, _, [], _, h => by simp at h
  | x :: l, r, y :: s, t, h => by
    rw [List.cons_append, List.cons_append, rowC, rowC_app (by simpa using h), rowC, List.append_assoc]
/-- A row of values is laid behind one of one's own. -/
theorem RowS.append {w : World} {L B n : Nat} {v x : Value} {its r : List Vl} (h : RowS 0 w L B n v its) (hL : L ≤ w.heap.size) (hB : B ≤ L) (hx : ItemsAt w B (n + 1) x r) (hn : its.length + r.length ≤ 1000000000) (ty : TypeId) :
    ∃ v' w', (Builtin.append_ #[22, 22] ty #[v, x]).run Tryz.prog w = .ok v' w' ∧ RowS 0 w' L B n v' (its ++ r) ∧ Below L w w' := by
  obtain ⟨i0, hi, hz0, hz1, hz2⟩ := info_partsV infoVal
  obtain ⟨a, c, rfl, _⟩ := hx.len
  rcases a with _ | ad
  · have hr : r = [] := by
      cases r with
      | nil => rfl
      | cons y r =>
        obtain ⟨_, _, _, e, _⟩ := hx.item 0 (by simp)
        cases e
    subst hr
    refine ⟨v, w, ?_, by simpa using h, Below.refl _ _⟩
    obtain ⟨ss, hl, hr, hc⟩ := h
    rcases hr.2 with ⟨hv, h0⟩ | ⟨g, cap, cur, hv, hbg, hg, hnc, hcm, hcs, htake⟩
    · subst hv
      simp [Builtin.append_, run_underlying Tryz.underlying22, sizeOf, typeInfo, hi, Builtin.lenOf, Builtin.firstCells]
    · subst hv
      simp [Builtin.append_, run_underlying Tryz.underlying22, sizeOf, typeInfo, hi, Builtin.lenOf, Builtin.firstCells, hnc, storeCells]
  · obtain ⟨l, h1, h2⟩ := hx.evs
    have hlen : r.length = l.length := by rw [← h1, List.length_map]
    obtain ⟨ss, hl, hr, hc⟩ := h
    have hnl : (rowC (l.map Ev.v) (l.map Ev.sl)).length = l.length * 5 := by rw [rowC_len (by simp)]; simp
    have hnews : ∀ j u, (rowC (l.map Ev.v) (l.map Ev.sl))[j]? = some u → w.cell? (ad.add j) = some u := fun j u hu => by
      have hj : j < l.length * 5 := by have := (List.getElem?_eq_some_iff.1 hu).1; omega
      have e := rowC_evs l (j / 5) (by omega) (j % 5) (Nat.mod_lt _ (by omega))
      obtain ⟨b, off, e1, _, e2⟩ := h2 (j / 5) (by omega)
      cases e1
      have e3 := e2 (j % 5) (Nat.mod_lt _ (by omega))
      rw [show j / 5 * 5 + j % 5 = j by omega] at e
      rw [Addr.add_lit, show off + j = off + j / 5 * 5 + j % 5 by omega, e3, ← e, hu]
    obtain ⟨v', w', hrun, A1, A2, _⟩ := run_append_own (P := Tryz.prog) w L 22 ty 25 i0 _ 5 64 Tryz.underlying22 hi hz0 hz1 hz2 rfl (by decide) v its.length (rowC its ss) hr ad l.length c (rowC (l.map Ev.v) (l.map Ev.sl)) hnl hnews (rowC_one l) (by unfold maxLen; omega) (by omega) hL
    rw [hlen]
    have hbel : Below L w w' := (Below.refl _ _).grown A2 hL (fun k hk => (hr.lt k hk).1)
    refine ⟨v', w', hrun, ⟨ss ++ l.map Ev.sl, by simp [hl, hlen], ?_, fun j hj => ?_⟩, hbel⟩
    · rw [rowC_app hl, List.length_append, hlen]
      rw [h1] at A1
      exact A1
    · by_cases e : j < its.length
      · obtain ⟨q1, q2⟩ := hc j e
        rw [List.getElem_append_left (by omega), List.getElem_append_left e]
        exact ⟨q1.below (hbel.mono hB), q2⟩
      · have hjl : j - its.length < l.length := by rw [List.length_append] at hj; omega
        have ev : r[j - its.length]'(by omega) = l[j - its.length].v := by simp only [← h1, List.getElem_map]
        rw [List.getElem_append_right (by omega), List.getElem_append_right (by omega)]
        simp only [hl, List.getElem_map, ev]
        exact ⟨(l[j - its.length].lies.below (hbel.mono hB)).lo, l[j - its.length].ok⟩
set_option maxRecDepth 100000 in
set_option maxHeartbeats 1000000 in
theorem growV_nil (w : World) (n m : Nat) (hn : 0 < n) (hn2 : n ≤ 1000000000) :
    Calls Tryz.prog 197 #[.slice none 0 0, .int .i64 n] w fun e w' => ∃ v, e = .returned v ∧ RowS 0 w' w.heap.size w.heap.size m v [] ∧ Below w.heap.size w w' := by
  obtain ⟨i0, hi, hz0, hz1, hz2⟩ := info_partsV infoVal
  have hr := fun ty => Lib.run_append_nil_zeros (P := Tryz.prog) w 22 3 ty 25 i0 _ .i64 .i64 Tryz.underlying22 Tryz.underlying3 hi hz0 n hn (by rw [hz1]; decide) (by omega) (by rw [hz2]; omega)
  go_enter Tryz.func197, Tryz.ntmps197
  go_wp2_with (at_builtin; refine Lib.wpList_append_run _ rfl (.tmp 20) (.tmp 21) 22 3 rfl _ _ rfl rfl _ _ (hr _) ?_)
  go_ret
  have hge := grownCap_ge w n 0 25
  have hle := grownCap_le_maxLen w n 0 25 (by unfold maxLen; omega)
  refine ⟨_, rfl, ⟨[], rfl, ⟨by simp [rowC], .inr ⟨w.heap.size, grownCap w n 0 25, _, rfl, Nat.le_refl _, heap_alloc_new w.drew _, Nat.zero_le _, hle, ?_, by simp [rowC]⟩⟩, fun j h => by simp at h⟩, ((Below.refl _ _).drew).alloc (Nat.le_refl _) _⟩
  simp [size_zeroCells]
  omega
theorem growV_zero (w : World) : Calls Tryz.prog 197 #[.slice none 0 0, .int .i64 0] w fun e w' => e = .returned (.slice none 0 0) ∧ w = w' := by
  go_enter Tryz.func197, Tryz.ntmps197
  go_wp2
  go_ret
  exact ⟨rfl, rfl⟩
theorem growV_any (w : World) (n m : Nat) (hn2 : n ≤ 1000000000) :
    Calls Tryz.prog 197 #[.slice none 0 0, .int .i64 n] w fun e w' => ∃ v, e = .returned v ∧ RowS 0 w' w.heap.size w.heap.size m v [] ∧ Below w.heap.size w w' := by
  by_cases h : n = 0
  · subst h
    refine (growV_zero w).mono ?_
    rintro e w' ⟨rfl, rfl⟩
    exact ⟨_, rfl, RowS.nil _ _ _ _ _, Below.refl _ _⟩
  · exact growV_nil w n m (by omega) hn2
set_option maxRecDepth 100000 in
set_option maxHeartbeats 2000000 in
theorem concatV_k (w : World) (pb pc n : Nat) (ls : List (List Vl)) (hl : ls.length ≤ 1000000000) (hp : ∀ i (h : i < ls.length), ∃ a c, w.cell? ⟨pb, 0 + i, none⟩ = some (.slice a ls[i].length c) ∧ ItemsAt w w.heap.size (n + 1) (.slice a ls[i].length c) ls[i])
    (hsum : ls.flatten.length ≤ 1000000000) :
    Calls Tryz.prog 119 #[.slice (some ⟨pb, 0, none⟩) ls.length pc] w fun e w' => ∃ v, e = .returned v ∧ ItemsAt w' w'.heap.size (n + 1) v ls.flatten ∧ Below w.heap.size w w' := by
  have HP := hide hp
  have HSUM := hide hsum
  have hpre : ∀ k, (ls.take k).flatten.length ≤ ls.flatten.length := fun k => by
    have := congrArg List.length (congrArg List.flatten (List.take_append_drop k ls))
    rw [List.flatten_append, List.length_append] at this
    omega
  have HPRE := hide hpre
  clear hp hsum hpre
  go_enter Tryz.func119, Tryz.ntmps119
  go_wp2
  go_loop [3, 11] (fun t i => ∃ k : Nat, k ≤ ls.length ∧ i = .int .i64 k ∧ t = .int .i64 (ls.take k).flatten.length) (fun _ i => ls.length - (intOf i).toNat)
  case atStart => exact ⟨0, Nat.zero_le _, rfl, rfl⟩
  case round =>
    obtain ⟨k, hk, rfl, rfl⟩ := hrel
    have hpk := HPRE.out k
    have hs := HSUM.out
    by_cases hlt : k < ls.length
    · obtain ⟨a, c, hcell, _⟩ := HP.out k hlt
      simp only [Nat.zero_add] at hcell
      have hpk1 := HPRE.out (k + 1)
      have hstep : (ls.take (k + 1)).flatten.length = (ls.take k).flatten.length + ls[k].length := by
        rw [List.take_succ_eq_append_getElem hlt, List.flatten_append, List.length_append]
        simp
      rw [hstep] at hpk1
      have HST := hide hstep
      clear hstep
      generalize (ls.take k).flatten.length = s0 at *
      generalize ls[k].length = s1 at *
      go_wp2
      go_round
      case rel => exact ⟨k + 1, by omega, by go_num, by rw [HST.out]; go_num⟩
      case measure => simp [intOf]; omega
    · have e : (ls.take k).flatten.length = ls.flatten.length := by rw [List.take_of_length_le (by omega)]
      rw [e]
      clear hpk e
      generalize hN : ls.flatten.length = N at *
      have HN := hide hN
      clear hN
      go_wp2_with (go_at_call 197; refine (growV_any _ N n HSUM.out).mono ?_; rintro e w1 ⟨v1, rfl, A1, A2⟩; have B1 := hide A1; have B2 := hide A2; clear A1 A2)
      go_loopw [6, 8, 27] (fun v _ i wr => ∃ k : Nat, k ≤ ls.length ∧ i = .int .i64 k ∧ RowS 0 wr w.heap.size w.heap.size n v (ls.take k).flatten ∧ Below w.heap.size w wr) (fun _ _ i _ => ls.length - (intOf i).toNat)
      case atStart => exact ⟨0, Nat.zero_le _, rfl, B1.out, B2.out⟩
      case round =>
        clear hlt hk
        obtain ⟨k, hk, rfl, hown, hbel⟩ := hrel
        have hpk := HPRE.out k
        by_cases hlt : k < ls.length
        · obtain ⟨a, c, hcell, hby⟩ := HP.out k hlt
          simp only [Nat.zero_add] at hcell
          have hcell' := cell_later hbel hcell
          have hpk1 := HPRE.out (k + 1)
          have hstep : (ls.take (k + 1)).flatten = (ls.take k).flatten ++ ls[k] := by
            rw [List.take_succ_eq_append_getElem hlt, List.flatten_append]
            simp
          rw [hstep, List.length_append] at hpk1
          obtain ⟨v', w2, hr, A1, A2⟩ := hown.append hbel.size (Nat.le_refl _) (hby.below hbel) (by have := HSUM.out; omega) 22
          have R : Hid (RowS 0 w2 w.heap.size w.heap.size n v' (ls.take (k + 1)).flatten ∧ Below w.heap.size w w2) := by
            rw [hstep]
            exact ⟨A1, hbel.trans A2⟩
          have HR := hide hr
          obtain ⟨oa, oc, rfl⟩ := hown.len
          clear A1 A2 hown hbel hpk hpk1 hstep hcell hby hr
          go_wp2_with (at_builtin; refine Lib.wpList_append_run _ rfl (.tmp 31) (.tmp 32) 22 22 rfl _ _ rfl rfl _ _ HR.out ?_)
          go_roundw
          case rel => exact ⟨k + 1, by omega, by go_num, R.out.1, R.out.2⟩
          case measure => simp [intOf]; omega
        · have R : Hid (ItemsAt wr wr.heap.size (n + 1) u6 ls.flatten ∧ Below w.heap.size w wr) := by
            rw [List.take_of_length_le (by omega)] at hown
            exact ⟨(hown.items hbel.size (by have := HSUM.out; have := HN.out; unfold maxLen; omega) (Nat.zero_le _)).at, hbel⟩
          clear hown hbel
          go_wp2
          go_ret
          exact ⟨_, rfl, R.out.1, R.out.2⟩
end Go.Proofs.YtgglommnipbagaaGreatDoor

/- The operations of two sets. -/
namespace Go.Proofs.YtgglommnipbagaaGreatDoor
open Go.RowKit

theorem filter_sum (p : Vl → Bool) : ∀ l : List Vl, ((l.filter p).map Vl.size).sum ≤ (l.map Vl.size).sum
  | [] => by simp
  | x :: l => by
    have := filter_sum p l
    rw [List.filter_cons]
    split
    · simp only [List.map_cons, List.sum_cons]; omega
    · simp only [List.map_cons, List.sum_cons]; omega
abbrev setVl (l : List Vl) : Vl := ⟨7, 0, 0, ⟨#[]⟩, setV l⟩
theorem limited_ok (v : Vl) (a : Option Addr) (l c : Nat) (w : World) : Calls Tryz.prog 118 #[.agg (vcells v (.slice a l c)), .int .i64 0] w fun e w' => e = .returned (.tuple #[.agg (vcells v (.slice a l c)), .int .i64 0]) ∧ Below w.heap.size w w' := limited_k v a l c 0 w
theorem two_rows {w : World} {n : Nat} {l r : List Vl} {a1 a2 : Option Addr} {c1 c2 : Nat} (hl : ItemsAt w w.heap.size (n + 1) (.slice a1 l.length c1) l) (hr : ItemsAt w w.heap.size (n + 1) (.slice a2 r.length c2) r) :
    ∀ i (h : i < [l, r].length), ∃ a c, (w.alloc (.cells #[.slice a1 l.length c1, .slice a2 r.length c2] 22)).cell? ⟨w.heap.size, 0 + i, none⟩ = some (.slice a [l, r][i].length c) ∧ ItemsAt (w.alloc (.cells #[.slice a1 l.length c1, .slice a2 r.length c2] 22)) (w.alloc (.cells #[.slice a1 l.length c1, .slice a2 r.length c2] 22)).heap.size (n + 1) (.slice a [l, r][i].length c) [l, r][i] := by
  intro i h
  have e := World.alloc_heap_new w (.cells #[.slice a1 l.length c1, .slice a2 r.length c2] 22)
  have b := alloc_v (Below.refl w.heap.size w) (.cells #[.slice a1 l.length c1, .slice a2 r.length c2] 22)
  have hi : i = 0 ∨ i = 1 := by simp at h; omega
  rcases hi with rfl | rfl
  · exact ⟨a1, c1, cells_at e 0 _ rfl, (hl.below b).up b.size⟩
  · exact ⟨a2, c2, cells_at e 1 _ rfl, (hr.below b).up b.size⟩
set_option maxRecDepth 100000 in
set_option maxHeartbeats 2000000 in
theorem ofSets_or (l r F : List Vl) (hF : F = l ++ r) (w : World) (n : Nat) (sl sr : Value) (hT : TabL w) (hl : ItemsAt w w.heap.size (n + 2) sl l) (hr : ItemsAt w w.heap.size (n + 2) sr r) (rl : ∀ x ∈ l, rightV x = true) (rr : ∀ x ∈ r, rightV x = true)
    (zl : ∀ x ∈ l, x.size ≤ 1000000000) (zr : ∀ x ∈ r, x.size ≤ 1000000000) (hlen : l.length + r.length ≤ 1000000000) (hFz : (⟨7, 0, 0, ⟨#[]⟩, F⟩ : Vl).size ≤ 1000000000) (hR : rightV (setVl F) = true) :
    Calls Tryz.prog 74 #[.string ⟨#[124]⟩, sl, sr] w fun e w' => ∃ s', e = .returned (.tuple #[.agg (vcells (setVl F) s'), .int .i64 0]) ∧ ItemsIn w' (fun b => w.heap.size < b ∧ b < w'.heap.size) (n + 2) s' (setV F) ∧ Below w.heap.size w w' := by
  obtain ⟨W, hW⟩ : ∃ W, w.alloc (.cells zcells 25) = W := ⟨_, rfl⟩
  have bW : Below w.heap.size w W := by rw [← hW]; exact alloc_v (Below.refl _ _) _
  have e1 : W.heap[w.heap.size]? = some (.cells zcells 25 (0, 0)) := by rw [← hW]; exact World.alloc_heap_new w _
  have zW : w.heap.size < W.heap.size := (Array.getElem?_eq_some_iff.1 e1).1
  obtain ⟨a1, c1, rfl, _⟩ := hl.len
  obtain ⟨a2, c2, rfl, _⟩ := hr.len
  have _ := zl
  have _ := zr
  have HQ := hide (concatV_k (W.alloc (.cells #[.slice a1 l.length c1, .slice a2 r.length c2] 22)) W.heap.size 2 (n + 1) [l, r] (by simp) (two_rows ((hl.below bW).up bW.size) ((hr.below bW).up bW.size)) (by simp; omega))
  have hfl : [l, r].flatten = l ++ r := by simp
  rw [hfl] at HQ
  clear hfl
  have hlen2 : [l, r].length = 2 := rfl
  rw [hlen2] at HQ
  clear hlen2
  rw [← hF] at HQ
  have hrF : ∀ x ∈ F, rightV x = true := fun x hx => by
    rw [hF] at hx
    rcases List.mem_append.1 hx with h | h
    · exact rl x h
    · exact rr x h
  have HS := hide (fun (U : World) (b : Below w.heap.size w U) (s : Value) (hi : ItemsAt U U.heap.size (n + 2) s F) => setR_k F U n s (hT.below b) hi (by have := size_len ⟨7, 0, 0, ⟨#[]⟩, F⟩; simp only at this; omega) hrF hFz)
  rw [hR] at HS
  simp only [cond_true] at HS
  have E1 := hide e1
  clear e1 hl hr hT rl rr zl zr hrF hF hR
  go_enter Tryz.func74, Tryz.ntmps74
  go_wp2_with (first
    | (go_at_call 119; refine HQ.out.mono ?_; clear HQ; rintro e w2 ⟨s2, rfl, i2, b2'⟩; have b2 := trans_v (alloc_v (Below.refl _ _) _) b2'; obtain ⟨s2a, s2c, rfl, _⟩ := i2.len; have I2 := hide i2; have BT2 := hide b2; clear i2 b2 b2')
    | (go_at_call 46; refine (HS.out _ (trans_v bW BT2.out) _ I2.out).mono ?_; clear HS; rintro e w4 ⟨s4, rfl, i4, b4⟩; obtain ⟨s4a, s4c, rfl, _⟩ := (i4 trivial).len; have I4 := hide (i4 trivial); have BT4 := hide (trans_v BT2.out b4); clear i4 b4)
    | (go_at_call 118; refine (limited_ok (setVl F) s4a (setV F).length s4c _).mono ?_; rintro e w5 ⟨rfl, b5⟩; have I5 := hide (ItemsIn.kept (w' := w5) (S' := fun b => w2.heap.size < b ∧ b < w4.heap.size) (fun b o hb => World.cell?_of_block (b5.block b hb.2)) (fun _ hb => hb) I4.out); have B5 := hide b5; have BT5 := hide (trans_v BT4.out b5); have f5 := (BT5.out.block _ zW).trans E1.out; have F5 := hide f5; have y0 := cells_at f5 0 _ rfl; have y1 := cells_at f5 1 _ rfl; have y2 := cells_at f5 2 _ rfl; have y3 := cells_at f5 3 _ rfl; have y4 := cells_at f5 4 _ rfl; have q0 := frozen_at f5 0; have q1 := frozen_at f5 1; have q2 := frozen_at f5 2; have q3 := frozen_at f5 3; have q4 := frozen_at f5 4; clear f5 b5))
  have g := stored w w5 7 0 0 ⟨#[]⟩ (.slice s4a (setV F).length s4c) zcells w.heap.size (Nat.le_refl _) (trans_v bW BT5.out) rfl F5.out
  refine bodyPost_ret (results_struct_tmp rfl _ _ w.heap.size _ _ _ _ rfl g.1 Tryz.underlying25 rfl infoVal5) rfl ?_
  have hz2 := BT2.out.size
  have hz5 := B5.out.size
  exact ⟨_, rfl, ItemsIn.kept (fun b o hb => stored_cell _ _ _ _ _ _ _ _ _ (show b ≠ w.heap.size by have := hb.1; omega)) (fun b hb => ⟨by have := hb.1; omega, by simp only [World.setCell, Array.size_modify]; omega⟩) I5.out, g.2⟩
set_option maxRecDepth 100000 in
set_option maxHeartbeats 2000000 in
theorem ofSets_and (l r F : List Vl) (hF : F = l.filter (fun x => hasV r x == true)) (w : World) (n : Nat) (sl sr : Value) (hT : TabL w) (hl : ItemsAt w w.heap.size (n + 2) sl l) (hr : ItemsAt w w.heap.size (n + 2) sr r) (rl : ∀ x ∈ l, rightV x = true) (rr : ∀ x ∈ r, rightV x = true)
    (zl : ∀ x ∈ l, x.size ≤ 1000000000) (zr : ∀ x ∈ r, x.size ≤ 1000000000) (hlen : l.length + r.length ≤ 1000000000) (hFz : (⟨7, 0, 0, ⟨#[]⟩, F⟩ : Vl).size ≤ 1000000000) (hR : rightV (setVl F) = true) :
    Calls Tryz.prog 74 #[.string ⟨#[38]⟩, sl, sr] w fun e w' => ∃ s', e = .returned (.tuple #[.agg (vcells (setVl F) s'), .int .i64 0]) ∧ ItemsIn w' (fun b => w.heap.size < b ∧ b < w'.heap.size) (n + 2) s' (setV F) ∧ Below w.heap.size w w' := by
  obtain ⟨W, hW⟩ : ∃ W, w.alloc (.cells zcells 25) = W := ⟨_, rfl⟩
  have bW : Below w.heap.size w W := by rw [← hW]; exact alloc_v (Below.refl _ _) _
  have e1 : W.heap[w.heap.size]? = some (.cells zcells 25 (0, 0)) := by rw [← hW]; exact World.alloc_heap_new w _
  have zW : w.heap.size < W.heap.size := (Array.getElem?_eq_some_iff.1 e1).1
  obtain ⟨a1, c1, rfl, _⟩ := hl.len
  obtain ⟨a2, c2, rfl, _⟩ := hr.len
  have HQ := hide (shared_k l r true W (n + 1) (.slice a1 l.length c1) (.slice a2 r.length c2) (hT.below bW) ((hl.below bW).up bW.size) ((hr.below bW).up bW.size) rl rr zl zr (by omega) (by omega))
  rw [← hF] at HQ
  have hrF : ∀ x ∈ F, rightV x = true := fun x hx => by
    rw [hF] at hx
    exact rl x (List.mem_filter.1 hx).1
  have HS := hide (fun (U : World) (b : Below w.heap.size w U) (s : Value) (hi : ItemsAt U U.heap.size (n + 2) s F) => setR_k F U n s (hT.below b) hi (by have := size_len ⟨7, 0, 0, ⟨#[]⟩, F⟩; simp only at this; omega) hrF hFz)
  rw [hR] at HS
  simp only [cond_true] at HS
  have E1 := hide e1
  clear e1 hl hr hT rl rr zl zr hrF hF hR
  go_enter Tryz.func74, Tryz.ntmps74
  go_wp2_with (first
    | (go_at_call 120; refine HQ.out.mono ?_; clear HQ; rintro e w2 ⟨s2, rfl, i2, b2⟩; obtain ⟨s2a, s2c, rfl, _⟩ := i2.len; have I2 := hide i2; have BT2 := hide b2; clear i2 b2)
    | (go_at_call 46; refine (HS.out _ (trans_v bW BT2.out) _ I2.out).mono ?_; clear HS; rintro e w4 ⟨s4, rfl, i4, b4⟩; obtain ⟨s4a, s4c, rfl, _⟩ := (i4 trivial).len; have I4 := hide (i4 trivial); have BT4 := hide (trans_v BT2.out b4); clear i4 b4)
    | (go_at_call 118; refine (limited_ok (setVl F) s4a (setV F).length s4c _).mono ?_; rintro e w5 ⟨rfl, b5⟩; have I5 := hide (ItemsIn.kept (w' := w5) (S' := fun b => w2.heap.size < b ∧ b < w4.heap.size) (fun b o hb => World.cell?_of_block (b5.block b hb.2)) (fun _ hb => hb) I4.out); have B5 := hide b5; have BT5 := hide (trans_v BT4.out b5); have f5 := (BT5.out.block _ zW).trans E1.out; have F5 := hide f5; have y0 := cells_at f5 0 _ rfl; have y1 := cells_at f5 1 _ rfl; have y2 := cells_at f5 2 _ rfl; have y3 := cells_at f5 3 _ rfl; have y4 := cells_at f5 4 _ rfl; have q0 := frozen_at f5 0; have q1 := frozen_at f5 1; have q2 := frozen_at f5 2; have q3 := frozen_at f5 3; have q4 := frozen_at f5 4; clear f5 b5))
  have g := stored w w5 7 0 0 ⟨#[]⟩ (.slice s4a (setV F).length s4c) zcells w.heap.size (Nat.le_refl _) (trans_v bW BT5.out) rfl F5.out
  refine bodyPost_ret (results_struct_tmp rfl _ _ w.heap.size _ _ _ _ rfl g.1 Tryz.underlying25 rfl infoVal5) rfl ?_
  have hz2 := BT2.out.size
  have hz5 := B5.out.size
  exact ⟨_, rfl, ItemsIn.kept (fun b o hb => stored_cell _ _ _ _ _ _ _ _ _ (show b ≠ w.heap.size by have := hb.1; omega)) (fun b hb => ⟨by have := hb.1; omega, by simp only [World.setCell, Array.size_modify]; omega⟩) I5.out, g.2⟩
set_option maxRecDepth 100000 in
set_option maxHeartbeats 2000000 in
theorem ofSets_minus (l r F : List Vl) (hF : F = l.filter (fun x => hasV r x == false)) (w : World) (n : Nat) (sl sr : Value) (hT : TabL w) (hl : ItemsAt w w.heap.size (n + 2) sl l) (hr : ItemsAt w w.heap.size (n + 2) sr r) (rl : ∀ x ∈ l, rightV x = true) (rr : ∀ x ∈ r, rightV x = true)
    (zl : ∀ x ∈ l, x.size ≤ 1000000000) (zr : ∀ x ∈ r, x.size ≤ 1000000000) (hlen : l.length + r.length ≤ 1000000000) (hFz : (⟨7, 0, 0, ⟨#[]⟩, F⟩ : Vl).size ≤ 1000000000) (hR : rightV (setVl F) = true) :
    Calls Tryz.prog 74 #[.string ⟨#[92]⟩, sl, sr] w fun e w' => ∃ s', e = .returned (.tuple #[.agg (vcells (setVl F) s'), .int .i64 0]) ∧ ItemsIn w' (fun b => w.heap.size < b ∧ b < w'.heap.size) (n + 2) s' (setV F) ∧ Below w.heap.size w w' := by
  obtain ⟨W, hW⟩ : ∃ W, w.alloc (.cells zcells 25) = W := ⟨_, rfl⟩
  have bW : Below w.heap.size w W := by rw [← hW]; exact alloc_v (Below.refl _ _) _
  have e1 : W.heap[w.heap.size]? = some (.cells zcells 25 (0, 0)) := by rw [← hW]; exact World.alloc_heap_new w _
  have zW : w.heap.size < W.heap.size := (Array.getElem?_eq_some_iff.1 e1).1
  obtain ⟨a1, c1, rfl, _⟩ := hl.len
  obtain ⟨a2, c2, rfl, _⟩ := hr.len
  have HQ := hide (shared_k l r false W (n + 1) (.slice a1 l.length c1) (.slice a2 r.length c2) (hT.below bW) ((hl.below bW).up bW.size) ((hr.below bW).up bW.size) rl rr zl zr (by omega) (by omega))
  rw [← hF] at HQ
  have hrF : ∀ x ∈ F, rightV x = true := fun x hx => by
    rw [hF] at hx
    exact rl x (List.mem_filter.1 hx).1
  have HS := hide (fun (U : World) (b : Below w.heap.size w U) (s : Value) (hi : ItemsAt U U.heap.size (n + 2) s F) => setR_k F U n s (hT.below b) hi (by have := size_len ⟨7, 0, 0, ⟨#[]⟩, F⟩; simp only at this; omega) hrF hFz)
  rw [hR] at HS
  simp only [cond_true] at HS
  have E1 := hide e1
  clear e1 hl hr hT rl rr zl zr hrF hF hR
  go_enter Tryz.func74, Tryz.ntmps74
  go_wp2_with (first
    | (go_at_call 120; refine HQ.out.mono ?_; clear HQ; rintro e w2 ⟨s2, rfl, i2, b2⟩; obtain ⟨s2a, s2c, rfl, _⟩ := i2.len; have I2 := hide i2; have BT2 := hide b2; clear i2 b2)
    | (go_at_call 46; refine (HS.out _ (trans_v bW BT2.out) _ I2.out).mono ?_; clear HS; rintro e w4 ⟨s4, rfl, i4, b4⟩; obtain ⟨s4a, s4c, rfl, _⟩ := (i4 trivial).len; have I4 := hide (i4 trivial); have BT4 := hide (trans_v BT2.out b4); clear i4 b4)
    | (go_at_call 118; refine (limited_ok (setVl F) s4a (setV F).length s4c _).mono ?_; rintro e w5 ⟨rfl, b5⟩; have I5 := hide (ItemsIn.kept (w' := w5) (S' := fun b => w2.heap.size < b ∧ b < w4.heap.size) (fun b o hb => World.cell?_of_block (b5.block b hb.2)) (fun _ hb => hb) I4.out); have B5 := hide b5; have BT5 := hide (trans_v BT4.out b5); have f5 := (BT5.out.block _ zW).trans E1.out; have F5 := hide f5; have y0 := cells_at f5 0 _ rfl; have y1 := cells_at f5 1 _ rfl; have y2 := cells_at f5 2 _ rfl; have y3 := cells_at f5 3 _ rfl; have y4 := cells_at f5 4 _ rfl; have q0 := frozen_at f5 0; have q1 := frozen_at f5 1; have q2 := frozen_at f5 2; have q3 := frozen_at f5 3; have q4 := frozen_at f5 4; clear f5 b5))
  have g := stored w w5 7 0 0 ⟨#[]⟩ (.slice s4a (setV F).length s4c) zcells w.heap.size (Nat.le_refl _) (trans_v bW BT5.out) rfl F5.out
  refine bodyPost_ret (results_struct_tmp rfl _ _ w.heap.size _ _ _ _ rfl g.1 Tryz.underlying25 rfl infoVal5) rfl ?_
  have hz2 := BT2.out.size
  have hz5 := B5.out.size
  exact ⟨_, rfl, ItemsIn.kept (fun b o hb => stored_cell _ _ _ _ _ _ _ _ _ (show b ≠ w.heap.size by have := hb.1; omega)) (fun b hb => ⟨by have := hb.1; omega, by simp only [World.setCell, Array.size_modify]; omega⟩) I5.out, g.2⟩
set_option maxRecDepth 100000 in
set_option maxHeartbeats 2000000 in
theorem binSets_or (a b : Vl) (F : List Vl) (hF : F = a.items ++ b.items) (w : World) (n : Nat) (sa sb : Value) (hT : TabL w) (oa : a.ok) (ob : b.ok) (ha : ItemsAt w w.heap.size (n + 2) sa a.items) (hb : ItemsAt w w.heap.size (n + 2) sb b.items) (ka : a.kind = 7) (kb : b.kind = 7) (za : a.size ≤ 1000000) (zb : b.size ≤ 1000000) (hR : rightV (setVl F) = true) (ra : rightV a = true) (rb : rightV b = true) :
    Calls Tryz.prog 26 #[.string ⟨#[124]⟩, .agg (vcells a sa), .agg (vcells b sb)] w fun e w' => ∃ s', e = .returned (.tuple #[.agg (vcells (setVl F) s'), .int .i64 0]) ∧ ItemsAt w' w'.heap.size (n + 2) s' (setV F) ∧ Below w.heap.size w w' := by
  obtain ⟨W, hW⟩ : ∃ W, ((w.alloc (.cells (vcells a sa) 25)).alloc (.cells (vcells b sb) 25)).alloc (.cells zcells 25) = W := ⟨_, rfl⟩
  have bW : Below w.heap.size w W := by rw [← hW]; exact alloc_v (two_below _ _ _) _
  have e1 : W.heap[w.heap.size]? = some (.cells (vcells a sa) 25 (0, 0)) := by rw [← hW]; exact three_first _ _ _ _
  have e2 : W.heap[w.heap.size + 1]? = some (.cells (vcells b sb) 25 (0, 0)) := by rw [← hW]; exact three_second _ _ _ _
  have e3 : W.heap[w.heap.size + 2]? = some (.cells zcells 25 (0, 0)) := by rw [← hW]; exact three_third _ _ _ _
  have zW : w.heap.size + 2 < W.heap.size := (Array.getElem?_eq_some_iff.1 e3).1
  have x0 := cells_at e1 0 _ rfl
  have x1 := cells_at e1 1 _ rfl
  have x2 := cells_at e1 2 _ rfl
  have x3 := cells_at e1 3 _ rfl
  have x4 := cells_at e1 4 _ rfl
  have r0 := cells_at e2 0 _ rfl
  have r1 := cells_at e2 1 _ rfl
  have r2 := cells_at e2 2 _ rfl
  have r3 := cells_at e2 3 _ rfl
  have r4 := cells_at e2 4 _ rfl
  have E1 := hide e1
  have E2 := hide e2
  have E3 := hide e3
  have HR := hide (aright_k [a, b] (W.alloc (.cells #[.int .i64 a.kind, .int .i64 a.int, .int .i64 a.im, .string a.text, sa, .int .i64 b.kind, .int .i64 b.int, .int .i64 b.im, .string b.text, sb] 25)) (n + 2) (.slice (some ⟨W.heap.size, 0, none⟩) 2 2) (hT.below (alloc_v bW _)) ((items_two ((ha.below bW).up bW.size).more ((hb.below bW).up bW.size).more oa ob).up (by simp)))
  have hall : [a, b].all rightV = (rightV a && rightV b) := by simp
  rw [hall] at HR
  have hFz : (⟨7, 0, 0, ⟨#[]⟩, F⟩ : Vl).size ≤ 1000000000 := by
    rw [Vl.size_eq] at za zb ⊢
    rw [hF]
    simp only [List.map_append, List.sum_append]
    omega
  have HI := hide (fun (U : World) (u : Below W.heap.size W U) => ofSets_or a.items b.items F hF U n sa sb (hT.below (trans_v bW u)) ((ha.below (trans_v bW u)).up (trans_v bW u).size) ((hb.below (trans_v bW u)).up (trans_v bW u).size) (fun x hx => right_item ra hx) (fun x hx => right_item rb hx) (fun x hx => by have := Vl.size_item hx; omega) (fun x hx => by have := Vl.size_item hx; omega) (by have := size_len a; have := size_len b; omega) hFz hR)
  clear hFz
  obtain ⟨a1, c1, rfl, _⟩ := ha.len
  obtain ⟨a2, c2, rfl, _⟩ := hb.len
  clear ha hb e1 e2 e3 hT hall
  rw [ra, rb] at HR
  clear ra rb
  obtain ⟨k, i, m, t, l⟩ := a
  obtain ⟨k', i', m', t', l'⟩ := b
  simp only at *
  subst ka kb
  clear hF hR za zb oa ob
  go_enter Tryz.func26, Tryz.ntmps26
  go_wp2_with (first | (go_at_call 66; refine HR.out.mono ?_; clear HR; rintro e w2 ⟨rfl, b2⟩; have b3 := trans_v (alloc_v (Below.refl _ _) _) b2; have f1 := (b3.block _ (show w.heap.size < W.heap.size by omega)).trans E1.out; have f2 := (b3.block _ (show w.heap.size + 1 < W.heap.size by omega)).trans E2.out; have f3 := (b3.block _ zW).trans E3.out; have F1 := hide f1; have F2 := hide f2; have F3 := hide f3; have z0 := cells_at f1 0 _ rfl; have z1 := cells_at f1 1 _ rfl; have z2 := cells_at f1 2 _ rfl; have z3 := cells_at f1 3 _ rfl; have z4 := cells_at f1 4 _ rfl; have s0 := cells_at f2 0 _ rfl; have s1 := cells_at f2 1 _ rfl; have s2 := cells_at f2 2 _ rfl; have s3 := cells_at f2 3 _ rfl; have s4 := cells_at f2 4 _ rfl; have y0 := cells_at f3 0 _ rfl; have y1 := cells_at f3 1 _ rfl; have y2 := cells_at f3 2 _ rfl; have y3 := cells_at f3 3 _ rfl; have y4 := cells_at f3 4 _ rfl; have q0 := frozen_at f3 0; have q1 := frozen_at f3 1; have q2 := frozen_at f3 2; have q3 := frozen_at f3 3; have q4 := frozen_at f3 4; clear f1 f2 f3) | (go_at_call 74; refine (HI.out _ b3).mono ?_; clear HI; rintro e w4 ⟨s4, rfl, i4, b4⟩; obtain ⟨s4a, s4c, rfl, _⟩ := i4.len; have I4 := hide i4; clear i4; have g3 := (b4.block _ (Nat.lt_of_lt_of_le zW b3.size)).trans F3.out; have G3 := hide g3; have u0 := cells_at g3 0 _ rfl; have u1 := cells_at g3 1 _ rfl; have u2 := cells_at g3 2 _ rfl; have u3 := cells_at g3 3 _ rfl; have u4 := cells_at g3 4 _ rfl; have p0 := frozen_at g3 0; have p1 := frozen_at g3 1; have p2 := frozen_at g3 2; have p3 := frozen_at g3 3; have p4 := frozen_at g3 4; clear g3))
  have g := stored w w4 7 0 0 ⟨#[]⟩ (.slice s4a (setV F).length s4c) zcells (w.heap.size + 2) (by omega) (trans_v (trans_v bW b3) b4) rfl G3.out
  refine bodyPost_ret (results_struct_tmp rfl _ _ (w.heap.size + 2) _ _ _ _ rfl g.1 Tryz.underlying25 rfl infoVal5) rfl ?_
  have hb3 := b3.size
  exact ⟨_, rfl, ItemsIn.at (S := fun b => w2.heap.size < b ∧ b < w4.heap.size) (fun b hb => by simp only [World.setCell, Array.size_modify]; exact hb.2) (ItemsIn.kept (fun b o hb => stored_cell _ _ _ _ _ _ _ _ _ (show b ≠ w.heap.size + 2 by have := hb.1; omega)) (fun _ hb => hb) I4.out), g.2⟩
set_option maxRecDepth 100000 in
set_option maxHeartbeats 2000000 in
theorem binSets_and (a b : Vl) (F : List Vl) (hF : F = a.items.filter (fun x => hasV b.items x == true)) (w : World) (n : Nat) (sa sb : Value) (hT : TabL w) (oa : a.ok) (ob : b.ok) (ha : ItemsAt w w.heap.size (n + 2) sa a.items) (hb : ItemsAt w w.heap.size (n + 2) sb b.items) (ka : a.kind = 7) (kb : b.kind = 7) (za : a.size ≤ 1000000) (zb : b.size ≤ 1000000) (hR : rightV (setVl F) = true) (ra : rightV a = true) (rb : rightV b = true) :
    Calls Tryz.prog 26 #[.string ⟨#[38]⟩, .agg (vcells a sa), .agg (vcells b sb)] w fun e w' => ∃ s', e = .returned (.tuple #[.agg (vcells (setVl F) s'), .int .i64 0]) ∧ ItemsAt w' w'.heap.size (n + 2) s' (setV F) ∧ Below w.heap.size w w' := by
  obtain ⟨W, hW⟩ : ∃ W, ((w.alloc (.cells (vcells a sa) 25)).alloc (.cells (vcells b sb) 25)).alloc (.cells zcells 25) = W := ⟨_, rfl⟩
  have bW : Below w.heap.size w W := by rw [← hW]; exact alloc_v (two_below _ _ _) _
  have e1 : W.heap[w.heap.size]? = some (.cells (vcells a sa) 25 (0, 0)) := by rw [← hW]; exact three_first _ _ _ _
  have e2 : W.heap[w.heap.size + 1]? = some (.cells (vcells b sb) 25 (0, 0)) := by rw [← hW]; exact three_second _ _ _ _
  have e3 : W.heap[w.heap.size + 2]? = some (.cells zcells 25 (0, 0)) := by rw [← hW]; exact three_third _ _ _ _
  have zW : w.heap.size + 2 < W.heap.size := (Array.getElem?_eq_some_iff.1 e3).1
  have x0 := cells_at e1 0 _ rfl
  have x1 := cells_at e1 1 _ rfl
  have x2 := cells_at e1 2 _ rfl
  have x3 := cells_at e1 3 _ rfl
  have x4 := cells_at e1 4 _ rfl
  have r0 := cells_at e2 0 _ rfl
  have r1 := cells_at e2 1 _ rfl
  have r2 := cells_at e2 2 _ rfl
  have r3 := cells_at e2 3 _ rfl
  have r4 := cells_at e2 4 _ rfl
  have E1 := hide e1
  have E2 := hide e2
  have E3 := hide e3
  have HR := hide (aright_k [a, b] (W.alloc (.cells #[.int .i64 a.kind, .int .i64 a.int, .int .i64 a.im, .string a.text, sa, .int .i64 b.kind, .int .i64 b.int, .int .i64 b.im, .string b.text, sb] 25)) (n + 2) (.slice (some ⟨W.heap.size, 0, none⟩) 2 2) (hT.below (alloc_v bW _)) ((items_two ((ha.below bW).up bW.size).more ((hb.below bW).up bW.size).more oa ob).up (by simp)))
  have hall : [a, b].all rightV = (rightV a && rightV b) := by simp
  rw [hall] at HR
  have hFz : (⟨7, 0, 0, ⟨#[]⟩, F⟩ : Vl).size ≤ 1000000000 := by
    rw [Vl.size_eq] at za zb ⊢
    have := filter_sum (fun x => hasV b.items x == true) a.items
    rw [← hF] at this
    simp only at this ⊢
    omega
  have HI := hide (fun (U : World) (u : Below W.heap.size W U) => ofSets_and a.items b.items F hF U n sa sb (hT.below (trans_v bW u)) ((ha.below (trans_v bW u)).up (trans_v bW u).size) ((hb.below (trans_v bW u)).up (trans_v bW u).size) (fun x hx => right_item ra hx) (fun x hx => right_item rb hx) (fun x hx => by have := Vl.size_item hx; omega) (fun x hx => by have := Vl.size_item hx; omega) (by have := size_len a; have := size_len b; omega) hFz hR)
  clear hFz
  obtain ⟨a1, c1, rfl, _⟩ := ha.len
  obtain ⟨a2, c2, rfl, _⟩ := hb.len
  clear ha hb e1 e2 e3 hT hall
  rw [ra, rb] at HR
  clear ra rb
  obtain ⟨k, i, m, t, l⟩ := a
  obtain ⟨k', i', m', t', l'⟩ := b
  simp only at *
  subst ka kb
  clear hF hR za zb oa ob
  go_enter Tryz.func26, Tryz.ntmps26
  go_wp2_with (first | (go_at_call 66; refine HR.out.mono ?_; clear HR; rintro e w2 ⟨rfl, b2⟩; have b3 := trans_v (alloc_v (Below.refl _ _) _) b2; have f1 := (b3.block _ (show w.heap.size < W.heap.size by omega)).trans E1.out; have f2 := (b3.block _ (show w.heap.size + 1 < W.heap.size by omega)).trans E2.out; have f3 := (b3.block _ zW).trans E3.out; have F1 := hide f1; have F2 := hide f2; have F3 := hide f3; have z0 := cells_at f1 0 _ rfl; have z1 := cells_at f1 1 _ rfl; have z2 := cells_at f1 2 _ rfl; have z3 := cells_at f1 3 _ rfl; have z4 := cells_at f1 4 _ rfl; have s0 := cells_at f2 0 _ rfl; have s1 := cells_at f2 1 _ rfl; have s2 := cells_at f2 2 _ rfl; have s3 := cells_at f2 3 _ rfl; have s4 := cells_at f2 4 _ rfl; have y0 := cells_at f3 0 _ rfl; have y1 := cells_at f3 1 _ rfl; have y2 := cells_at f3 2 _ rfl; have y3 := cells_at f3 3 _ rfl; have y4 := cells_at f3 4 _ rfl; have q0 := frozen_at f3 0; have q1 := frozen_at f3 1; have q2 := frozen_at f3 2; have q3 := frozen_at f3 3; have q4 := frozen_at f3 4; clear f1 f2 f3) | (go_at_call 74; refine (HI.out _ b3).mono ?_; clear HI; rintro e w4 ⟨s4, rfl, i4, b4⟩; obtain ⟨s4a, s4c, rfl, _⟩ := i4.len; have I4 := hide i4; clear i4; have g3 := (b4.block _ (Nat.lt_of_lt_of_le zW b3.size)).trans F3.out; have G3 := hide g3; have u0 := cells_at g3 0 _ rfl; have u1 := cells_at g3 1 _ rfl; have u2 := cells_at g3 2 _ rfl; have u3 := cells_at g3 3 _ rfl; have u4 := cells_at g3 4 _ rfl; have p0 := frozen_at g3 0; have p1 := frozen_at g3 1; have p2 := frozen_at g3 2; have p3 := frozen_at g3 3; have p4 := frozen_at g3 4; clear g3))
  have g := stored w w4 7 0 0 ⟨#[]⟩ (.slice s4a (setV F).length s4c) zcells (w.heap.size + 2) (by omega) (trans_v (trans_v bW b3) b4) rfl G3.out
  refine bodyPost_ret (results_struct_tmp rfl _ _ (w.heap.size + 2) _ _ _ _ rfl g.1 Tryz.underlying25 rfl infoVal5) rfl ?_
  have hb3 := b3.size
  exact ⟨_, rfl, ItemsIn.at (S := fun b => w2.heap.size < b ∧ b < w4.heap.size) (fun b hb => by simp only [World.setCell, Array.size_modify]; exact hb.2) (ItemsIn.kept (fun b o hb => stored_cell _ _ _ _ _ _ _ _ _ (show b ≠ w.heap.size + 2 by have := hb.1; omega)) (fun _ hb => hb) I4.out), g.2⟩
set_option maxRecDepth 100000 in
set_option maxHeartbeats 2000000 in
theorem binSets_minus (a b : Vl) (F : List Vl) (hF : F = a.items.filter (fun x => hasV b.items x == false)) (w : World) (n : Nat) (sa sb : Value) (hT : TabL w) (oa : a.ok) (ob : b.ok) (ha : ItemsAt w w.heap.size (n + 2) sa a.items) (hb : ItemsAt w w.heap.size (n + 2) sb b.items) (ka : a.kind = 7) (kb : b.kind = 7) (za : a.size ≤ 1000000) (zb : b.size ≤ 1000000) (hR : rightV (setVl F) = true) (ra : rightV a = true) (rb : rightV b = true) :
    Calls Tryz.prog 26 #[.string ⟨#[92]⟩, .agg (vcells a sa), .agg (vcells b sb)] w fun e w' => ∃ s', e = .returned (.tuple #[.agg (vcells (setVl F) s'), .int .i64 0]) ∧ ItemsAt w' w'.heap.size (n + 2) s' (setV F) ∧ Below w.heap.size w w' := by
  obtain ⟨W, hW⟩ : ∃ W, ((w.alloc (.cells (vcells a sa) 25)).alloc (.cells (vcells b sb) 25)).alloc (.cells zcells 25) = W := ⟨_, rfl⟩
  have bW : Below w.heap.size w W := by rw [← hW]; exact alloc_v (two_below _ _ _) _
  have e1 : W.heap[w.heap.size]? = some (.cells (vcells a sa) 25 (0, 0)) := by rw [← hW]; exact three_first _ _ _ _
  have e2 : W.heap[w.heap.size + 1]? = some (.cells (vcells b sb) 25 (0, 0)) := by rw [← hW]; exact three_second _ _ _ _
  have e3 : W.heap[w.heap.size + 2]? = some (.cells zcells 25 (0, 0)) := by rw [← hW]; exact three_third _ _ _ _
  have zW : w.heap.size + 2 < W.heap.size := (Array.getElem?_eq_some_iff.1 e3).1
  have x0 := cells_at e1 0 _ rfl
  have x1 := cells_at e1 1 _ rfl
  have x2 := cells_at e1 2 _ rfl
  have x3 := cells_at e1 3 _ rfl
  have x4 := cells_at e1 4 _ rfl
  have r0 := cells_at e2 0 _ rfl
  have r1 := cells_at e2 1 _ rfl
  have r2 := cells_at e2 2 _ rfl
  have r3 := cells_at e2 3 _ rfl
  have r4 := cells_at e2 4 _ rfl
  have E1 := hide e1
  have E2 := hide e2
  have E3 := hide e3
  have HR := hide (aright_k [a, b] (W.alloc (.cells #[.int .i64 a.kind, .int .i64 a.int, .int .i64 a.im, .string a.text, sa, .int .i64 b.kind, .int .i64 b.int, .int .i64 b.im, .string b.text, sb] 25)) (n + 2) (.slice (some ⟨W.heap.size, 0, none⟩) 2 2) (hT.below (alloc_v bW _)) ((items_two ((ha.below bW).up bW.size).more ((hb.below bW).up bW.size).more oa ob).up (by simp)))
  have hall : [a, b].all rightV = (rightV a && rightV b) := by simp
  rw [hall] at HR
  have hFz : (⟨7, 0, 0, ⟨#[]⟩, F⟩ : Vl).size ≤ 1000000000 := by
    rw [Vl.size_eq] at za zb ⊢
    have := filter_sum (fun x => hasV b.items x == false) a.items
    rw [← hF] at this
    simp only at this ⊢
    omega
  have HI := hide (fun (U : World) (u : Below W.heap.size W U) => ofSets_minus a.items b.items F hF U n sa sb (hT.below (trans_v bW u)) ((ha.below (trans_v bW u)).up (trans_v bW u).size) ((hb.below (trans_v bW u)).up (trans_v bW u).size) (fun x hx => right_item ra hx) (fun x hx => right_item rb hx) (fun x hx => by have := Vl.size_item hx; omega) (fun x hx => by have := Vl.size_item hx; omega) (by have := size_len a; have := size_len b; omega) hFz hR)
  clear hFz
  obtain ⟨a1, c1, rfl, _⟩ := ha.len
  obtain ⟨a2, c2, rfl, _⟩ := hb.len
  clear ha hb e1 e2 e3 hT hall
  rw [ra, rb] at HR
  clear ra rb
  obtain ⟨k, i, m, t, l⟩ := a
  obtain ⟨k', i', m', t', l'⟩ := b
  simp only at *
  subst ka kb
  clear hF hR za zb oa ob
  go_enter Tryz.func26, Tryz.ntmps26
  go_wp2_with (first | (go_at_call 66; refine HR.out.mono ?_; clear HR; rintro e w2 ⟨rfl, b2⟩; have b3 := trans_v (alloc_v (Below.refl _ _) _) b2; have f1 := (b3.block _ (show w.heap.size < W.heap.size by omega)).trans E1.out; have f2 := (b3.block _ (show w.heap.size + 1 < W.heap.size by omega)).trans E2.out; have f3 := (b3.block _ zW).trans E3.out; have F1 := hide f1; have F2 := hide f2; have F3 := hide f3; have z0 := cells_at f1 0 _ rfl; have z1 := cells_at f1 1 _ rfl; have z2 := cells_at f1 2 _ rfl; have z3 := cells_at f1 3 _ rfl; have z4 := cells_at f1 4 _ rfl; have s0 := cells_at f2 0 _ rfl; have s1 := cells_at f2 1 _ rfl; have s2 := cells_at f2 2 _ rfl; have s3 := cells_at f2 3 _ rfl; have s4 := cells_at f2 4 _ rfl; have y0 := cells_at f3 0 _ rfl; have y1 := cells_at f3 1 _ rfl; have y2 := cells_at f3 2 _ rfl; have y3 := cells_at f3 3 _ rfl; have y4 := cells_at f3 4 _ rfl; have q0 := frozen_at f3 0; have q1 := frozen_at f3 1; have q2 := frozen_at f3 2; have q3 := frozen_at f3 3; have q4 := frozen_at f3 4; clear f1 f2 f3) | (go_at_call 74; refine (HI.out _ b3).mono ?_; clear HI; rintro e w4 ⟨s4, rfl, i4, b4⟩; obtain ⟨s4a, s4c, rfl, _⟩ := i4.len; have I4 := hide i4; clear i4; have g3 := (b4.block _ (Nat.lt_of_lt_of_le zW b3.size)).trans F3.out; have G3 := hide g3; have u0 := cells_at g3 0 _ rfl; have u1 := cells_at g3 1 _ rfl; have u2 := cells_at g3 2 _ rfl; have u3 := cells_at g3 3 _ rfl; have u4 := cells_at g3 4 _ rfl; have p0 := frozen_at g3 0; have p1 := frozen_at g3 1; have p2 := frozen_at g3 2; have p3 := frozen_at g3 3; have p4 := frozen_at g3 4; clear g3))
  have g := stored w w4 7 0 0 ⟨#[]⟩ (.slice s4a (setV F).length s4c) zcells (w.heap.size + 2) (by omega) (trans_v (trans_v bW b3) b4) rfl G3.out
  refine bodyPost_ret (results_struct_tmp rfl _ _ (w.heap.size + 2) _ _ _ _ rfl g.1 Tryz.underlying25 rfl infoVal5) rfl ?_
  have hb3 := b3.size
  exact ⟨_, rfl, ItemsIn.at (S := fun b => w2.heap.size < b ∧ b < w4.heap.size) (fun b hb => by simp only [World.setCell, Array.size_modify]; exact hb.2) (ItemsIn.kept (fun b o hb => stored_cell _ _ _ _ _ _ _ _ _ (show b ≠ w.heap.size + 2 by have := hb.1; omega)) (fun _ hb => hb) I4.out), g.2⟩
end Go.Proofs.YtgglommnipbagaaGreatDoor

/- Sets of right values: plain mathematics. -/
namespace Go.Proofs.YtgglommnipbagaaGreatDoor
open Go.RowKit

theorem riseB_rises : ∀ {l : List Vl}, riseB l = true → Rises l := by
  intro l h
  rw [riseB_iff] at h
  have step : ∀ d i (hi : i + d + 1 < l.length), ordV (l[i]'(by omega)) l[i + d + 1] < 0 := by
    intro d
    induction d with
    | zero => intro i hi; exact h i hi
    | succ d ih =>
      intro i hi
      exact ordV_trans (ih i (by omega)) (h (i + d + 1) (by omega))
  refine List.pairwise_iff_getElem.2 fun i j hi hj hij => ?_
  obtain ⟨d, rfl⟩ : ∃ d, j = i + d + 1 := ⟨j - i - 1, by omega⟩
  exact step d i hj
theorem set_rises {a : Vl} (h : rightV a = true) (hk : a.kind = 7) : Rises a.items := by
  have := form_right h
  rw [formV_eq] at this
  simp only [Bool.and_eq_true, hk] at this
  refine riseB_rises ?_
  simpa using this.2.2
theorem set_eq {a : Vl} (h : rightV a = true) (hk : a.kind = 7) : a = ⟨7, 0, 0, ⟨#[]⟩, a.items⟩ := by
  have hu := (form_parts (form_right h)).1.1
  obtain ⟨k, i, m, t, l⟩ := a
  simp only at hk
  subst hk
  unfold usedB at hu
  simp at hu
  obtain ⟨⟨rfl, rfl⟩, ht⟩ := hu
  rw [text_nil (t := t) (by simpa using ht)]
/-- A part of a right set is a right set. -/
theorem right_sub {a : Vl} (h : rightV a = true) (hk : a.kind = 7) {l : List Vl} (hl : l.Sublist a.items) : rightV ⟨7, 0, 0, ⟨#[]⟩, l⟩ = true ∧ setV l = l := by
  have hr : Rises l := List.Pairwise.sublist hl (set_rises h hk)
  have hs := right_size h
  have hm : ∀ x ∈ l, x ∈ a.items := fun x hx => hl.subset hx
  refine ⟨?_, setV_self hr⟩
  rw [← right_doc] at h ⊢
  simp only [Bool.and_eq_true, decide_eq_true_eq] at h ⊢
  obtain ⟨h1, h2⟩ := ((cnt_is 16 a 0).1).1 h.1
  have hsum : (l.map Vl.size).sum ≤ (a.items.map Vl.size).sum := by
    have : ∀ {l r : List Vl}, l.Sublist r → (l.map Vl.size).sum ≤ (r.map Vl.size).sum := by
      intro l r h
      induction h with
      | slnil => simp
      | cons x h ih => simp only [List.map_cons, List.sum_cons]; omega
      | cons_cons x h ih => simp only [List.map_cons, List.sum_cons]; omega
    exact this hl
  refine ⟨((cnt_is 16 _ 0).1).2 ⟨?_, fun x hx => h2 x (hm x hx)⟩, ?_⟩
  · rw [Vl.size_eq] at h1 ⊢
    simp only at h1 ⊢
    omega
  · rw [formV_eq]
    have hall : l.all formV = true := List.all_eq_true.2 fun x hx => (form_parts h.2).2 x (hm x hx)
    simp [hall, rises_riseB hr, usedB, goodB]
theorem hasV_filter (l : List Vl) (p : Vl → Bool) {x : Vl} (hx : x ∈ l) : hasV (l.filter p) x = p x := by
  rw [Bool.eq_iff_iff, hasV_mem, List.mem_filter]
  exact ⟨fun h => h.2, fun h => ⟨hx, h⟩⟩
/-- The two parts of a set together are the set. -/
theorem parts_union {a : Vl} (h : rightV a = true) (hk : a.kind = 7) (p : Vl → Bool) : setV (a.items.filter (fun x => p x == false) ++ a.items.filter (fun x => p x == true)) = a.items := by
  refine (setV_only (set_rises h hk) fun x => ?_).symm
  rw [List.mem_append, List.mem_filter, List.mem_filter]
  constructor
  · intro hx
    cases hp : p x
    · exact .inl ⟨hx, rfl⟩
    · exact .inr ⟨hx, rfl⟩
  · rintro (h | h)
    · exact h.1
    · exact h.1
theorem parts_apart (l : List Vl) (p : Vl → Bool) : (l.filter (fun x => p x == false)).filter (fun x => hasV (l.filter (fun x => p x == true)) x == true) = [] := by
  rw [List.filter_eq_nil_iff]
  intro x hx h
  rw [List.mem_filter] at hx
  have h2 : hasV (l.filter (fun x => p x == true)) x = true := by simpa using h
  rw [hasV_mem, List.mem_filter] at h2
  simp at hx h2
  rw [hx.2] at h2
  exact absurd h2.2 (by simp)
end Go.Proofs.YtgglommnipbagaaGreatDoor
