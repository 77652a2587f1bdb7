/- ArithField answers true. -/
import Derived.Test.YtgglommnipbagaaGreatDoorGFns
import Derived.Test.YtgglommnipbagaaGreatDoorGACalls
import Derived.Test.YtgglommnipbagaaGreatDoorGMade
import Derived.Test.YtgglommnipbagaaGreatDoorZALaid
import Derived.Test.YtgglommnipbagaaGreatDoorGOpens
import Derived.ChangeMaps5
namespace Go.Proofs.YtgglommnipbagaaGreatDoor
open Go.RowKit

/-- A row of names of the caller's own, from place k on as it was. -/
def NameRow (w : World) (L g cap k : Nat) : Prop := ∃ xs, w.ownsRow L 9 1 (.slice (some ⟨g, 0, none⟩) 21 cap) 21 xs ∧ ∀ j, k ≤ j → j < 21 → xs[j]? = some (.string (nmAt j))
theorem NameRow.lt {w : World} {L g cap k : Nat} (h : NameRow w L g cap k) : L ≤ g ∧ g < w.heap.size := by
  obtain ⟨xs, h1, _⟩ := h
  exact h1.lt g rfl
theorem NameRow.cell {w : World} {L g cap k : Nat} (h : NameRow w L g cap k) (hk : k < 21) : w.cell? ⟨g, k, none⟩ = some (.string (nmAt k)) ∧ w.frozen? ⟨g, k, none⟩ = false := by
  obtain ⟨xs, h1, h2⟩ := h
  refine ⟨?_, ?_⟩
  · have := h1.cells (g := g) rfl k _ (h2 k (Nat.le_refl _) hk)
    rw [Addr.add_lit, Nat.zero_add] at this
    exact this
  · rcases h1.2 with ⟨h, _⟩ | ⟨g', cap', cur, hv, hb, hh, _⟩
    · cases h
    · simp only [Value.slice.injEq, Option.some.injEq, Addr.mk.injEq, and_true, true_and] at hv
      obtain ⟨rfl, rfl⟩ := hv
      simp [World.frozen?, hh]
theorem NameRow.put {w : World} {L g cap k : Nat} (h : NameRow w L g cap k) (u : Value) : NameRow (w.setCell ⟨g, k, none⟩ u) L g cap (k + 1) := by
  obtain ⟨xs, ⟨h1, h3⟩, h2⟩ := h
  refine ⟨xs.set k u, ⟨by rw [List.length_set]; exact h1, ?_⟩, fun j hj hl => by rw [List.getElem?_set_ne (by omega)]; exact h2 j (by omega) hl⟩
  rcases h3 with ⟨h, _⟩ | ⟨g', cap', cur, hv, hb, hh, hnc, hcm, hcs, ht⟩
  · cases h
  · simp only [Value.slice.injEq, Option.some.injEq, Addr.mk.injEq, and_true, true_and] at hv
    obtain ⟨rfl, rfl⟩ := hv
    refine .inr ⟨g, cap, cur.setIfInBounds k u, rfl, hb, ?_, hnc, hcm, by simp; omega, ?_⟩
    · simp [World.setCell, Array.getElem?_modify, hh]
    · rw [← ht, Array.toList_setIfInBounds, List.take_set]
theorem NameRow.later {w w' : World} {L g cap k : Nat} (h : NameRow w L g cap k) (b : Below w.heap.size w w') : NameRow w' L g cap k := by
  obtain ⟨xs, h1, h2⟩ := h
  exact ⟨xs, h1.kept (grown_of_below (r := none) b) (.inr (by simp [Value.ownBlock])), h2⟩
set_option maxRecDepth 100000 in
set_option maxHeartbeats 8000000 in
theorem arithField_walk (v : Vl) (i : Int) (nm : ByteArray) (w : World) (n : Nat) (sl : Value) (hT : TabL w) (hok : v.ok) (hz : v.size ≤ 1000000000) (hs : ItemsAt w w.heap.size (n + 1) sl v.items) :
    Calls Tryz.prog 7 #[.agg (vcells v sl), .int .i64 i, .string nm] w fun e w' => e = .returned (.bool true) ∧ Below w.heap.size w w' := by
  obtain ⟨W, hW⟩ : ∃ W, w.alloc (.cells (vcells v sl) 25) = W := ⟨_, rfl⟩
  have bW : Below w.heap.size w W := by rw [← hW]; exact alloc_v (Below.refl _ _) _
  have LV : Lies W w.heap.size v sl := by rw [← hW]; exact Lies.new _ _ _
  have hgood : GoodR (fieldV v i) := field_good v i fun x hx => by
    obtain ⟨j, hj, rfl⟩ := List.mem_iff_getElem.1 hx
    obtain ⟨a, c, rfl, _⟩ := hs.len
    obtain ⟨_, _, _, _, _, _, _, _, _, _, _, h⟩ := hs.item j hj
    exact h.1
  have HC := hide (refCopy_k v W (n + 1) sl hz ((hs.below bW).up bW.size))
  have HF := hide (fun (U : World) (s : Value) (b : Below w.heap.size w U) (hi : ItemsAt U U.heap.size (n + 1) s v.items) => fieldP_k v i U n s (hT.below b) hok hz hi)
  have HG := hide (fun (U : World) (b : Below w.heap.size w U) => fieldR_k v i U n sl hok hz ((hs.below b).up b.size))
  generalize fieldV v i = r at *
  have HAL := hide (fun (U : World) (sa sb : Value) (he : r.2 ≠ 0 → sa = .slice none 0 0) (ha : ItemsAt U U.heap.size (n + 1) sa r.1.items) (hb : ItemsAt U U.heap.size (n + 1) sb r.1.items) => alike5_good r hgood U (n + 1) (n + 1) sa sb he ha hb)
  obtain ⟨fv, fc⟩ := r
  dsimp only at HF HG HAL
  have HT := hide (fun (U : World) (b : Below w.heap.size w U) => heads5_k U (hT.below b))
  have HV := hide hs
  have HLV := hide LV
  obtain ⟨x0, x1, x2, x3, x4⟩ := LV.cells
  have HAR := hide (ar_both nm)
  obtain ⟨a, c, rfl, _⟩ := hs.len
  have hlw : w.heap.size < W.heap.size := LV.lt
  clear hs hT hgood LV hok hz
  go_enter Tryz.func7, Tryz.ntmps7
  go_wp2_with (first
    | (go_at_call 25; refine HC.out.mono ?_; clear HC; rintro e w1 ⟨s1, rfl, i1, _, _, b1⟩; obtain ⟨a1, c1, rfl, _⟩ := i1.len; have bA := alloc_v (Below.refl w1.heap.size w1) (.cells (vcells v (.slice a1 v.items.length c1)) 25); have D1 := hide (trans_v b1 bA); have LX := hide (Lies.new w1 v (.slice a1 v.items.length c1)); have IX := hide ((i1.below bA).up bA.size); clear i1 b1 bA x0 x1 x2 x3 x4)
    | (go_at_call 32; refine (HF.out _ _ (trans_v bW D1.out) IX.out).mono ?_; clear HF; rintro e w2 ⟨s2, rfl, i2, he2, b2⟩; obtain ⟨a2, c2, rfl, _⟩ := i2.in.len; have bA := alloc_v (Below.refl w2.heap.size w2) (.cells (vcells fv (.slice a2 fv.items.length c2)) 25); have D2 := hide (trans_v b2 bA); have BA2 := hide bA; have LA := hide (Lies.new w2 fv (.slice a2 fv.items.length c2)); have I2 := hide i2; have HE2 := hide he2; have SZ2 := hide b2.size; obtain ⟨d0, d1, d2, d3, d4⟩ := ((HLV.out.later D1.out).later D2.out).cells; clear i2 b2 he2 bA)
    | (go_at_call 33; refine (HG.out _ (trans_v (trans_v bW D1.out) D2.out)).mono ?_; clear HG d0 d1 d2 d3 d4; rintro e w3 ⟨s3, rfl, i3, b3⟩; obtain ⟨a3, c3, rfl, _⟩ := i3.len; have bB := alloc_v (Below.refl w3.heap.size w3) (.cells (vcells fv (.slice a3 fv.items.length c3)) 25); have D3 := hide (trans_v b3 bB); have I3 := hide ((i3.below bB).up bB.size); obtain ⟨d0, d1, d2, d3, d4⟩ := (LA.out.later D3.out).cells; have HA := hide (HAL.out _ (.slice a2 fv.items.length c2) (.slice a3 fv.items.length c3) HE2.out (((I2.out.in.at (B := w2.heap.size) (fun _ h => h.2)).below (trans_v BA2.out D3.out)).up (trans_v BA2.out D3.out).size) I3.out); clear i3 b3 bB HAL)
    | (go_at_call 28; refine HA.out.mono ?_; clear HA d0 d1 d2 d3 d4; rintro e w4 ⟨rfl, b4⟩; have D4 := hide (trans_v D3.out b4); obtain ⟨d0, d1, d2, d3, d4⟩ := (LA.out.later D4.out).cells; clear b4))
  have hS1 : ∀ b, ((w1.alloc (.cells (vcells v (.slice a1 v.items.length c1)) 25)).heap.size ≤ b ∧ b < w2.heap.size) → (w1.alloc (.cells (vcells v (.slice a1 v.items.length c1)) 25)).heap.size ≤ b ∧ b < w4.heap.size := fun b hb => ⟨hb.1, by have := (trans_v BA2.out D4.out).size; omega⟩
  have HSM := hide (smear_k (n + 1) _ _ w4 fv.kind fv.int fv.im fv.text (.slice a2 fv.items.length c2) hS1 (Nat.le_trans D2.out.size D4.out.size) (I2.out.sm.kept (fun b _ hb => (trans_v BA2.out D4.out).block b hb)))
  clear hS1
  obtain ⟨X1, hX1⟩ : ∃ X, w1.alloc (.cells (vcells v (.slice a1 v.items.length c1)) 25) = X := ⟨_, rfl⟩
  rw [hX1] at D1 LX IX D2 I2 SZ2 HSM
  clear hX1
  go_wp2_with (first
    | (go_at_call 29; refine HSM.out.mono ?_; clear HSM d0 d1 d2 d3 d4; rintro e w5 ⟨⟨ev, rfl⟩, h5⟩; have B5 := hide (show Below X1.heap.size X1 w5 from (D2.out.trans (D4.out.mono D2.out.size)).trans h5.2.1); clear h5)
    | (go_at_call 34; refine (functions_k w5).mono ?_; rintro e w6 ⟨g, cap, rfl, o6, b6⟩; have O6 := hide (show NameRow w6 w5.heap.size g cap 0 from ⟨_, o6, fun j _ hj => rowN_get hj⟩); have B6 := hide b6; clear o6 b6)
    | (go_at_call 35; refine (refFunctions_k w6).mono ?_; rintro e w7 ⟨rfl, ⟨cs, hcs, hcl⟩, b7⟩; have CS := hide hcs; have CL := hide hcl; have B7 := hide b7; clear hcs hcl b7))
  have hg := O6.out.lt
  have hl7 : w6.heap.size < w7.heap.size := (Array.getElem?_eq_some_iff.1 CS.out).1
  have MK0 : Hid (MidK g (g + 1) w7 w7 w7) := hide (MidK.start (Below.refl _ _))
  have O7 := hide (O6.out.later B7.out)
  clear hW
  go_loopw [15] (fun ii wr => ∃ k : Nat, k ≤ 21 ∧ ii = .int .i64 k ∧ NameRow wr w5.heap.size g cap k ∧ MidK g (g + 1) w7 w7 wr) (fun ii _ => 21 - (intOf ii).toNat)
  case atStart => exact ⟨0, by omega, rfl, O7.out, MK0.out⟩
  case round =>
    obtain ⟨k, hk, rfl, hN, hM⟩ := hrel
    have hs7 := hM.2.2
    by_cases hlt : k < 21
    · obtain ⟨r, hr1, hr2⟩ := ar_both (nmAt k)
      obtain ⟨n1, n2⟩ := hN.cell hlt
      have fw := (hM.2.1 w6.heap.size (by omega) hl7).trans CS.out
      have m1 := cells_at fw k (.string (nmAt k)) (by rw [← Array.getElem?_toList, CL.out]; exact rowN_get hlt)
      have HA1 := hide hr1
      have HA2 := hide hr2
      have hany := Wv.any wr
      have u0 := fun q : Wv wr => q.cell n1
      have v0 := fun q : Wv wr => q.cell m1
      have z0 := fun q : Wv wr => (frozen_of_block (w := wr) (w' := q.val) (b := g) (o := k) (q.below.block g (by omega))).trans n2
      have HP := hide (fun q : Wv wr => And.intro ((hN.later q.below).put (.string ⟨#[]⟩)) ((hM.later q.below (by omega)).put (Nat.le_refl g) (.inl (Nat.lt_succ_self g)) k (.string ⟨#[]⟩)))
      have hk0 : (0 : Int) ≤ (k : Int) := by omega
      have hk1 : (k : Int) < 21 := by omega
      clear hN hM fw n1 n2 m1 hr1 hr2
      generalize nmAt k = nk at *
      go_wp2
      refine wp_region_grown (by kernel_rfl) (by kernel_rfl) ?_
      repeat (go_big_quiet_step (first | (go_at_call 36; exact Wv.calls _ (HA1.out _)) | (go_at_call 37; exact Wv.calls _ (HA2.out _))))
      refine wpQuiet_nil ?_
      intro w1 hw'
      obtain ⟨q, rfl⟩ := hw'
      go_wp2
      go_roundw
      case rel => exact ⟨k + 1, by omega, by go_num, (HP.out q).1, (HP.out q).2⟩
      case measure => simp [intOf]; omega
    · have hx1 : X1.heap.size ≤ w5.heap.size := B5.out.size
      have BXR := hide (show Below X1.heap.size X1 wr from (B5.out.trans ((trans_v B6.out B7.out).mono hx1)).trans (hM.1.mono (by omega)))
      have HLX : Hid (w1.heap.size < X1.heap.size) := hide LX.out.lt
      obtain ⟨ra, hr1, hr2⟩ := HAR.out
      have HA1 := hide hr1
      have HA2 := hide hr2
      clear hN hM hr1 hr2
      go_wp2_with (first
        | (go_at_call 34; refine (functions_k wr).mono ?_; rintro e w8 ⟨g8, cap8, rfl, o8, b8⟩; have hb8 := BXR.out.trans (b8.mono BXR.out.size); have BX8 := hide hb8; have N8 := hide (show NameRow w8 wr.heap.size g8 cap8 0 from ⟨_, o8, fun j _ hj => rowN_get hj⟩); have bw8 := trans_v bW D1.out |>.trans (hb8.mono (trans_v bW D1.out).size); have BW8 := hide bw8; obtain ⟨d0, d1, d2, d3, d4⟩ := (show Lies w8 w1.heap.size v (.slice a1 v.items.length c1) from (hb8.block _ HLX.out).trans LX.out).cells; obtain ⟨f0, f1, f2, f3, f4⟩ := (show Lies w8 w.heap.size v (.slice a v.items.length c) from (hb8.block _ (Nat.lt_of_lt_of_le hlw D1.out.size)).trans (HLV.out.later D1.out)).cells; have HS := hide (same04_k v w8 (n + 1) (n + 1) _ _ ((IX.out.below hb8).up hb8.size) ((HV.out.below bw8).up bw8.size)); clear o8 b8 hb8 bw8)
        | (go_at_call 30; refine HS.out.mono ?_; clear HS d0 d1 d2 d3 d4 f0 f1 f2 f3 f4; rintro e w9 ⟨rfl, b9⟩; have n9 : w9.cell? ⟨g8, 0, none⟩ = some (.string ⟨#[115, 105, 122, 101]⟩) := ((N8.out.later b9).cell (by omega)).1; have B9 := hide (trans_v BW8.out b9); clear b9)
        | (go_at_call 36; refine (HA1.out _).mono ?_; clear HA1 n9; rintro e w10 ⟨rfl, b10⟩; have B10 := hide (trans_v B9.out b10); clear b10)
        | (go_at_call 37; refine (HA2.out _).mono ?_; clear HA2; rintro e w11 ⟨rfl, b11⟩; have B11 := hide (trans_v B10.out b11); clear b11)
        | (go_at_call 31; refine (HT.out _ B11.out).mono ?_; clear HT; rintro e w12 ⟨rfl, b12⟩))
      go_ret
      exact ⟨rfl, trans_v B11.out b12⟩
end Go.Proofs.YtgglommnipbagaaGreatDoor

/- ArithField answers true for all values, places and names, up to the bulk of its upto statement. -/
namespace Go.Proofs.YtgglommnipbagaaGreatDoor.arithField
open Go.ChangeShapes Go.WideShapes Go.ChangeAt Go.RowKit
open Go.ChangeMaps (open_string)

set_option maxRecDepth 100000 in
theorem contract (H : Type) (enc : TypeId × Value → H) (W : World) (base : Nat) (args : Array Value) (ds gs : List (DataW H)) (before : List MemPlace)
    (hval : ∀ (j : Nat) t v, Tryz.f7.params[j]? = some t → args[j]? = some v → Value.okWide Tryz.prog W .any base t v)
    (hW : DataW.Whole enc Tryz.prog Tryz.f7.params.toList Rows.arithFieldSpec.vars false W args.toList ds gs before) (hL : laidMetH Tryz.prog laidLL W) (hk : Rows.uptoBulkAll (ds ++ gs) ≤ 1048576) :
    Calls Tryz.prog 7 args W fun e W' => ∃ v, e = .returned v ∧ Rows.arithFieldSpec.post enc Tryz.prog Tryz.f7 false true false false W args v W' := by
  have hW' := hW
  obtain ⟨p, q, hA0, hV, rfl, hfz, hnd⟩ := hW
  have hA : DataW.TrodAll enc Tryz.prog W 0 (fun _ => true) true Tryz.f7.params.toList args.toList ds p := hA0
  rw [Tryz.params7] at hA hval
  obtain ⟨v0, vs0, d0, ds0, p0, q0, hargs, rfl, rfl, h0, r0⟩ := trodAll_cons hA
  obtain ⟨v1, vs1, d1, ds1, p1, q1, rfl, rfl, rfl, h1, r1⟩ := trodAll_cons r0
  obtain ⟨v2, vs2, d2, ds2, p2, q2, rfl, rfl, rfl, h2, r2⟩ := trodAll_cons r1
  obtain ⟨rfl, rfl, rfl⟩ := trodAll_nil r2
  obtain rfl : args = #[v0, v1, v2] := by cases args; simp_all
  obtain ⟨rfl, rfl⟩ := trodVars_none hV
  simp only [List.append_nil, Rows.uptoBulkAll] at hk
  obtain ⟨cs0, rfl, _⟩ := okWide_struct Tryz.underlying25 (hval 0 25 v0 rfl rfl)
  have k0 := h0
  have lt0 : ∀ x ∈ p0, x.block < W.heap.size := by obtain ⟨m, hm⟩ := k0; exact DataW.trod_lt m _ _ _ hm
  obtain ⟨fuel0, hf0⟩ := h0
  obtain ⟨x0, sl0, ecs0, hI0, hs0, hok0⟩ := open_val fuel0 (cs := cs0.toList) hf0 (by omega)
  obtain rfl : cs0 = vcells x0 sl0 := by cases cs0; simpa using ecs0
  obtain ⟨n1, rfl, rfl, rfl, wf1⟩ := open_int Tryz.underlying3 (hval 1 3 v1 rfl rfl) h1
  have w1 := bounds_i64 wf1
  have h2' := h2
  obtain ⟨s2, rfl, rfl, rfl, _⟩ := open_string Tryz.underlying9 (hval 2 9 v2 rfl rfl) h2
  clear hA0
  simp only [List.append_nil] at hW'
  have hlen2 : s2.data.toList.length = s2.size := by rw [Array.length_toList]; rfl
  refine (arithField_walk x0 n1 s2 W _ sl0 (tabL_of_laid hL) hok0 (by omega) hI0).mono fun e W' ⟨he, bel⟩ => ?_
  subst he
  exact ⟨_, rfl, _, _, _, [], _, [], hW', trodAll_mk1 (shut_bool Tryz.underlying4 _), trodAll_cons_mk (Below.trod laidOut (by kernel_rfl) (of_decide_eq_true (by kernel_rfl)) k0 bel lt0) (trodAll_cons_mk (shut_int Tryz.underlying3 wf1) (trodAll_cons_mk (Below.trod laidOut (by kernel_rfl) (of_decide_eq_true (by kernel_rfl)) h2' bel (fun x hx => by cases hx)) trodAll_mk0)), rfl, bel.frame _, fun h => by cases h⟩

theorem laid_met (os : Os) : laidMet Tryz.prog Rows.arithFieldUptoRow.laid ((laidWorld os).forCall (fun _ _ => 0) ⟨#[], #[.agg #[.int .i64 0, .int .i64 0, .int .i64 0, .string ⟨#[]⟩, .slice none 0 0], .int .i64 0, .string ⟨#[]⟩], []⟩).memory :=
  laidMet_of_run' 8 (by kernel_rfl) (by kernel_rfl)
theorem reads (os : Os) {H : Type} (enc : TypeId × Value → H) : ∃ places, DataW.whole enc Tryz.prog ((laidWorld os).forCall (fun _ _ => 0) ⟨#[], #[.agg #[.int .i64 0, .int .i64 0, .int .i64 0, .string ⟨#[]⟩, .slice none 0 0], .int .i64 0, .string ⟨#[]⟩], []⟩).memory Tryz.f7.params.toList Rows.arithFieldSpec.vars false #[Value.agg #[.int .i64 0, .int .i64 0, .int .i64 0, .string ⟨#[]⟩, .slice none 0 0], Value.int .i64 0, Value.string ⟨#[]⟩].toList 8 = some ([.agg [.lit (.int .i64 0), .lit (.int .i64 0), .lit (.int .i64 0), .lit (.string []), .nil], .lit (.int .i64 0), .lit (.string [])], [], places) :=
  ⟨[], by kernel_rfl⟩

set_option maxRecDepth 100000 in
theorem liftedUpto (os : Os) (started : os.Started) (H : Type) (enc : TypeId × Value → H) (F : Stop.Interp) :
    ReturnsInHanded {} Tryz.checked os 7 .any ((Rows.OpenSpec.upto Rows.arithFieldSpec).preRow enc Tryz.prog Tryz.f7 Rows.arithFieldUptoRow.domain false Rows.arithFieldUptoRow.laid) (((Rows.OpenSpec.upto Rows.arithFieldSpec).at F).post enc Tryz.prog Tryz.f7 false true false false) := by
  obtain ⟨places, hx⟩ := reads os enc
  refine returnsInHanded_of_row (C := Tryz.checked) (s := Rows.OpenSpec.upto Rows.arithFieldSpec) own started (by kernel_rfl) Tryz.func7
    (witness_row_at (enc := enc) (C := Tryz.checked) false (laidWorld os) #[.agg #[.int .i64 0, .int .i64 0, .int .i64 0, .string ⟨#[]⟩, .slice none 0 0], .int .i64 0, .string ⟨#[]⟩] rfl (by kernel_rfl) (by kernel_rfl) (by kernel_rfl)
      (OpenSpec.preRow_of_cond 8 hx (by kernel_rfl) (fun k hk => by cases hk; kernel_rfl) (by kernel_rfl) (laid_met os))) ?_
  intro W base args ds gs before hval hW _ hcond _ hL _ _
  exact contract H enc W base args ds gs before hval hW hL (of_decide_eq_true (hcond _ rfl))

theorem saidUpto : Rows.ArithFieldUptoSaid :=
  OpenClaim.holds_of_cond 7 Tryz.f7 rfl rfl rfl rfl rfl rfl rfl ⟨rfl, rfl, rfl, rfl, rfl⟩ rfl rfl rfl rfl rfl (by kernel_rfl) Tryz.func7 (by kernel_rfl)
    (of_decide_eq_true (by kernel_rfl)) (by unfold Func.isWrapper; first | (rw [if_pos (by decide +kernel)]; kernel_rfl) | (rw [if_neg (by decide +kernel)]; exact ⟨rfl, rfl⟩))
    (fun os started H enc _ F => by rw [OpenClaim.pre_eq_preRow]; exact liftedUpto os started H enc F)

theorem plain (f : FuncId) (fn : Func) (hf : Tryz.pinned.checked.prog.funcNamed Rows.arithFieldRow.func = some f) (hfn : Tryz.pinned.checked.prog.funcs[f]? = some fn) :
    true = Tryz.pinned.checked.prog.looks [] ∧ ∀ (j : Nat) t, fn.params[j]? = some t → Tryz.pinned.checked.prog.wantsStandIn t = false := by
  obtain rfl : f = 7 := Option.some.inj ((show Tryz.prog.funcNamed Rows.arithFieldRow.func = some 7 by kernel_rfl).symm.trans hf) |>.symm
  obtain rfl : fn = Tryz.f7 := (Option.some.inj (Tryz.func7.symm.trans hfn)).symm
  refine ⟨by kernel_rfl, fun j t ht => ?_⟩
  rw [Tryz.params7] at ht
  have hm : t = 25 ∨ t = 3 ∨ t = 9 := by simpa using Array.mem_of_getElem? ht
  rcases hm with rfl | rfl | rfl
  · exact (show Tryz.prog.wantsStandIn 25 = false by kernel_rfl)
  · exact (show Tryz.prog.wantsStandIn 3 = false by kernel_rfl)
  · exact (show Tryz.prog.wantsStandIn 9 = false by kernel_rfl)

theorem cardUpto : Rows.ArithFieldUptoCardSaid :=
  Claim7.holds_tied_plain_at .later [] _ _ _ _ saidUpto (fun _ h => by cases h) (by kernel_rfl) (fun _ h => by cases h) arithFieldUpto_row_tie rfl ⟨rfl, rfl⟩ (by kernel_rfl) rfl plain (by kernel_rfl)
end Go.Proofs.YtgglommnipbagaaGreatDoor.arithField
namespace Go.Proofs.YtgglommnipbagaaGreatDoor
theorem arithField_upto : Rows.ArithFieldUptoCardSaid := arithField.cardUpto
#print axioms arithField_upto
end Go.Proofs.YtgglommnipbagaaGreatDoor
