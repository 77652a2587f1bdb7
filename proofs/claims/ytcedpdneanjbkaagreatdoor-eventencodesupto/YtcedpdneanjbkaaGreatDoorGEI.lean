/- EventEncodes answers true. -/
import Derived.Test.YtcedpdneanjbkaaGreatDoorGEB
import Derived.Test.YtcedpdneanjbkaaGreatDoorGEF
import Derived.Test.YtcedpdneanjbkaaGreatDoorGEG
import Derived.Test.YtcedpdneanjbkaaGreatDoorGE3
import Derived.Test.YtcedpdneanjbkaaGreatDoorGEH
import Derived.Test.YtcedpdneanjbkaaGreatDoorGHOpG
import Derived.ChangeMaps5
namespace Go.Proofs.YtcedpdneanjbkaaGreatDoor
open Go.RowKit
open Go.Lib (uvarint uvarint_pos uvarint_length64 intOf)

theorem byteSetE {w : World} {base g n cap : Nat} {xs : List Value} (h : w.ownsRow base 5 1 (.slice (some ⟨g, 0, none⟩) n cap) n xs) (k : Nat) (u : Value) :
    (w.setCell ⟨g, k, none⟩ u).ownsRow base 5 1 (.slice (some ⟨g, 0, none⟩) n cap) n (xs.set k u) := by
  obtain ⟨h1, h2⟩ := h
  refine ⟨by rw [List.length_set]; exact h1, ?_⟩
  rcases h2 with ⟨h, _⟩ | ⟨g', cap', cur, hv, hb, hh, hnc, hcm, hcs, ht⟩
  · cases h
  · simp only [Value.slice.injEq, Option.some.injEq, Addr.mk.injEq, and_true, true_and] at hv
    obtain ⟨rfl, rfl⟩ := hv
    refine .inr ⟨g, cap, cur.setIfInBounds k u, rfl, hb, ?_, hnc, hcm, by simp; omega, ?_⟩
    · simp [World.setCell, Array.getElem?_modify, hh]
    · rw [← ht, Array.toList_setIfInBounds, List.take_set]
theorem byteCellE {w : World} {base g n cap : Nat} {xs : List Value} (h : w.ownsRow base 5 1 (.slice (some ⟨g, 0, none⟩) n cap) n xs) (k : Nat) (hk : k < n) :
    (∃ u, w.cell? ⟨g, k, none⟩ = some u) ∧ w.frozen? ⟨g, k, none⟩ = false := by
  have hl : k < xs.length := by rw [h.1]; omega
  refine ⟨⟨xs[k], ?_⟩, ?_⟩
  · have := h.cells (g := g) rfl k xs[k] (by simp [hl])
    rw [Addr.add_lit, Nat.zero_add] at this
    exact this
  · rcases h.2 with ⟨h, _⟩ | ⟨g', cap', cur, hv, hb, hh, _⟩
    · cases h
    · simp only [Value.slice.injEq, Option.some.injEq, Addr.mk.injEq, and_true, true_and] at hv
      obtain ⟨rfl, rfl⟩ := hv
      simp [World.frozen?, hh]
/-- A row of the caller's own that is written over: what lies in A up to B stays, and what lies below L. -/
def OwnE (X Y w : World) (L A : Nat) (v : Value) (n : Nat) : Prop :=
  ∃ xs, w.ownsRow L 5 1 v n xs ∧ (∀ k, v.ownBlock = some k → k < A) ∧ Below L X w ∧ (∀ j, A ≤ j → j < Y.heap.size → w.heap[j]? = Y.heap[j]?) ∧ Y.heap.size ≤ w.heap.size
theorem OwnE.put {X Y w : World} {L A g n cap : Nat} (h : OwnE X Y w L A (.slice (some ⟨g, 0, none⟩) n cap) n) (k : Nat) (u : Value) : OwnE X Y (w.setCell ⟨g, k, none⟩ u) L A (.slice (some ⟨g, 0, none⟩) n cap) n := by
  obtain ⟨xs, h1, h2, h3, h4, h5⟩ := h
  have hl := (h1.lt g rfl).1
  have hg := h2 g rfl
  refine ⟨_, byteSetE h1 k u, h2, h3.setCell hl _, fun j h6 h7 => ?_, by simpa [World.setCell] using h5⟩
  have hne : j ≠ g := by omega
  rw [Below.heap_setCell _ _ _ _ hne]
  exact h4 j h6 h7
/-- What Encode answers, in one form. -/
theorem EncR.one {w : World} {l : List Evn} {e : Ending} {w' : World} (h : EncR w l e w') :
    ∃ v, e = .returned (.tuple #[v, .int .i64 (bif l.all rightE then 0 else 60)]) ∧ w'.ownsRow w.heap.size 5 1 v (bif l.all rightE then encL l else []).length (cellsOf (bif l.all rightE then encL l else [])) ∧ Below w.heap.size w w' := by
  unfold EncR at h
  cases hr : l.all rightE
  · rw [hr, if_neg (by simp)] at h
    obtain ⟨rfl, hb⟩ := h
    exact ⟨_, rfl, ⟨rfl, .inl ⟨rfl, rfl⟩⟩, hb⟩
  · rw [hr, if_pos rfl] at h
    obtain ⟨a, c, rfl, ho, hb⟩ := h
    exact ⟨_, rfl, ho, hb⟩
theorem own_keepE {w w1 : World} {B n : Nat} {e : TypeId} {v : Value} {xs : List Value} (h : w.ownsRow B e 1 v n xs) (hb : Below w.heap.size w w1) : w1.ownsRow B e 1 v n xs :=
  h.kept (row := none) (grown_of_below (r := none) hb) (by cases v.ownBlock <;> simp)
theorem owns_lt {w : World} {L n : Nat} {v : Value} {xs : List Value} (h : w.ownsRow L 5 1 v n xs) : ∀ k, v.ownBlock = some k → L ≤ k ∧ k < w.heap.size := h.lt
theorem owns_slice {w : World} {L n : Nat} {v : Value} {xs : List Value} (h : w.ownsRow L 5 1 v n xs) : ∃ ba bc, v = .slice ba n bc ∧ (0 < n → ∃ g, ba = some ⟨g, 0, none⟩) := by
  rcases h.2 with ⟨hv, h0⟩ | ⟨g, cap, cur, hv, _⟩
  · exact ⟨none, 0, by rw [hv, h0], fun h => absurd h (by omega)⟩
  · exact ⟨_, _, hv, fun _ => ⟨g, rfl⟩⟩
set_option maxRecDepth 100000 in
set_option maxHeartbeats 4000000 in
theorem eventEncodes_walk (l : List Evn) (w : World) (n : Nat) (sa : Value) (hT : Tabs w) (ha : EvsAt w w.heap.size n sa l) (hl : l.length ≤ 1048576) :
    Calls Tryz.prog 4 #[sa] w fun e w' => e = .returned (.bool true) ∧ Below w.heap.size w w' := by
  have HE := hide (fun (U : World) (b : Below w.heap.size w U) => encode6_k l U n sa (hT.below b) ((ha.below b).up b.size) (fun k hk h => Nat.le_trans (enc_ok ha hl k hk h) (by decide)))
  have HR := hide (fun (U : World) (b : Below w.heap.size w U) => refEncode6_k l U n sa ((ha.below b).up b.size) (enc_ok ha hl))
  have HA := hide (fun (U : World) (b : Below w.heap.size w U) => alive6_k U (hT.below b))
  have hlen : (bif l.all rightE then encL l else []).length ≤ 900000000000 := by
    cases hr : l.all rightE
    · simp
    · have := enc_ok ha hl l.length (Nat.le_refl _) (fun j hj _ => List.all_eq_true.1 hr _ (List.getElem_mem hj))
      rw [List.take_length] at this
      exact this
  obtain ⟨a, c, rfl, _⟩ := ha.len
  have BW := hide (Below.refl w.heap.size w)
  have HONE := hide (fun (U : World) (e : Ending) (U' : World) (h : EncR U l e U') => h.one)
  clear ha hT hl
  generalize (bif l.all rightE then encL l else []) = bs at *
  generalize (bif l.all rightE then (0 : Int) else 60) = cd at *
  go_enter Tryz.func4, Tryz.ntmps4
  go_wp2_with (first
    | (go_at_call 15; refine (HE.out _ BW.out).mono ?_; rintro e w2 hE2; obtain ⟨bv, rfl, R2, B2⟩ := HONE.out _ _ _ hE2; clear hE2; have H2 := hide (And.intro R2 B2); clear R2 B2)
    | (go_at_call 16; refine (HR.out _ H2.out.2).mono ?_; clear HR; rintro e w3 hE3; obtain ⟨cv, rfl, R3, B3⟩ := HONE.out _ _ _ hE3; clear hE3; have BW3 := trans_v H2.out.2 B3; have P3 := own_keepE H2.out.1 B3; have hcb := conv_bytes (ownsRow_bytes P3).2.plain; have hcc := conv_bytes (ownsRow_bytes R3).2.plain; have HO : Hid (OwnE w w3 w3 w.heap.size w2.heap.size bv bs.length) := hide ⟨_, P3, fun k hk => (owns_lt H2.out.1 k hk).2, BW3, fun j _ _ => rfl, Nat.le_refl _⟩; have HL3 := hide (And.intro R3 BW3); have HV := hide (owns_slice P3); clear R3 P3 B3 BW3)
    | (go_at_call 12; refine (num6_k _ _).mono ?_; rintro e wq ⟨rfl, rfl⟩))
  obtain ⟨ba, bc, rfl, hg⟩ := HV.out
  have HG := hide hg
  clear hcb hcc hg HV
  go_loopw [7] (fun i wr => ∃ k : Nat, k ≤ bs.length ∧ i = .int .i64 k ∧ OwnE w w3 wr w.heap.size w2.heap.size (.slice ba bs.length bc) bs.length) (fun i _ => bs.length - (intOf i).toNat)
  case atStart => exact ⟨0, Nat.zero_le _, rfl, HO.out⟩
  case round =>
    obtain ⟨k, hk, rfl, hO⟩ := hrel
    by_cases hlt : k < bs.length
    · obtain ⟨g, rfl⟩ := HG.out (by omega)
      obtain ⟨⟨u, hu⟩, hfz⟩ := byteCellE hO.choose_spec.1 k hlt
      have HP := hide (hO.put k (.int .u8 255))
      clear hO
      go_wp2
      go_roundw
      case rel => exact ⟨k + 1, by omega, by go_num, HP.out⟩
      case measure => simp [intOf]; omega
    · have BX := hide hO.choose_spec.2.2.1
      have HCR := hide (own_far HL3.out.1 hO.choose_spec.2.2.2.1)
      clear hO HO
      go_wp2_with (first
        | (go_at_call 15; refine (HE.out _ BX.out).mono ?_; clear HE; rintro e w7 hE7; obtain ⟨dv, rfl, R7, B7⟩ := HONE.out _ _ _ hE7; clear hE7; have hcd := conv_bytes (ownsRow_bytes R7).2.plain; have hcc := conv_bytes (ownsRow_bytes (own_keepE HCR.out B7)).2.plain; have HV7 := hide (owns_slice R7); have BX7 := hide (trans_v BX.out B7); clear R7 B7)
        | (go_at_call 14; refine (HA.out _ BX7.out).mono ?_; clear HA; rintro e w8 ⟨rfl, b8⟩; have BX8 := hide (trans_v BX7.out b8); clear b8))
      go_ret
      exact ⟨rfl, BX8.out⟩
end Go.Proofs.YtcedpdneanjbkaaGreatDoor

/- EventEncodes holds of every input within the bulk. -/
namespace Go.Proofs.YtcedpdneanjbkaaGreatDoor.eventEncodes
open Go.ChangeShapes Go.WideShapes Go.ChangeAt Go.RowKit
open Go.ChangeMaps (open_string)

set_option maxRecDepth 100000 in
theorem contract (H : Type) (enc : TypeId × Value → H) (W : World) (base : Nat) (args : Array Value) (ds gs : List (DataW H)) (before : List MemPlace)
    (hval : ∀ (j : Nat) t v, Tryz.f4.params[j]? = some t → args[j]? = some v → Value.okWide Tryz.prog W .any base t v)
    (hW : DataW.Whole enc Tryz.prog Tryz.f4.params.toList Rows.eventEncodesSpec.vars false W args.toList ds gs before) (hL : laidMetH Tryz.prog laidE W) (hk : Rows.uptoBulkAll (ds ++ gs) ≤ 1048576) :
    Calls Tryz.prog 4 args W fun e W' => ∃ v, e = .returned v ∧ Rows.eventEncodesSpec.post enc Tryz.prog Tryz.f4 false true false false W args v W' := by
  have hW' := hW
  obtain ⟨p, q, hA0, hV, rfl, hfz, hnd⟩ := hW
  have hA : DataW.TrodAll enc Tryz.prog W 0 (fun _ => true) true Tryz.f4.params.toList args.toList ds p := hA0
  rw [Tryz.params4] at hA hval
  obtain ⟨v0, vs0, d0, ds0, p0, q0, hargs, rfl, rfl, h0, r0⟩ := trodAll_cons hA
  obtain ⟨rfl, rfl, rfl⟩ := trodAll_nil r0
  obtain rfl : args = #[v0] := by cases args; simp_all
  obtain ⟨rfl, rfl⟩ := trodVars_none hV
  simp only [List.append_nil, Rows.uptoBulkAll] at hk
  obtain ⟨a0, len0, cap0, rfl⟩ := okWide_slice Tryz.underlying22 (hval 0 22 v0 rfl rfl)
  have k0 := h0
  have lt0 : ∀ x ∈ p0, x.block < W.heap.size := by obtain ⟨m, hm⟩ := k0; exact DataW.trod_lt m _ _ _ hm
  obtain ⟨fuel0, hf0⟩ := h0
  obtain ⟨l0, hl0, hI0, hs0⟩ := open_evs hf0 (by omega)
  subst hl0
  clear hA0
  simp only [List.append_nil] at hW'
  refine (eventEncodes_walk l0 W (fuel0 + 2) _ (tabsE_of_laid hL) hI0 (by omega)).mono fun e W' ⟨he, bel⟩ => ?_
  subst he
  exact ⟨_, rfl, _, _, _, [], _, [], hW', trodAll_mk1 (shut_bool Tryz.underlying4 _), trodAll_cons_mk (Below.trod laidOut (by kernel_rfl) (of_decide_eq_true (by kernel_rfl)) k0 bel lt0) trodAll_mk0, rfl, bel.frame _, fun h => by cases h⟩

theorem laid_met (os : Os) : laidMet Tryz.prog Rows.eventEncodesUptoRow.laid ((laidWorldE os).forCall (fun _ _ => 0) ⟨#[], #[.slice none 0 0], []⟩).memory :=
  laidMet_of_run' 8 (by kernel_rfl) (by kernel_rfl)
theorem reads (os : Os) {H : Type} (enc : TypeId × Value → H) : ∃ places, DataW.whole enc Tryz.prog ((laidWorldE os).forCall (fun _ _ => 0) ⟨#[], #[.slice none 0 0], []⟩).memory Tryz.f4.params.toList Rows.eventEncodesSpec.vars false #[Value.slice none 0 0].toList 8 = some ([.nil], [], places) :=
  ⟨[], by kernel_rfl⟩

set_option maxRecDepth 100000 in
theorem liftedUpto (os : Os) (started : os.Started) (H : Type) (enc : TypeId × Value → H) (F : Stop.Interp) :
    ReturnsInHanded {} Tryz.checked os 4 .any ((Rows.OpenSpec.upto Rows.eventEncodesSpec).preRow enc Tryz.prog Tryz.f4 Rows.eventEncodesUptoRow.domain false Rows.eventEncodesUptoRow.laid) (((Rows.OpenSpec.upto Rows.eventEncodesSpec).at F).post enc Tryz.prog Tryz.f4 false true false false) := by
  obtain ⟨places, hx⟩ := reads os enc
  refine returnsInHanded_of_row (C := Tryz.checked) (s := Rows.OpenSpec.upto Rows.eventEncodesSpec) own started (by kernel_rfl) Tryz.func4
    (witness_row_at (enc := enc) (C := Tryz.checked) false (laidWorldE os) #[.slice none 0 0] rfl (by kernel_rfl) (by kernel_rfl) (by kernel_rfl)
      (OpenSpec.preRow_of_cond 8 hx (by kernel_rfl) (fun k hk => by cases hk; kernel_rfl) (by kernel_rfl) (laid_met os))) ?_
  intro W base args ds gs before hval hW _ hcond _ hL _ _
  exact contract H enc W base args ds gs before hval hW hL (of_decide_eq_true (hcond _ rfl))

theorem saidUpto : Rows.EventEncodesUptoSaid :=
  OpenClaim.holds_of_cond 4 Tryz.f4 rfl rfl rfl rfl rfl rfl rfl ⟨rfl, rfl, rfl, rfl, rfl⟩ rfl rfl rfl rfl rfl (by kernel_rfl) Tryz.func4 (by kernel_rfl)
    (of_decide_eq_true (by kernel_rfl)) (by unfold Func.isWrapper; first | (rw [if_pos (by decide +kernel)]; kernel_rfl) | (rw [if_neg (by decide +kernel)]; exact ⟨rfl, rfl⟩))
    (fun os started H enc _ F => by rw [OpenClaim.pre_eq_preRow]; exact liftedUpto os started H enc F)

theorem plain (f : FuncId) (fn : Func) (hf : Tryz.pinned.checked.prog.funcNamed Rows.eventEncodesRow.func = some f) (hfn : Tryz.pinned.checked.prog.funcs[f]? = some fn) :
    true = Tryz.pinned.checked.prog.looks [] ∧ ∀ (j : Nat) t, fn.params[j]? = some t → Tryz.pinned.checked.prog.wantsStandIn t = false := by
  obtain rfl : f = 4 := Option.some.inj ((show Tryz.prog.funcNamed Rows.eventEncodesRow.func = some 4 by kernel_rfl).symm.trans hf) |>.symm
  obtain rfl : fn = Tryz.f4 := (Option.some.inj (Tryz.func4.symm.trans hfn)).symm
  refine ⟨by kernel_rfl, fun j t ht => ?_⟩
  rw [Tryz.params4] at ht
  obtain rfl : t = 22 := by simpa using Array.mem_of_getElem? ht
  exact (show Tryz.prog.wantsStandIn 22 = false by kernel_rfl)

theorem cardUpto : Rows.EventEncodesUptoCardSaid :=
  Claim7.holds_tied_plain_at .later [] _ _ _ _ saidUpto (fun _ h => by cases h) (by kernel_rfl) (fun _ h => by cases h) eventEncodesUpto_row_tie rfl ⟨rfl, rfl⟩ (by kernel_rfl) rfl plain (by kernel_rfl)
end Go.Proofs.YtcedpdneanjbkaaGreatDoor.eventEncodes
namespace Go.Proofs.YtcedpdneanjbkaaGreatDoor
theorem eventEncodes_upto : Rows.EventEncodesUptoCardSaid := eventEncodes.cardUpto
#print axioms eventEncodes_upto
end Go.Proofs.YtcedpdneanjbkaaGreatDoor
