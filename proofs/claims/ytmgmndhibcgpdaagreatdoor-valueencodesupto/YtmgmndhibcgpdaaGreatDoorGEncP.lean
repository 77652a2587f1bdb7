/- ValueEncodes answers true. -/
import Derived.Test.YtmgmndhibcgpdaaGreatDoorZVAlive
import Derived.Test.YtmgmndhibcgpdaaGreatDoorGRefS
import Derived.Test.YtmgmndhibcgpdaaGreatDoorZVOwn
import Derived.Test.YtmgmndhibcgpdaaGreatDoorZTLaid
import Derived.Test.YtmgmndhibcgpdaaGreatDoorZVOpen
import Derived.ChangeMaps5
namespace Go.Proofs.YtmgmndhibcgpdaaGreatDoor
open Go.RowKit

theorem byteSet {w : World} {base g n cap : Nat} {xs : List Value} (h : w.ownsRow base 5 1 (.slice (some ⟨g, 0, none⟩) n cap) n xs) (k : Nat) (u : Value) :
    (w.setCell ⟨g, k, none⟩ u).ownsRow base 5 1 (.slice (some ⟨g, 0, none⟩) n cap) n (xs.set k u) := by
  obtain ⟨h1, h2⟩ := h
  refine ⟨by rw [List.length_set]; exact h1, ?_⟩
  rcases h2 with ⟨h, _⟩ | ⟨g', cap', cur, hv, hb, hh, hnc, hcm, hcs, ht⟩
  · cases h
  · simp only [Value.slice.injEq, Option.some.injEq, Addr.mk.injEq, and_true, true_and] at hv
    obtain ⟨rfl, rfl⟩ := hv
    refine .inr ⟨g, cap, cur.setIfInBounds k u, rfl, hb, ?_, hnc, hcm, by simp; omega, ?_⟩
    · simp [World.setCell, Array.getElem?_modify, hh]
    · rw [← ht, Array.toList_setIfInBounds, List.take_set]
theorem byteCell {w : World} {base g n cap : Nat} {xs : List Value} (h : w.ownsRow base 5 1 (.slice (some ⟨g, 0, none⟩) n cap) n xs) (k : Nat) (hk : k < n) :
    (∃ u, w.cell? ⟨g, k, none⟩ = some u) ∧ w.frozen? ⟨g, k, none⟩ = false := by
  have hl : k < xs.length := by rw [h.1]; omega
  refine ⟨⟨xs[k], ?_⟩, ?_⟩
  · have := h.cells (g := g) rfl k xs[k] (by simp [hl])
    rw [Addr.add_lit, Nat.zero_add] at this
    exact this
  · rcases h.2 with ⟨h, _⟩ | ⟨g', cap', cur, hv, hb, hh, _⟩
    · cases h
    · simp only [Value.slice.injEq, Option.some.injEq, Addr.mk.injEq, and_true, true_and] at hv
      obtain ⟨rfl, rfl⟩ := hv
      simp [World.frozen?, hh]
/-- A row of the caller's own that is written over and appended to: what lies in A up to B stays, and what lies below L. -/
def OwnX (X Y w : World) (L A : Nat) (v : Value) (n : Nat) : Prop :=
  ∃ xs, w.ownsRow L 5 1 v n xs ∧ (∀ k, v.ownBlock = some k → k < A ∨ Y.heap.size ≤ k) ∧ Below L X w ∧ (∀ j, A ≤ j → j < Y.heap.size → w.heap[j]? = Y.heap[j]?) ∧ Y.heap.size ≤ w.heap.size
theorem OwnX.put {X Y w : World} {L A g n cap : Nat} (h : OwnX X Y w L A (.slice (some ⟨g, 0, none⟩) n cap) n) (k : Nat) (u : Value) : OwnX X Y (w.setCell ⟨g, k, none⟩ u) L A (.slice (some ⟨g, 0, none⟩) n cap) n := by
  obtain ⟨xs, h1, h2, h3, h4, h5⟩ := h
  have hl := (h1.lt g rfl).1
  have hg := h2 g rfl
  refine ⟨_, byteSet h1 k u, h2, h3.setCell hl _, fun j h6 h7 => ?_, by simpa [World.setCell] using h5⟩
  have hne : j ≠ g := by omega
  rw [Below.heap_setCell _ _ _ _ hne]
  exact h4 j h6 h7
theorem OwnX.push {X Y w : World} {L A n : Nat} {v : Value} (h : OwnX X Y w L A v n) (hL : L ≤ w.heap.size) (hn : n + 1 ≤ 1000000000000) (ty : TypeId) :
    ∃ v' w', (Builtin.append_ #[45, 45] ty #[v, .slice (some ⟨w.heap.size, 0, none⟩) 1 1]).run Tryz.prog (w.alloc (.cells #[.int .u8 254] 5)) = .ok v' w' ∧ OwnX X Y w' L A v' (n + 1) := by
  obtain ⟨xs, h1, h2, h3, h4, h5⟩ := h
  obtain ⟨i0, hi, hz0, hz1, hz2⟩ := info_parts info_u8
  have bA : Below w.heap.size w (w.alloc (.cells #[.int .u8 254] 5)) := alloc_v (Below.refl _ _) _
  have e := World.alloc_heap_new w (.cells #[.int .u8 254] 5)
  have hA : (w.alloc (.cells #[.int .u8 254] 5)).ownsRow L 5 1 v n xs := h1.kept (grown_of_below (r := none) bA) (by cases v.ownBlock <;> simp)
  obtain ⟨g, cap, w', hrun, A1, A2, A3, A4⟩ := run_append_lies (P := Tryz.prog) (w.alloc (.cells #[.int .u8 254] 5)) 45 ty L 5 i0 (.int .u8 0) 1 1 Tryz.underlying45 hi hz0 hz1 hz2 rfl (by decide) v n xs hA ⟨w.heap.size, 0, none⟩ 1 1 [.int .u8 254] rfl (fun j u hj => by
      rw [Addr.add_lit, Nat.zero_add]
      exact cells_at e j u (by simpa using hj)) (fun u hu => by simp at hu; subst hu; rfl) (by omega) (by unfold maxLen; omega) (by omega) (by rw [World.size_alloc]; omega) (w.heap.size + 1) (by rw [World.size_alloc])
  have hsz := A2.size
  rw [World.size_alloc] at hsz
  refine ⟨_, w', hrun, _, A1, fun k hk => ?_, ?_, fun j h6 h7 => ?_, by omega⟩
  · simp only [Value.ownBlock, Option.some.injEq] at hk
    rcases A3 with A3 | A3
    · exact h2 k (by rw [A3, hk])
    · omega
  · exact (h3.trans (bA.mono hL)).grown A2 (by rw [World.size_alloc]; omega) (fun k hk => (h1.lt k hk).1)
  · refine (A2.block j (by rw [World.size_alloc]; omega) (fun eq => ?_)).trans ((bA.block j (by omega)).trans (h4 j h6 h7))
    have := h2 j eq.symm
    omega
set_option maxRecDepth 100000 in
set_option maxHeartbeats 4000000 in
theorem valueEncodes_walk (v : Vl) (w : World) (n : Nat) (sl : Value) (hT : Tabs w) (hok : v.ok) (hz : v.size ≤ 1000000000) (hs : ItemsAt w w.heap.size n sl v.items) :
    Calls Tryz.prog 5 #[.agg (vcells v sl)] w fun e w' => e = .returned (.bool true) ∧ Below w.heap.size w w' := by
  obtain ⟨W, hW⟩ : ∃ W, w.alloc (.cells (vcells v sl) 25) = W := ⟨_, rfl⟩
  have bW : Below w.heap.size w W := by rw [← hW]; exact alloc_v (Below.refl _ _) _
  have e1 : W.heap[w.heap.size]? = some (.cells (vcells v sl) 25 (0, 0)) := by rw [← hW]; exact World.alloc_heap_new w _
  have zW : w.heap.size < W.heap.size := (Array.getElem?_eq_some_iff.1 e1).1
  have x0 := cells_at e1 0 _ rfl
  have x1 := cells_at e1 1 _ rfl
  have x2 := cells_at e1 2 _ rfl
  have x3 := cells_at e1 3 _ rfl
  have x4 := cells_at e1 4 _ rfl
  have E := hide e1
  have HE := hide (fun (U : World) (b : Below W.heap.size W U) => encodeC_k v U n sl (hT.below (trans_v bW b)) hok hz ((hs.below (trans_v bW b)).up (trans_v bW b).size))
  have HR := hide (fun (U : World) (b : Below W.heap.size W U) => refEncode_k v U n sl hok hz ((hs.below (trans_v bW b)).up (trans_v bW b).size))
  have HA := hide (fun (U : World) (b : Below W.heap.size W U) => alive4_k U (hT.below (trans_v bW b)))
  have hlen : (bif rightV v then encV v else []).length ≤ 10000000000 := by
    cases hr : rightV v
    · simp
    · have h1 := enc_len n v w w.heap.size sl hs hok
      have h2 := right_size hr
      have h3 := Nat.mul_le_mul_right 1048700 h2
      simp only [cond_true]
      omega
  obtain ⟨a, c, rfl, _⟩ := hs.len
  clear hs hT e1 hok hz
  generalize (bif rightV v then encV v else []) = bs at *
  generalize (bif rightV v then (0 : Int) else 40) = cd at *
  go_enter Tryz.func5, Tryz.ntmps5
  go_wp2_with (first
    | (go_at_call 23; refine (HE.out _ (Below.refl _ _)).mono ?_; rintro e w2 ⟨bv, rfl, R2⟩; have B2 : Below W.heap.size W w2 := ⟨R2.gr.os, R2.gr.tape, R2.gr.output, R2.gr.size, fun k hk => R2.gr.block k hk (by simp)⟩; have HR2 := hide R2; have f2 := (B2.block _ zW).trans E.out; have y0 := cells_at f2 0 _ rfl; have y1 := cells_at f2 1 _ rfl; have y2 := cells_at f2 2 _ rfl; have y3 := cells_at f2 3 _ rfl; have y4 := cells_at f2 4 _ rfl; clear f2 R2)
    | (go_at_call 24; refine (HR.out _ B2).mono ?_; clear HR; rintro e w3 ⟨cv, rfl, L3⟩; have B3 := trans_v B2 L3.2; have R3 := HR2.out.below L3.2; have hcb := conv_bytes (ownsRow_bytes R3.row).2.plain; have hcc := conv_bytes (ownsRow_bytes L3.1).2.plain; have HO : Hid (OwnX W w3 w3 W.heap.size w2.heap.size bv bs.length) := hide ⟨_, R3.row, fun k hk => .inl (HR2.out.row.lt k hk).2, B3, fun j _ _ => rfl, Nat.le_refl _⟩; have HL3 := hide L3; have HV := hide (show ∃ ba bc, bv = .slice ba bs.length bc ∧ (0 < bs.length → ∃ g, ba = some ⟨g, 0, none⟩) from by (rcases R3.row.2 with ⟨hv, h0⟩ | ⟨g, cap, cur, hv, _⟩; (exact ⟨none, 0, by rw [hv, h0], fun h => absurd h (by omega)⟩); (exact ⟨_, _, hv, fun _ => ⟨g, rfl⟩⟩))); clear R3 HR2 L3)
    | (go_at_call 18; refine (num4_k _ _).mono ?_; rintro e wq ⟨rfl, rfl⟩))
  obtain ⟨ba, bc, rfl, hg⟩ := HV.out
  have HG := hide hg
  clear x0 x1 x2 x3 x4 y0 y1 y2 y3 y4 hcb hcc hg HV hW
  go_loopw [7] (fun i wr => ∃ k : Nat, k ≤ bs.length ∧ i = .int .i64 k ∧ OwnX W w3 wr W.heap.size w2.heap.size (.slice ba bs.length bc) bs.length) (fun i _ => bs.length - (intOf i).toNat)
  case atStart => exact ⟨0, Nat.zero_le _, rfl, HO.out⟩
  case round =>
    obtain ⟨k, hk, rfl, hO⟩ := hrel
    by_cases hlt : k < bs.length
    · obtain ⟨g, rfl⟩ := HG.out (by omega)
      obtain ⟨⟨u, hu⟩, hfz⟩ := byteCell hO.choose_spec.1 k hlt
      have HP := hide (hO.put k (.int .u8 255))
      clear hO
      go_wp2
      go_roundw
      case rel => exact ⟨k + 1, by omega, by go_num, HP.out⟩
      case measure => simp [intOf]; omega
    · have HO2 := hide hO
      clear hO HO
      go_wp2
      obtain ⟨wo, hwo⟩ : ∃ wo, wo = wr := ⟨_, rfl⟩
      subst hwo
      go_loopw [3, 8] (fun b i wr => ∃ k : Nat, k ≤ 20 ∧ i = .int .i64 k ∧ OwnX W w3 wr W.heap.size w2.heap.size b (bs.length + k)) (fun _ i _ => 20 - (intOf i).toNat)
      case atStart => exact ⟨0, by omega, rfl, HO2.out⟩
      case round =>
        obtain ⟨k, hk, rfl, hO⟩ := hrel
        by_cases hlt : k < 20
        · have HP := hide (hO.push (Nat.le_trans (show W.heap.size ≤ w3.heap.size from B3.size) hO.choose_spec.2.2.2.2) (by omega) 45)
          obtain ⟨v6, w6, hrun, O6⟩ := HP.out
          have HRN := hide hrun
          have HO6 := hide O6
          clear hrun O6 HP hO
          go_wp2_with (at_builtin; refine Lib.wpList_append_run _ rfl (.tmp 45) (.tmp 46) 45 45 rfl _ _ rfl rfl _ _ HRN.out ?_; clear HRN)
          go_roundw
          case rel => exact ⟨k + 1, by omega, by go_num, HO6.out⟩
          case measure => simp [intOf]; omega
        · have BX := hO.choose_spec.2.2.1
          have hcr := own_far HL3.out.1 hO.choose_spec.2.2.2.1
          have HCR := hide hcr
          have f2 := (BX.block _ zW).trans E.out
          have y0 := cells_at f2 0 _ rfl
          have y1 := cells_at f2 1 _ rfl
          have y2 := cells_at f2 2 _ rfl
          have y3 := cells_at f2 3 _ rfl
          have y4 := cells_at f2 4 _ rfl
          clear f2 hcr hO
          go_wp2_with (first
            | (go_at_call 23; refine (HE.out _ BX).mono ?_; clear HE; rintro e w7 ⟨dv, rfl, R7⟩; have B7 : Below wr.heap.size wr w7 := ⟨R7.gr.os, R7.gr.tape, R7.gr.output, R7.gr.size, fun k hk => R7.gr.block k hk (by simp)⟩; have hcd := conv_bytes (ownsRow_bytes R7.row).2.plain; have hcc := conv_bytes (ownsRow_bytes (HCR.out.kept (grown_of_below (r := none) B7) (by cases cv.ownBlock <;> simp))).2.plain; have HV7 := hide (show ∃ ba bc, dv = .slice ba bs.length bc from by (rcases R7.row.2 with ⟨hv, h0⟩ | ⟨g, cap, cur, hv, _⟩; (exact ⟨none, 0, by rw [hv, h0]⟩); (exact ⟨_, _, hv⟩))); clear R7)
            | (go_at_call 20; refine (HA.out _ (trans_v BX B7)).mono ?_; clear HA; rintro e w8 ⟨rfl, b8⟩))
          go_ret
          exact ⟨rfl, trans_v bW (trans_v (trans_v BX B7) b8)⟩
end Go.Proofs.YtmgmndhibcgpdaaGreatDoor

/- Proved: ValueEncodes answers true for every value, up to the bulk of its upto statement. -/
namespace Go.Proofs.YtmgmndhibcgpdaaGreatDoor.valueEncodes
open Go.ChangeShapes Go.WideShapes Go.ChangeAt Go.RowKit
open Go.ChangeMaps (open_string)

set_option maxRecDepth 100000 in
theorem contract (H : Type) (enc : TypeId × Value → H) (W : World) (base : Nat) (args : Array Value) (ds gs : List (DataW H)) (before : List MemPlace)
    (hval : ∀ (j : Nat) t v, Tryz.f5.params[j]? = some t → args[j]? = some v → Value.okWide Tryz.prog W .any base t v)
    (hW : DataW.Whole enc Tryz.prog Tryz.f5.params.toList Rows.valueEncodesSpec.vars false W args.toList ds gs before) (hL : laidMetH Tryz.prog laidL W) (hk : Rows.uptoBulkAll (ds ++ gs) ≤ 1048576) :
    Calls Tryz.prog 5 args W fun e W' => ∃ v, e = .returned v ∧ Rows.valueEncodesSpec.post enc Tryz.prog Tryz.f5 false true false false W args v W' := by
  have hW' := hW
  obtain ⟨p, q, hA0, hV, rfl, hfz, hnd⟩ := hW
  have hA : DataW.TrodAll enc Tryz.prog W 0 (fun _ => true) true Tryz.f5.params.toList args.toList ds p := hA0
  rw [Tryz.params5] at hA hval
  obtain ⟨v0, vs0, d0, ds0, p0, q0, hargs, rfl, rfl, h0, r0⟩ := trodAll_cons hA
  obtain ⟨rfl, rfl, rfl⟩ := trodAll_nil r0
  obtain rfl : args = #[v0] := by cases args; simp_all
  obtain ⟨rfl, rfl⟩ := trodVars_none hV
  simp only [List.append_nil, Rows.uptoBulkAll] at hk
  obtain ⟨cs0, rfl, _⟩ := okWide_struct Tryz.underlying25 (hval 0 25 v0 rfl rfl)
  have k0 := h0
  have lt0 : ∀ x ∈ p0, x.block < W.heap.size := by obtain ⟨m, hm⟩ := k0; exact DataW.trod_lt m _ _ _ hm
  obtain ⟨fuel0, hf0⟩ := h0
  obtain ⟨x0, sl0, ecs0, hI0, hs0, hok0⟩ := open_val fuel0 (cs := cs0.toList) hf0 (by omega)
  obtain rfl : cs0 = vcells x0 sl0 := by cases cs0; simpa using ecs0
  clear hA0
  simp only [List.append_nil] at hW'
  refine (valueEncodes_walk x0 W _ sl0 (tabs_of_laid hL) hok0 (by omega) hI0).mono fun e W' ⟨he, bel⟩ => ?_
  subst he
  exact ⟨_, rfl, _, _, _, [], _, [], hW', trodAll_mk1 (shut_bool Tryz.underlying4 _), trodAll_cons_mk (Below.trod laidOut (by kernel_rfl) (of_decide_eq_true (by kernel_rfl)) k0 bel lt0) trodAll_mk0, rfl, bel.frame _, fun h => by cases h⟩

theorem laid_met (os : Os) : laidMet Tryz.prog Rows.valueEncodesUptoRow.laid ((laidWorld os).forCall (fun _ _ => 0) ⟨#[], #[.agg #[.int .i64 0, .int .i64 0, .int .i64 0, .string ⟨#[]⟩, .slice none 0 0]], []⟩).memory :=
  laidMet_of_run' 8 (by kernel_rfl) (by kernel_rfl)
theorem reads (os : Os) {H : Type} (enc : TypeId × Value → H) : ∃ places, DataW.whole enc Tryz.prog ((laidWorld os).forCall (fun _ _ => 0) ⟨#[], #[.agg #[.int .i64 0, .int .i64 0, .int .i64 0, .string ⟨#[]⟩, .slice none 0 0]], []⟩).memory Tryz.f5.params.toList Rows.valueEncodesSpec.vars false #[Value.agg #[.int .i64 0, .int .i64 0, .int .i64 0, .string ⟨#[]⟩, .slice none 0 0]].toList 8 = some ([.agg [.lit (.int .i64 0), .lit (.int .i64 0), .lit (.int .i64 0), .lit (.string []), .nil]], [], places) :=
  ⟨[], by kernel_rfl⟩

set_option maxRecDepth 100000 in
theorem liftedUpto (os : Os) (started : os.Started) (H : Type) (enc : TypeId × Value → H) (F : Stop.Interp) :
    ReturnsInHanded {} Tryz.checked os 5 .any ((Rows.OpenSpec.upto Rows.valueEncodesSpec).preRow enc Tryz.prog Tryz.f5 Rows.valueEncodesUptoRow.domain false Rows.valueEncodesUptoRow.laid) (((Rows.OpenSpec.upto Rows.valueEncodesSpec).at F).post enc Tryz.prog Tryz.f5 false true false false) := by
  obtain ⟨places, hx⟩ := reads os enc
  refine returnsInHanded_of_row (C := Tryz.checked) (s := Rows.OpenSpec.upto Rows.valueEncodesSpec) own started (by kernel_rfl) Tryz.func5
    (witness_row_at (enc := enc) (C := Tryz.checked) false (laidWorld os) #[.agg #[.int .i64 0, .int .i64 0, .int .i64 0, .string ⟨#[]⟩, .slice none 0 0]] rfl (by kernel_rfl) (by kernel_rfl) (by kernel_rfl)
      (OpenSpec.preRow_of_cond 8 hx (by kernel_rfl) (fun k hk => by cases hk; kernel_rfl) (by kernel_rfl) (laid_met os))) ?_
  intro W base args ds gs before hval hW _ hcond _ hL _ _
  exact contract H enc W base args ds gs before hval hW hL (of_decide_eq_true (hcond _ rfl))

theorem saidUpto : Rows.ValueEncodesUptoSaid :=
  OpenClaim.holds_of_cond 5 Tryz.f5 rfl rfl rfl rfl rfl rfl rfl ⟨rfl, rfl, rfl, rfl, rfl⟩ rfl rfl rfl rfl rfl (by kernel_rfl) Tryz.func5 (by kernel_rfl)
    (of_decide_eq_true (by kernel_rfl)) (by unfold Func.isWrapper; first | (rw [if_pos (by decide +kernel)]; kernel_rfl) | (rw [if_neg (by decide +kernel)]; exact ⟨rfl, rfl⟩))
    (fun os started H enc _ F => by rw [OpenClaim.pre_eq_preRow]; exact liftedUpto os started H enc F)

theorem plain (f : FuncId) (fn : Func) (hf : Tryz.pinned.checked.prog.funcNamed Rows.valueEncodesRow.func = some f) (hfn : Tryz.pinned.checked.prog.funcs[f]? = some fn) :
    true = Tryz.pinned.checked.prog.looks [] ∧ ∀ (j : Nat) t, fn.params[j]? = some t → Tryz.pinned.checked.prog.wantsStandIn t = false := by
  obtain rfl : f = 5 := Option.some.inj ((show Tryz.prog.funcNamed Rows.valueEncodesRow.func = some 5 by kernel_rfl).symm.trans hf) |>.symm
  obtain rfl : fn = Tryz.f5 := (Option.some.inj (Tryz.func5.symm.trans hfn)).symm
  refine ⟨by kernel_rfl, fun j t ht => ?_⟩
  rw [Tryz.params5] at ht
  obtain rfl : t = 25 := by simpa using Array.mem_of_getElem? ht
  exact (show Tryz.prog.wantsStandIn 25 = false by kernel_rfl)

theorem cardUpto : Rows.ValueEncodesUptoCardSaid :=
  Claim7.holds_tied_plain_at .later [] _ _ _ _ saidUpto (fun _ h => by cases h) (by kernel_rfl) (fun _ h => by cases h) valueEncodesUpto_row_tie rfl ⟨rfl, rfl⟩ (by kernel_rfl) rfl plain (by kernel_rfl)
end Go.Proofs.YtmgmndhibcgpdaaGreatDoor.valueEncodes
namespace Go.Proofs.YtmgmndhibcgpdaaGreatDoor
theorem valueEncodes_upto : Rows.ValueEncodesUptoCardSaid := valueEncodes.cardUpto
#print axioms valueEncodes_upto
end Go.Proofs.YtmgmndhibcgpdaaGreatDoor
