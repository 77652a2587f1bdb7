/- ArithUnary answers true. -/
import Derived.Test.YtmgmndhibcgpdaaGreatDoorGACalls
import Derived.Test.YtmgmndhibcgpdaaGreatDoorZVAlike
import Derived.Test.YtmgmndhibcgpdaaGreatDoorZALaid
import Derived.Test.YtmgmndhibcgpdaaGreatDoorZVOpen
import Derived.ChangeMaps5
namespace Go.Proofs.YtmgmndhibcgpdaaGreatDoor
open Go.RowKit

theorem un_facts (op : ByteArray) (v : Vl) : (unV op v).1.items = [] ∧ (unV op v).1.text = ⟨#[]⟩ ∧ ((unV op v).2 = 0 → rightV (unV op v).1 = true) ∧ ((unV op v).2 ≠ 0 → (unV op v).1 = zeroV) := by
  obtain ⟨k, i, m, t, l⟩ := v
  unfold unV
  simp only
  cases hr : rightV ⟨k, i, m, t, l⟩
  · simp
  · cases hd : (op.toList == [45])
    · cases hn : (op.toList == [110, 111, 116])
      · simp
      · simp only [cond_true, cond_false]
        by_cases h1 : k = 1
        · rw [if_pos h1]
          exact ⟨rfl, rfl, fun _ => right_leaf1 _, fun h => absurd rfl h⟩
        · rw [if_neg h1]
          simp
    · simp only [cond_true]
      by_cases h2 : k = 2
      · rw [if_pos h2]
        exact ⟨rfl, rfl, fun _ => right_leaf2 _, fun h => absurd rfl h⟩
      · rw [if_neg h2]
        by_cases h3 : k = 3
        · rw [if_pos h3]
          subst h3
          exact ⟨rfl, rfl, fun _ => by rw [right_leaf3]; exact gaussB_neg (right_gauss hr), fun h => absurd rfl h⟩
        · rw [if_neg h3]
          simp
theorem cmp_self {v : Vl} (h : rightV v = true) : cmpV v v = 0 := by
  unfold cmpV
  rw [h]
  exact ordV_self v
set_option maxRecDepth 100000 in
set_option maxHeartbeats 2000000 in
theorem arithUnary_walk (op : ByteArray) (v : Vl) (w : World) (n : Nat) (sl : Value) (hT : TabL w) (hok : v.ok) (hs : ItemsAt w w.heap.size n sl v.items) :
    Calls Tryz.prog 7 #[.string op, .agg (vcells v sl)] w fun e w' => e = .returned (.bool true) ∧ Below w.heap.size w w' := by
  obtain ⟨W, hW⟩ : ∃ W, w.alloc (.cells (vcells v sl) 25) = W := ⟨_, rfl⟩
  have bW : Below w.heap.size w W := by rw [← hW]; exact alloc_v (Below.refl _ _) _
  have e1 : W.heap[w.heap.size]? = some (.cells (vcells v sl) 25 (0, 0)) := by rw [← hW]; exact World.alloc_heap_new w _
  have zW : w.heap.size < W.heap.size := (Array.getElem?_eq_some_iff.1 e1).1
  have x0 := cells_at e1 0 _ rfl
  have x1 := cells_at e1 1 _ rfl
  have x2 := cells_at e1 2 _ rfl
  have x3 := cells_at e1 3 _ rfl
  have x4 := cells_at e1 4 _ rfl
  have E := hide e1
  have HU := hide (unary_k op v W n sl (hT.below bW) hok ((hs.below bW).up bW.size))
  have HR := hide (fun (U : World) (b : Below W.heap.size W U) => refUnary_k op v U n sl hok ((hs.below (trans_v bW b)).up (trans_v bW b).size))
  have HH := hide (fun (U : World) (b : Below W.heap.size W U) => heads5_k U (hT.below (trans_v bW b)))
  have hf := un_facts op v
  obtain ⟨a, c, rfl, _⟩ := hs.len
  clear hs hT e1 hok
  generalize unV op v = r at *
  obtain ⟨⟨k, i, m, t, l⟩, f⟩ := r
  obtain ⟨f1, f2, f3, f4⟩ := hf
  simp only at f1 f2 f3 f4 HU HR
  subst f1 f2
  have HA : Hid (∀ U : World, Calls Tryz.prog 29 #[.agg (vcells ⟨k, i, m, ⟨#[]⟩, []⟩ (.slice none 0 0)), .int .i64 f, .agg (vcells ⟨k, i, m, ⟨#[]⟩, []⟩ (.slice none 0 0)), .int .i64 f] U fun e w' => e = .returned (.bool true) ∧ Below U.heap.size U w') := hide (fun U => by
    by_cases h : f = 0
    · subst h
      exact alike5_ok _ _ U 1 1 _ _ (Nat.zero_le _) (Nat.zero_le _) (items_nil _ _) (items_nil _ _) (f3 rfl) (cmp_self (f3 rfl))
    · have := f4 h
      rw [this]
      exact alike5_err f h zeroV _ U)
  clear f3 f4
  go_enter Tryz.func7, Tryz.ntmps7
  go_wp2_with (first
    | (go_at_call 27; refine HU.out.mono ?_; clear HU; rintro e w2 ⟨rfl, b2⟩; have B2 := trans_v b2 (alloc_v (Below.refl _ _) (.cells (vcells ⟨k, i, m, ⟨#[]⟩, []⟩ (.slice none 0 0)) 25)); have f2 := (B2.block _ zW).trans E.out; have y0 := cells_at f2 0 _ rfl; have y1 := cells_at f2 1 _ rfl; have y2 := cells_at f2 2 _ rfl; have y3 := cells_at f2 3 _ rfl; have y4 := cells_at f2 4 _ rfl; clear f2)
    | (go_at_call 28; refine (HR.out _ B2).mono ?_; clear HR; rintro e w3 ⟨rfl, b3⟩; have A3 := trans_v b3 (alloc_v (Below.refl _ _) (.cells (vcells ⟨k, i, m, ⟨#[]⟩, []⟩ (.slice none 0 0)) 25)); have B3 := trans_v B2 A3; have fa := (A3.block w2.heap.size (by simp)).trans (World.alloc_heap_new w2 _); have fb := World.alloc_heap_new w3 (.cells (vcells ⟨k, i, m, ⟨#[]⟩, []⟩ (.slice none 0 0)) 25); have u0 := cells_at fa 0 _ rfl; have u1 := cells_at fa 1 _ rfl; have u2 := cells_at fa 2 _ rfl; have u3 := cells_at fa 3 _ rfl; have u4 := cells_at fa 4 _ rfl; have t0 := cells_at fb 0 _ rfl; have t1 := cells_at fb 1 _ rfl; have t2 := cells_at fb 2 _ rfl; have t3 := cells_at fb 3 _ rfl; have t4 := cells_at fb 4 _ rfl; clear fa fb)
    | (go_at_call 29; refine (HA.out _).mono ?_; clear HA; rintro e w4 ⟨rfl, b4⟩)
    | (go_at_call 30; refine (HH.out _ (trans_v B3 b4)).mono ?_; clear HH; rintro e w5 ⟨rfl, b5⟩))
  go_ret
  exact ⟨rfl, trans_v (trans_v (trans_v bW B3) b4) b5⟩
end Go.Proofs.YtmgmndhibcgpdaaGreatDoor

/- Proved: ArithUnary answers true for every operation and every value, up to the bulk of its upto statement. -/
namespace Go.Proofs.YtmgmndhibcgpdaaGreatDoor.arithUnary
open Go.ChangeShapes Go.WideShapes Go.ChangeAt Go.RowKit
open Go.ChangeMaps (open_string)

set_option maxRecDepth 100000 in
theorem contract (H : Type) (enc : TypeId × Value → H) (W : World) (base : Nat) (args : Array Value) (ds gs : List (DataW H)) (before : List MemPlace)
    (hval : ∀ (j : Nat) t v, Tryz.f7.params[j]? = some t → args[j]? = some v → Value.okWide Tryz.prog W .any base t v)
    (hW : DataW.Whole enc Tryz.prog Tryz.f7.params.toList Rows.arithUnarySpec.vars false W args.toList ds gs before) (hL : laidMetH Tryz.prog laidLL W) (hk : Rows.uptoBulkAll (ds ++ gs) ≤ 1048576) :
    Calls Tryz.prog 7 args W fun e W' => ∃ v, e = .returned v ∧ Rows.arithUnarySpec.post enc Tryz.prog Tryz.f7 false true false false W args v W' := by
  have hW' := hW
  obtain ⟨p, q, hA0, hV, rfl, hfz, hnd⟩ := hW
  have hA : DataW.TrodAll enc Tryz.prog W 0 (fun _ => true) true Tryz.f7.params.toList args.toList ds p := hA0
  rw [Tryz.params7] at hA hval
  obtain ⟨v0, vs0, d0, ds0, p0, q0, hargs, rfl, rfl, h0, r0⟩ := trodAll_cons hA
  obtain ⟨v1, vs1, d1, ds1, p1, q1, rfl, rfl, rfl, h1, r1⟩ := trodAll_cons r0
  obtain ⟨rfl, rfl, rfl⟩ := trodAll_nil r1
  obtain rfl : args = #[v0, v1] := by cases args; simp_all
  obtain ⟨rfl, rfl⟩ := trodVars_none hV
  simp only [List.append_nil, Rows.uptoBulkAll] at hk
  have h0' := h0
  obtain ⟨s0, rfl, rfl, rfl, _⟩ := open_string Tryz.underlying9 (hval 0 9 v0 rfl rfl) h0
  obtain ⟨cs1, rfl, _⟩ := okWide_struct Tryz.underlying25 (hval 1 25 v1 rfl rfl)
  have k1 := h1
  have lt1 : ∀ x ∈ p1, x.block < W.heap.size := by obtain ⟨m, hm⟩ := k1; exact DataW.trod_lt m _ _ _ hm
  obtain ⟨fuel1, hf1⟩ := h1
  obtain ⟨x1, sl1, ecs1, hI1, hs1, hok1⟩ := open_val fuel1 (cs := cs1.toList) hf1 (by omega)
  obtain rfl : cs1 = vcells x1 sl1 := by cases cs1; simpa using ecs1
  clear hA0
  simp only [List.append_nil] at hW'
  have hlen0 : s0.data.toList.length = s0.size := by rw [Array.length_toList]; rfl
  refine (arithUnary_walk s0 x1 W _ sl1 (tabL_of_laid hL) hok1 hI1).mono fun e W' ⟨he, bel⟩ => ?_
  subst he
  exact ⟨_, rfl, _, _, _, [], _, [], hW', trodAll_mk1 (shut_bool Tryz.underlying4 _), trodAll_cons_mk (Below.trod laidOut (by kernel_rfl) (of_decide_eq_true (by kernel_rfl)) h0' bel (fun x hx => by cases hx)) (trodAll_cons_mk (Below.trod laidOut (by kernel_rfl) (of_decide_eq_true (by kernel_rfl)) k1 bel lt1) trodAll_mk0), rfl, bel.frame _, fun h => by cases h⟩

theorem laid_met (os : Os) : laidMet Tryz.prog Rows.arithUnaryUptoRow.laid ((laidWorld os).forCall (fun _ _ => 0) ⟨#[], #[.string ⟨#[]⟩, .agg #[.int .i64 0, .int .i64 0, .int .i64 0, .string ⟨#[]⟩, .slice none 0 0]], []⟩).memory :=
  laidMet_of_run' 8 (by kernel_rfl) (by kernel_rfl)
theorem reads (os : Os) {H : Type} (enc : TypeId × Value → H) : ∃ places, DataW.whole enc Tryz.prog ((laidWorld os).forCall (fun _ _ => 0) ⟨#[], #[.string ⟨#[]⟩, .agg #[.int .i64 0, .int .i64 0, .int .i64 0, .string ⟨#[]⟩, .slice none 0 0]], []⟩).memory Tryz.f7.params.toList Rows.arithUnarySpec.vars false #[Value.string ⟨#[]⟩, Value.agg #[.int .i64 0, .int .i64 0, .int .i64 0, .string ⟨#[]⟩, .slice none 0 0]].toList 8 = some ([.lit (.string []), .agg [.lit (.int .i64 0), .lit (.int .i64 0), .lit (.int .i64 0), .lit (.string []), .nil]], [], places) :=
  ⟨[], by kernel_rfl⟩

set_option maxRecDepth 100000 in
theorem liftedUpto (os : Os) (started : os.Started) (H : Type) (enc : TypeId × Value → H) (F : Stop.Interp) :
    ReturnsInHanded {} Tryz.checked os 7 .any ((Rows.OpenSpec.upto Rows.arithUnarySpec).preRow enc Tryz.prog Tryz.f7 Rows.arithUnaryUptoRow.domain false Rows.arithUnaryUptoRow.laid) (((Rows.OpenSpec.upto Rows.arithUnarySpec).at F).post enc Tryz.prog Tryz.f7 false true false false) := by
  obtain ⟨places, hx⟩ := reads os enc
  refine returnsInHanded_of_row (C := Tryz.checked) (s := Rows.OpenSpec.upto Rows.arithUnarySpec) own started (by kernel_rfl) Tryz.func7
    (witness_row_at (enc := enc) (C := Tryz.checked) false (laidWorld os) #[.string ⟨#[]⟩, .agg #[.int .i64 0, .int .i64 0, .int .i64 0, .string ⟨#[]⟩, .slice none 0 0]] rfl (by kernel_rfl) (by kernel_rfl) (by kernel_rfl)
      (OpenSpec.preRow_of_cond 8 hx (by kernel_rfl) (fun k hk => by cases hk; kernel_rfl) (by kernel_rfl) (laid_met os))) ?_
  intro W base args ds gs before hval hW _ hcond _ hL _ _
  exact contract H enc W base args ds gs before hval hW hL (of_decide_eq_true (hcond _ rfl))

theorem saidUpto : Rows.ArithUnaryUptoSaid :=
  OpenClaim.holds_of_cond 7 Tryz.f7 rfl rfl rfl rfl rfl rfl rfl ⟨rfl, rfl, rfl, rfl, rfl⟩ rfl rfl rfl rfl rfl (by kernel_rfl) Tryz.func7 (by kernel_rfl)
    (of_decide_eq_true (by kernel_rfl)) (by unfold Func.isWrapper; first | (rw [if_pos (by decide +kernel)]; kernel_rfl) | (rw [if_neg (by decide +kernel)]; exact ⟨rfl, rfl⟩))
    (fun os started H enc _ F => by rw [OpenClaim.pre_eq_preRow]; exact liftedUpto os started H enc F)

theorem plain (f : FuncId) (fn : Func) (hf : Tryz.pinned.checked.prog.funcNamed Rows.arithUnaryRow.func = some f) (hfn : Tryz.pinned.checked.prog.funcs[f]? = some fn) :
    true = Tryz.pinned.checked.prog.looks [] ∧ ∀ (j : Nat) t, fn.params[j]? = some t → Tryz.pinned.checked.prog.wantsStandIn t = false := by
  obtain rfl : f = 7 := Option.some.inj ((show Tryz.prog.funcNamed Rows.arithUnaryRow.func = some 7 by kernel_rfl).symm.trans hf) |>.symm
  obtain rfl : fn = Tryz.f7 := (Option.some.inj (Tryz.func7.symm.trans hfn)).symm
  refine ⟨by kernel_rfl, fun j t ht => ?_⟩
  rw [Tryz.params7] at ht
  have hm : t = 9 ∨ t = 25 := by simpa using Array.mem_of_getElem? ht
  rcases hm with rfl | rfl
  · exact (show Tryz.prog.wantsStandIn 9 = false by kernel_rfl)
  · exact (show Tryz.prog.wantsStandIn 25 = false by kernel_rfl)

theorem cardUpto : Rows.ArithUnaryUptoCardSaid :=
  Claim7.holds_tied_plain_at .later [] _ _ _ _ saidUpto (fun _ h => by cases h) (by kernel_rfl) (fun _ h => by cases h) arithUnaryUpto_row_tie rfl ⟨rfl, rfl⟩ (by kernel_rfl) rfl plain (by kernel_rfl)
end Go.Proofs.YtmgmndhibcgpdaaGreatDoor.arithUnary
namespace Go.Proofs.YtmgmndhibcgpdaaGreatDoor
theorem arithUnary_upto : Rows.ArithUnaryUptoCardSaid := arithUnary.cardUpto
#print axioms arithUnary_upto
end Go.Proofs.YtmgmndhibcgpdaaGreatDoor
