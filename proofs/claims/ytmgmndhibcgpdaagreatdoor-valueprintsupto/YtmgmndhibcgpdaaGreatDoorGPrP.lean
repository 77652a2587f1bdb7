/- The reference's Print; ValuePrints answers true. -/
import Derived.Test.YtmgmndhibcgpdaaGreatDoorGRefW
import Derived.Test.YtmgmndhibcgpdaaGreatDoorZVAlive
import Derived.Test.YtmgmndhibcgpdaaGreatDoorZTLaid
import Derived.Test.YtmgmndhibcgpdaaGreatDoorZVOpen
import Derived.ChangeMaps5
namespace Go.Proofs.YtmgmndhibcgpdaaGreatDoor
open Go.RowKit

theorem rwr_k : ∀ n, RWrC n
  | 0 => fun _ _ _ _ _ _ _ _ _ h => h.elim
  | n + 1 => fun v w B sl hf hok hz hl hB hi => by
    obtain ⟨⟨hu, hg⟩, hall⟩ := form_parts hf
    obtain ⟨a, c, rfl, _⟩ := hi.len
    have hsz : ∀ x ∈ v.items, x.size ≤ 1000000000 := fun x hx => by have := Vl.size_item hx; omega
    have hll : v.items.length ≤ 1000000000 := by have := size_len v; omega
    obtain ⟨k, i, m, t, l⟩ := v
    unfold goodB at hg
    simp only at *
    split at hg
    · rename_i h
      rcases h with rfl | rfl | rfl | rfl
      · exact rwr_int i m t l a c w hok.2.1.1 hok.2.1.2
      · refine rwr_row5 i m t l a c w n B (rwr_k n) hB hi hall hsz hll ?_
        by_cases h1 : l.length = 1
        · rw [pr_one _ _ _ _ h1] at hl
          simp at hl
          omega
        · rw [pr_tuple _ _ _ _ h1] at hl
          simp at hl
          omega
      · refine rwr_row6 i m t l a c w n B (rwr_k n) hB hi hall hsz hll ?_
        rw [pr_list] at hl
        simp at hl
        omega
      · refine rwr_row7 i m t l a c w n B (rwr_k n) hB hi hall hsz hll ?_
        rw [pr_set] at hl
        simp at hl
        omega
    · split at hg
      · rename_i h
        subst h
        exact rwr_bool i m t l a c w (by simpa using hg)
      · split at hg
        · rename_i h
          subst h
          exact rwr_sym i m t l a c w
        · split at hg
          · rename_i h
            subst h
            exact rwr_gauss i m t l a c w hok.2.1.1 hok.2.1.2 hok.2.2.1 hok.2.2.2 hl
          · cases hg
theorem itoa_short {i : Int} (h0 : -9223372036854775808 ≤ i) (h1 : i ≤ 9223372036854775807) : (Lib.itoa i).length ≤ 21 := by
  unfold Lib.itoa
  have := dec_len 19 i.natAbs (by omega)
  split
  · simp; omega
  · have h2 : i.toNat = i.natAbs := by omega
    rw [h2]
    omega
theorem join_short {l : List Vl} {c : Nat} (h : ∀ x ∈ l, (prV x).length + 2 ≤ x.size * c) : (Lib.join (l.map prV) [44, 32]).length ≤ (l.map Vl.size).sum * c := by
  have h2 : ∀ l : List Vl, (∀ x ∈ l, (prV x).length + 2 ≤ x.size * c) → Lib.lens (l.map prV) + 2 * l.length ≤ (l.map Vl.size).sum * c := by
    intro l
    induction l with
    | nil => intro _; simp [Lib.lens]
    | cons x r ih =>
      intro h
      have a1 := h x (by simp)
      have a2 := ih fun y hy => h y (by simp [hy])
      simp only [Lib.lens, List.map_cons, List.sum_cons, Nat.add_mul, List.length_cons] at a2 ⊢
      omega
  cases l with
  | nil => simp [Lib.join_nil]
  | cons x r =>
    have := h2 (x :: r) h
    rw [List.map_cons, Lib.join_length]
    simp only [List.map_cons, List.length_cons, List.length_nil, List.length_map] at this ⊢
    omega
set_option maxRecDepth 100000 in
theorem pr_len : ∀ (n : Nat) (v : Vl) (w : World) (B : Nat) (sl : Value), ItemsAt w B n sl v.items → v.ok → (prV v).length + 2 ≤ v.size * 1048700
  | 0, _, _, _, _, h, _ => h.elim
  | n + 1, v, w, B, sl, h, hok => by
    obtain ⟨a, c, rfl, hla⟩ := h.len
    have hit : ∀ x ∈ v.items, (prV x).length + 2 ≤ x.size * 1048700 := fun x hx => by
      obtain ⟨j, hj, rfl⟩ := List.getElem_of_mem hx
      obtain ⟨b, o, s, _, _, _, _, _, _, _, h5, h6⟩ := h.item j hj
      exact pr_len n _ w B s h5 h6
    have hf := join_short hit
    have z1 := itoa_short hok.2.1.1 hok.2.1.2
    have z2 := itoa_short hok.2.2.1 hok.2.2.2
    have ht : v.text.data.toList.length ≤ 1048576 := by rw [size_eq]; exact hok.1
    obtain ⟨S, hS⟩ : ∃ S, (v.items.map Vl.size).sum * 1048700 = S := ⟨_, rfl⟩
    rw [hS] at hf
    have hsz : v.size * 1048700 = S + 1048700 := by rw [Vl.size_eq, Nat.add_mul, hS, Nat.one_mul]
    rw [hsz, prV_eq]
    clear hsz hS
    split
    · split <;> simp
    · split
      · omega
      · split
        · have : (if 0 ≤ v.im then ([43] : List UInt8) else []).length ≤ 1 := by split <;> simp
          simp only [List.length_append, List.length_cons, List.length_nil]
          omega
        · split
          · omega
          · split
            · split
              · simp only [List.length_append, List.length_cons, List.length_nil]; omega
              · simp only [List.length_append, List.length_cons, List.length_nil]; omega
            · split
              · simp only [List.length_append, List.length_cons, List.length_nil]; omega
              · simp only [List.length_append, List.length_cons, List.length_nil]; omega
theorem pr_short {n : Nat} {v : Vl} {w : World} {B : Nat} {sl : Value} (h : ItemsAt w B n sl v.items) (hok : v.ok) (hr : rightV v = true) : (prV v).length ≤ 1000000000000 := by
  have h1 := pr_len n v w B sl h hok
  have h2 := right_size hr
  have h3 := Nat.mul_le_mul_right 1048700 h2
  omega
set_option maxRecDepth 100000 in
theorem printC_k (v : Vl) (w : World) (n : Nat) (sl : Value) (hT : Tabs w) (hok : v.ok) (hz : v.size ≤ 1000000000) (hs : ItemsAt w w.heap.size n sl v.items) :
    Calls Tryz.prog 25 #[.agg (vcells v sl)] w fun e w' => e = .returned (.tuple #[.string (bif rightV v then str (prV v) else ⟨#[]⟩), .int .i64 (bif rightV v then 0 else 40)]) ∧ Below w.heap.size w w' := by
  have hl := pr_short hs hok
  obtain ⟨W, hW⟩ : ∃ W, w.alloc (.cells (vcells v sl) 25) = W := ⟨_, rfl⟩
  have bW : Below w.heap.size w W := by rw [← hW]; exact alloc_v (Below.refl _ _) _
  have e1 : W.heap[w.heap.size]? = some (.cells (vcells v sl) 25 (0, 0)) := by rw [← hW]; exact World.alloc_heap_new w _
  have x0 := cells_at e1 0 _ rfl
  have x1 := cells_at e1 1 _ rfl
  have x2 := cells_at e1 2 _ rfl
  have x3 := cells_at e1 3 _ rfl
  have x4 := cells_at e1 4 _ rfl
  have zW : w.heap.size < W.heap.size := (Array.getElem?_eq_some_iff.1 e1).1
  have HR := hide (right_k v W n sl (hT.below bW) hok.1 ((hs.below bW).up bW.size))
  have HE := hide (fun (h : rightV v = true) (U : World) (b : Below W.heap.size W U) => written_k n v U w.heap.size sl (form_right h) hok hz (hl h) ((hT.below bW).below b) (trans_v bW b).size (hs.below (trans_v bW b)))
  obtain ⟨a, c, rfl, _⟩ := hs.len
  clear hs e1 hT
  cases hx : rightV v
  · rw [hx] at HR
    go_enter Tryz.func25, Tryz.ntmps25
    go_wp2_with (go_at_call 51; refine HR.out.mono ?_; clear HR; rintro e w2 ⟨rfl, b2⟩)
    go_ret2
    exact ⟨rfl, trans_v bW b2⟩
  · rw [hx] at HR
    have HE := hide (HE.out hx)
    clear hx
    go_enter Tryz.func25, Tryz.ntmps25
    go_wp2_with (first
      | (go_at_call 51; refine HR.out.mono ?_; clear HR; rintro e w2 ⟨rfl, b2⟩; have hc := (bcellV b2).1)
      | (go_at_call 58; refine (HE.out _ b2).mono ?_; clear HE; rintro e w3 ⟨rfl, b3⟩))
    go_ret2
    exact ⟨rfl, trans_v (trans_v bW b2) b3⟩
set_option maxRecDepth 100000 in
theorem refPrint_k (v : Vl) (w : World) (n : Nat) (sl : Value) (hok : v.ok) (hz : v.size ≤ 1000000000) (hs : ItemsAt w w.heap.size n sl v.items) :
    Calls Tryz.prog 26 #[.agg (vcells v sl)] w fun e w' => e = .returned (.tuple #[.string (bif rightV v then str (prV v) else ⟨#[]⟩), .int .i64 (bif rightV v then 0 else 40)]) ∧ Below w.heap.size w w' := by
  have hl := pr_short hs hok
  obtain ⟨W, hW⟩ : ∃ W, w.alloc (.cells (vcells v sl) 25) = W := ⟨_, rfl⟩
  have bW : Below w.heap.size w W := by rw [← hW]; exact alloc_v (Below.refl _ _) _
  have e1 : W.heap[w.heap.size]? = some (.cells (vcells v sl) 25 (0, 0)) := by rw [← hW]; exact World.alloc_heap_new w _
  have x0 := cells_at e1 0 _ rfl
  have x1 := cells_at e1 1 _ rfl
  have x2 := cells_at e1 2 _ rfl
  have x3 := cells_at e1 3 _ rfl
  have x4 := cells_at e1 4 _ rfl
  have zW : w.heap.size < W.heap.size := (Array.getElem?_eq_some_iff.1 e1).1
  have HR := hide (refRight_k v W n sl hok.1 ((hs.below bW).up bW.size))
  have HE := hide (fun (h : rightV v = true) (U : World) (b : Below W.heap.size W U) => rwr_k n v U w.heap.size sl (form_right h) hok hz (hl h) (trans_v bW b).size (hs.below (trans_v bW b)))
  obtain ⟨a, c, rfl, _⟩ := hs.len
  clear hs e1
  cases hx : rightV v
  · rw [hx] at HR
    go_enter Tryz.func26, Tryz.ntmps26
    go_wp2_with (go_at_call 33; refine HR.out.mono ?_; clear HR; rintro e w2 ⟨rfl, b2⟩)
    go_ret2
    exact ⟨rfl, trans_v bW b2⟩
  · rw [hx] at HR
    have HE := hide (HE.out hx)
    clear hx
    go_enter Tryz.func26, Tryz.ntmps26
    go_wp2_with (first
      | (go_at_call 33; refine HR.out.mono ?_; clear HR; rintro e w2 ⟨rfl, b2⟩; have hc := (bcellV b2).1)
      | (go_at_call 59; refine (HE.out _ b2).mono ?_; clear HE; rintro e w3 ⟨rfl, b3⟩))
    go_ret2
    exact ⟨rfl, trans_v (trans_v bW b2) b3⟩
set_option maxRecDepth 100000 in
set_option maxHeartbeats 2000000 in
theorem valuePrints_walk (v : Vl) (w : World) (n : Nat) (sl : Value) (hT : Tabs w) (hok : v.ok) (hz : v.size ≤ 1000000000) (hs : ItemsAt w w.heap.size n sl v.items) :
    Calls Tryz.prog 6 #[.agg (vcells v sl)] w fun e w' => e = .returned (.bool true) ∧ Below w.heap.size w w' := by
  obtain ⟨W, hW⟩ : ∃ W, w.alloc (.cells (vcells v sl) 25) = W := ⟨_, rfl⟩
  have bW : Below w.heap.size w W := by rw [← hW]; exact alloc_v (Below.refl _ _) _
  have e1 : W.heap[w.heap.size]? = some (.cells (vcells v sl) 25 (0, 0)) := by rw [← hW]; exact World.alloc_heap_new w _
  have zW : w.heap.size < W.heap.size := (Array.getElem?_eq_some_iff.1 e1).1
  have x0 := cells_at e1 0 _ rfl
  have x1 := cells_at e1 1 _ rfl
  have x2 := cells_at e1 2 _ rfl
  have x3 := cells_at e1 3 _ rfl
  have x4 := cells_at e1 4 _ rfl
  have E := hide e1
  have HE := hide (printC_k v W n sl (hT.below bW) hok hz ((hs.below bW).up bW.size))
  have HR := hide (fun (U : World) (b : Below W.heap.size W U) => refPrint_k v U n sl hok hz ((hs.below (trans_v bW b)).up (trans_v bW b).size))
  have HA := hide (fun (U : World) (b : Below W.heap.size W U) => alive4_k U (hT.below (trans_v bW b)))
  obtain ⟨a, c, rfl, _⟩ := hs.len
  clear hs hT e1 hok hz
  generalize (bif rightV v then str (prV v) else ⟨#[]⟩) = tx at *
  generalize (bif rightV v then (0 : Int) else 40) = cd at *
  go_enter Tryz.func6, Tryz.ntmps6
  go_wp2_with (first
    | (go_at_call 25; refine HE.out.mono ?_; clear HE; rintro e w2 ⟨rfl, b2⟩; have f2 := (b2.block _ zW).trans E.out; have y0 := cells_at f2 0 _ rfl; have y1 := cells_at f2 1 _ rfl; have y2 := cells_at f2 2 _ rfl; have y3 := cells_at f2 3 _ rfl; have y4 := cells_at f2 4 _ rfl; clear f2)
    | (go_at_call 26; refine (HR.out _ b2).mono ?_; clear HR; rintro e w3 ⟨rfl, b3⟩)
    | (go_at_call 18; refine (num4_k _ _).mono ?_; rintro e wq ⟨rfl, rfl⟩)
    | (go_at_call 20; refine (HA.out _ (trans_v b2 b3)).mono ?_; clear HA; rintro e w4 ⟨rfl, b4⟩))
  go_ret
  exact ⟨rfl, trans_v bW (trans_v (trans_v b2 b3) b4)⟩
end Go.Proofs.YtmgmndhibcgpdaaGreatDoor

/- Proved: ValuePrints answers true for every value, up to the bulk of its upto statement. -/
namespace Go.Proofs.YtmgmndhibcgpdaaGreatDoor.valuePrints
open Go.ChangeShapes Go.WideShapes Go.ChangeAt Go.RowKit
open Go.ChangeMaps (open_string)

set_option maxRecDepth 100000 in
theorem contract (H : Type) (enc : TypeId × Value → H) (W : World) (base : Nat) (args : Array Value) (ds gs : List (DataW H)) (before : List MemPlace)
    (hval : ∀ (j : Nat) t v, Tryz.f6.params[j]? = some t → args[j]? = some v → Value.okWide Tryz.prog W .any base t v)
    (hW : DataW.Whole enc Tryz.prog Tryz.f6.params.toList Rows.valuePrintsSpec.vars false W args.toList ds gs before) (hL : laidMetH Tryz.prog laidL W) (hk : Rows.uptoBulkAll (ds ++ gs) ≤ 1048576) :
    Calls Tryz.prog 6 args W fun e W' => ∃ v, e = .returned v ∧ Rows.valuePrintsSpec.post enc Tryz.prog Tryz.f6 false true false false W args v W' := by
  have hW' := hW
  obtain ⟨p, q, hA0, hV, rfl, hfz, hnd⟩ := hW
  have hA : DataW.TrodAll enc Tryz.prog W 0 (fun _ => true) true Tryz.f6.params.toList args.toList ds p := hA0
  rw [Tryz.params6] at hA hval
  obtain ⟨v0, vs0, d0, ds0, p0, q0, hargs, rfl, rfl, h0, r0⟩ := trodAll_cons hA
  obtain ⟨rfl, rfl, rfl⟩ := trodAll_nil r0
  obtain rfl : args = #[v0] := by cases args; simp_all
  obtain ⟨rfl, rfl⟩ := trodVars_none hV
  simp only [List.append_nil, Rows.uptoBulkAll] at hk
  obtain ⟨cs0, rfl, _⟩ := okWide_struct Tryz.underlying25 (hval 0 25 v0 rfl rfl)
  have k0 := h0
  have lt0 : ∀ x ∈ p0, x.block < W.heap.size := by obtain ⟨m, hm⟩ := k0; exact DataW.trod_lt m _ _ _ hm
  obtain ⟨fuel0, hf0⟩ := h0
  obtain ⟨x0, sl0, ecs0, hI0, hs0, hok0⟩ := open_val fuel0 (cs := cs0.toList) hf0 (by omega)
  obtain rfl : cs0 = vcells x0 sl0 := by cases cs0; simpa using ecs0
  clear hA0
  simp only [List.append_nil] at hW'
  refine (valuePrints_walk x0 W _ sl0 (tabs_of_laid hL) hok0 (by omega) hI0).mono fun e W' ⟨he, bel⟩ => ?_
  subst he
  exact ⟨_, rfl, _, _, _, [], _, [], hW', trodAll_mk1 (shut_bool Tryz.underlying4 _), trodAll_cons_mk (Below.trod laidOut (by kernel_rfl) (of_decide_eq_true (by kernel_rfl)) k0 bel lt0) trodAll_mk0, rfl, bel.frame _, fun h => by cases h⟩

theorem laid_met (os : Os) : laidMet Tryz.prog Rows.valuePrintsUptoRow.laid ((laidWorld os).forCall (fun _ _ => 0) ⟨#[], #[.agg #[.int .i64 0, .int .i64 0, .int .i64 0, .string ⟨#[]⟩, .slice none 0 0]], []⟩).memory :=
  laidMet_of_run' 8 (by kernel_rfl) (by kernel_rfl)
theorem reads (os : Os) {H : Type} (enc : TypeId × Value → H) : ∃ places, DataW.whole enc Tryz.prog ((laidWorld os).forCall (fun _ _ => 0) ⟨#[], #[.agg #[.int .i64 0, .int .i64 0, .int .i64 0, .string ⟨#[]⟩, .slice none 0 0]], []⟩).memory Tryz.f6.params.toList Rows.valuePrintsSpec.vars false #[Value.agg #[.int .i64 0, .int .i64 0, .int .i64 0, .string ⟨#[]⟩, .slice none 0 0]].toList 8 = some ([.agg [.lit (.int .i64 0), .lit (.int .i64 0), .lit (.int .i64 0), .lit (.string []), .nil]], [], places) :=
  ⟨[], by kernel_rfl⟩

set_option maxRecDepth 100000 in
theorem liftedUpto (os : Os) (started : os.Started) (H : Type) (enc : TypeId × Value → H) (F : Stop.Interp) :
    ReturnsInHanded {} Tryz.checked os 6 .any ((Rows.OpenSpec.upto Rows.valuePrintsSpec).preRow enc Tryz.prog Tryz.f6 Rows.valuePrintsUptoRow.domain false Rows.valuePrintsUptoRow.laid) (((Rows.OpenSpec.upto Rows.valuePrintsSpec).at F).post enc Tryz.prog Tryz.f6 false true false false) := by
  obtain ⟨places, hx⟩ := reads os enc
  refine returnsInHanded_of_row (C := Tryz.checked) (s := Rows.OpenSpec.upto Rows.valuePrintsSpec) own started (by kernel_rfl) Tryz.func6
    (witness_row_at (enc := enc) (C := Tryz.checked) false (laidWorld os) #[.agg #[.int .i64 0, .int .i64 0, .int .i64 0, .string ⟨#[]⟩, .slice none 0 0]] rfl (by kernel_rfl) (by kernel_rfl) (by kernel_rfl)
      (OpenSpec.preRow_of_cond 8 hx (by kernel_rfl) (fun k hk => by cases hk; kernel_rfl) (by kernel_rfl) (laid_met os))) ?_
  intro W base args ds gs before hval hW _ hcond _ hL _ _
  exact contract H enc W base args ds gs before hval hW hL (of_decide_eq_true (hcond _ rfl))

theorem saidUpto : Rows.ValuePrintsUptoSaid :=
  OpenClaim.holds_of_cond 6 Tryz.f6 rfl rfl rfl rfl rfl rfl rfl ⟨rfl, rfl, rfl, rfl, rfl⟩ rfl rfl rfl rfl rfl (by kernel_rfl) Tryz.func6 (by kernel_rfl)
    (of_decide_eq_true (by kernel_rfl)) (by unfold Func.isWrapper; first | (rw [if_pos (by decide +kernel)]; kernel_rfl) | (rw [if_neg (by decide +kernel)]; exact ⟨rfl, rfl⟩))
    (fun os started H enc _ F => by rw [OpenClaim.pre_eq_preRow]; exact liftedUpto os started H enc F)

theorem plain (f : FuncId) (fn : Func) (hf : Tryz.pinned.checked.prog.funcNamed Rows.valuePrintsRow.func = some f) (hfn : Tryz.pinned.checked.prog.funcs[f]? = some fn) :
    true = Tryz.pinned.checked.prog.looks [] ∧ ∀ (j : Nat) t, fn.params[j]? = some t → Tryz.pinned.checked.prog.wantsStandIn t = false := by
  obtain rfl : f = 6 := Option.some.inj ((show Tryz.prog.funcNamed Rows.valuePrintsRow.func = some 6 by kernel_rfl).symm.trans hf) |>.symm
  obtain rfl : fn = Tryz.f6 := (Option.some.inj (Tryz.func6.symm.trans hfn)).symm
  refine ⟨by kernel_rfl, fun j t ht => ?_⟩
  rw [Tryz.params6] at ht
  obtain rfl : t = 25 := by simpa using Array.mem_of_getElem? ht
  exact (show Tryz.prog.wantsStandIn 25 = false by kernel_rfl)

theorem cardUpto : Rows.ValuePrintsUptoCardSaid :=
  Claim7.holds_tied_plain_at .later [] _ _ _ _ saidUpto (fun _ h => by cases h) (by kernel_rfl) (fun _ h => by cases h) valuePrintsUpto_row_tie rfl ⟨rfl, rfl⟩ (by kernel_rfl) rfl plain (by kernel_rfl)
end Go.Proofs.YtmgmndhibcgpdaaGreatDoor.valuePrints
namespace Go.Proofs.YtmgmndhibcgpdaaGreatDoor
theorem valuePrints_upto : Rows.ValuePrintsUptoCardSaid := valuePrints.cardUpto
#print axioms valuePrints_upto
end Go.Proofs.YtmgmndhibcgpdaaGreatDoor
