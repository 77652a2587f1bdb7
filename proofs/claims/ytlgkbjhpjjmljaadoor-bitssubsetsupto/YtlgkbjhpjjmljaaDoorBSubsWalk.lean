/- BitsSubsets: Subsets goes through what the document's Subsets lists, keeps no item of its caller's, and goes through it anew. -/
import Derived.Test.YtlgkbjhpjjmljaaDoorBRefSubs2
import Derived.Test.YtlgkbjhpjjmljaaDoorBHeads
namespace Go.Proofs.YtlgkbjhpjjmljaaDoor
open Go.RowKit
attribute [local go_sem] Oper.semAt_some

theorem results_bool_cell {P : Program} {fn : Func} {p : Tmp} {ty : TypeId} (h : fn.results = #[.cell p ty]) (tmps : Array Value) (w : World) (a : Addr) (v : Value)
    (hp : tmps.getD p undef = .pointer (some a)) (hu : P.underlying ty = some .bool) (hc : w.cell? a = some v) : (results fn tmps).run P w = .ok v w := by
  have hp' : tmps[p]?.getD undef = .pointer (some a) := by simpa using hp
  have hl : (loadVar ty a).run P w = .ok v w := by simp [go_sem, isAgg, run_underlying hu, hc]
  simp [results, h, hp', asAddr, hl]
theorem pow_fact : ∀ n, n < 11 → (((2 ^ n - 1 : Nat) : Int) == wrap64 (wrap64 ((2 : Int) ^ n) - 1)) = true := by decide +kernel
theorem subs_count : ∀ n, n < 11 → (placesFrom n 1 n).length = 2 ^ n - 1 := by decide +kernel
theorem subs_len (its : List Int) (h : its.length ≤ 10) : (subs its).length = 2 ^ its.length - 1 := by
  unfold subs
  rw [if_pos h, List.length_map]
  exact subs_count _ (by omega)
theorem subs_big (its : List Int) (h : ¬ its.length ≤ 10) : subs its = [] := if_neg h
theorem subs_few (its : List Int) : (subs its).length ≤ 1024 := by
  by_cases h : its.length ≤ 10
  · rw [subs_len its h]
    have : 2 ^ its.length ≤ 2 ^ 10 := Nat.pow_le_pow_right (by decide) h
    omega
  · rw [subs_big its h]
    simp
theorem subs_short (its : List Int) : ∀ r ∈ subs its, r.length ≤ 10 := by
  intro r hr
  by_cases h : its.length ≤ 10
  · rw [← sbTo_all its h] at hr
    unfold sbTo at hr
    obtain ⟨i, hi, hr⟩ := List.mem_flatMap.1 hr
    have := List.mem_range.1 hi
    rw [rws_len its h (1 + i) 0 (by omega) (by omega) r hr]
    omega
  · rw [subs_big its h] at hr
    cases hr

/-- An append in a fence, by its run. -/
theorem append_run_in {F : Fence} {n : Nat} {P : Program} (w : World) {ops : Array Oper} {rest : List Oper} {o : Oper} {a : Act} {Q : Exit → Act → World → Prop}
    (hg : o.guard = none) (s x : Operand) (t : TypeId) (hop : o.op = Op.call { callee := Callee.builtin Builtin.append, args := #[s, x], argTypes := #[t, t] }) (vs vx : Value) (hs : a.eval s = vs) (hx : a.eval x = vx)
    (v' : Value) (w' : World) (hrun : (Builtin.append_ #[t, t] o.type #[vs, vx]).run P w = .ok v' w') (hK : wpListIn F n P ops Q rest (a.put o.dst v') w') : wpListIn F n P ops Q (o :: rest) a w := by
  refine wpListIn_plain hg fun K hK' => ?_
  unfold Oper.wpIn
  refine ⟨by simp [Oper.about, hop, resolve, Target.leads, Sem.run_pure], ?_⟩
  rw [Oper.semAt_plain F _ _ (by rw [hop]; intro c hc'; cases hc')]
  simp [execOp, hop, resolve, invoke, builtin, hs, hx, hrun, Result.andThen]
  exact hK' _ _ hK

/-- The items are copied. -/
theorem copyI {w : World} {B : Nat} {v : Value} {l : List Int} (hv : IntsAt w B v l) (hB : B ≤ w.heap.size) (hl : l.length ≤ 1048576) (ty : TypeId) :
    ∃ g cap w', (Builtin.append_ #[48, 48] ty #[.slice (some ⟨w.heap.size, 0, none⟩) 0 0, v]).run Tryd.prog (w.alloc (.cells #[] 3)) = .ok (.slice (some ⟨g, 0, none⟩) l.length cap) w' ∧
      w'.ownsRow w.heap.size 3 1 (.slice (some ⟨g, 0, none⟩) l.length cap) l.length (ints l) ∧ w.heap.size ≤ g ∧ Below w.heap.size w w' := by
  obtain ⟨i0, hi, hz0, hz1, hz2⟩ := info_parts infoInt
  have hown := World.ownsRow_made (base := w.heap.size) (e := 3) (size := 1) w #[] 0 (Nat.le_refl _) (by unfold maxLen; omega) rfl
  obtain ⟨a, c, rfl, hc⟩ := hv
  cases a with
  | none =>
    cases l with
    | nil =>
      refine ⟨w.heap.size, 0, w.alloc (.cells #[] 3), ?_, hown, Nat.le_refl _, (Below.refl _ _).alloc (Nat.le_refl _) _⟩
      simp [Builtin.append_, run_underlying Tryd.underlying48, sizeOf, typeInfo, hi, Builtin.lenOf, Builtin.firstCells, storeCells]
    | cons x l =>
      obtain ⟨b, off, e, _⟩ := hc 0 (by simp)
      cases e
  | some a =>
    obtain ⟨v', w1, hrun, A1, A2, A3⟩ := run_append_own (P := Tryd.prog) (w.alloc (.cells #[] 3)) w.heap.size 48 ty 3 i0 (.int .i64 0) 1 8 Tryd.underlying48 hi hz0 hz1 hz2 rfl (by decide) _ 0 [] hown a l.length c (ints l) (by rw [ints_length]; omega) (fun j u hj => by
      have hjl : j < l.length := by
        have := (List.getElem?_eq_some_iff.1 hj).1
        rw [ints_length] at this
        exact this
      rw [ints_get l j hjl] at hj
      cases hj
      obtain ⟨b, off, e, hb, hcell⟩ := hc j hjl
      cases e
      rw [Addr.add_lit]
      exact (((Below.refl w.heap.size w).alloc (Nat.le_refl _) _).cell (Nat.lt_of_lt_of_le hb hB)).trans hcell) (ints_one l) (by unfold maxLen; omega) (by omega) (by simp)
    have hbel : Below w.heap.size w w1 := ((Below.refl _ _).alloc (Nat.le_refl _) _).grown A2 (by simp) (fun k hk => by simp [Value.ownBlock] at hk; omega)
    rw [List.nil_append, Nat.zero_add] at A1
    obtain ⟨g', cap', rfl, hg⟩ := row_is A1 (fun e => by simpa using A3.1 e)
    exact ⟨g', cap', w1, hrun, A1, hg, hbel⟩

/-- What the iterator needs, and what it goes through. -/
def Iter (W : World) (sb : Nat) (K : Blocks) (T : List (List Int)) : Prop := (∀ k, K k → k < W.heap.size) ∧
  ∀ W' : World, (∀ k, K k → W'.heap[k]? = W.heap[k]?) → ∀ n, SeqP n Tryd.prog 43 #[.pointer (some ⟨sb, 0, none⟩)] (rowV W'.heap.size) K T W'
theorem Iter.later {W W' : World} {sb : Nat} {K : Blocks} {T : List (List Int)} (h : Iter W sb K T) (hk : ∀ k, K k → W'.heap[k]? = W.heap[k]?) (hs : W.heap.size ≤ W'.heap.size) : Iter W' sb K T :=
  ⟨fun k hK => by have := h.1 k hK; omega, fun W2 h2 n => h.2 W2 (fun k hK => (h2 k hK).trans (hk k hK)) n⟩
theorem subsMake_any {w : World} {b g cap : Nat} {its : List Int} (hi : w.ownsRow b 3 1 (.slice (some ⟨g, 0, none⟩) its.length cap) its.length (ints its)) :
    Calls Tryd.prog 18 #[.slice (some ⟨g, 0, none⟩) its.length cap] w fun e w' => e = .returned (.func (.func 43) #[] #[.pointer (some ⟨w.heap.size, 0, none⟩)]) ∧
      ∃ K, (∀ k, K k → w.heap.size ≤ k) ∧ Iter w' w.heap.size K (subs its) ∧ Below w.heap.size w w' := by
  by_cases hN : its.length ≤ 10
  · refine (subsMake_k (row_from hi (Nat.zero_le _)) hN).mono ?_
    rintro e w' ⟨rfl, gi, ci, h1, h2, h3⟩
    have hg := h2.lt gi rfl
    refine ⟨rfl, two w.heap.size gi, fun k hk => by rcases hk with rfl | rfl <;> omega, ⟨fun k hk => ?_, fun W' hk n => ?_⟩, h3⟩
    · have := h1.lt
      rcases hk with rfl | rfl <;> omega
    · exact subs_seq n _ gi ci its W' ((hk _ (.inl rfl)).trans h1) (own_same h2 (Nat.zero_le _) (fun k e => by simp [Value.ownBlock] at e; subst e; exact hk _ (.inr rfl))) hN
  · refine (subsMake_big (by omega)).mono ?_
    rintro e w' ⟨rfl, rfl⟩
    rw [subs_big its hN]
    have h1 := Boxed.new w 48 (.slice none 0 0)
    refine ⟨rfl, two w.heap.size w.heap.size, fun k hk => by rcases hk with rfl | rfl <;> omega, ⟨fun k hk => ?_, fun W' hk n => ?_⟩, (Below.refl _ _).alloc (Nat.le_refl _) _⟩
    · have := h1.lt
      rcases hk with rfl | rfl <;> omega
    · exact subs_none n _ W' _ _ ((hk _ (.inl rfl)).trans h1)
theorem refSubs_any (v : Value) (its : List Int) (w : World) (hv : IntsAt w w.heap.size v its) (hm : its.length ≤ 1048576) :
    Calls Tryd.prog 19 #[v] w fun e w' => ∃ a c, e = .returned (.slice a (subs its).length c) ∧ Outs w.heap.size w' (.slice a (subs its).length c) (subs its) ∧ Below w.heap.size w w' := by
  by_cases hN : its.length ≤ 10
  · refine (refSubs_k v its hN w hv).mono ?_
    rintro e w' ⟨v', rfl, h1, h2⟩
    obtain ⟨vs, hr, hj⟩ := h1.row
    obtain ⟨a, c, rfl⟩ := row_any hr
    exact ⟨a, c, rfl, ⟨vs, hr, hj⟩, h2⟩
  · obtain ⟨a, c, rfl, _⟩ := hv
    refine (refSubs_big a its.length c (by omega) hm w).mono ?_
    rintro e w' ⟨rfl, rfl⟩
    rw [subs_big its hN]
    exact ⟨none, 0, rfl, Outs.none _ _, Below.refl _ _⟩

/-- A counter that a loop's rounds turn: all else that was there stays. -/
structure Cg (nb : Nat) (X : World) (pre : List (List Int)) (S : Blocks) (W : World) : Prop where
  box : Boxed W nb 3 (.int .i64 (pre.length : Int))
  gr : X.grownBy W (some nb)
  own : ∀ k, S k → X.heap.size ≤ k
theorem Cg.ownL {nb : Nat} {X : World} (hX : nb < X.heap.size) : OwnL X.heap.size (Cg nb X) := by
  refine ⟨?_, ?_⟩
  · rintro s S W W' row ⟨h1, h2, h3⟩ hg hr
    have hlow : ∀ r, row = some r → X.heap.size ≤ r := fun r e => by
      rcases hr r e with h | h
      · exact h.1
      · exact h3 r h
    exact ⟨h1.kept hg (fun e => by have := hlow nb e.symm; omega), ⟨hg.os.trans h2.os, hg.tape.trans h2.tape, hg.output.trans h2.output, Nat.le_trans h2.size hg.size, fun k hk hne => (hg.block k (by have := h2.size; omega) (fun e => by have := hlow k e.symm; omega)).trans (h2.block k hk hne)⟩, h3⟩
  · rintro s S S' W ⟨h1, h2, h3⟩ hc
    refine ⟨h1, h2, fun k hk => ?_⟩
    rcases hc k hk with h | h
    · exact h3 k h
    · have := h2.size; omega
theorem Cg.step {nb : Nat} {X : World} {pre : List (List Int)} {S K : Blocks} {W W' : World} (h : Cg nb X pre S W) (hX : nb < X.heap.size) (hK : ∀ k, K k → k < X.heap.size ∧ k ≠ nb) {gx : Nat} (hgx : X.heap.size ≤ gx) (hS : ¬ S gx) (hc : ∀ o, W.heap[gx]? = some o → o.isCells = true) (hg : W.grownBy W' (some gx)) (x : List Int) :
    KeptP X.heap.size K S W (W'.setCell ⟨nb, 0, none⟩ (.int .i64 ((pre ++ [x]).length : Int))) ∧ Cg nb X (pre ++ [x]) S (W'.setCell ⟨nb, 0, none⟩ (.int .i64 ((pre ++ [x]).length : Int))) := by
  have hb := h.box.kept hg (by simp; omega)
  refine ⟨(KeptP.grown hg (fun r e => by cases e; exact ⟨fun hk => by have := (hK _ hk).1; omega, hS, .inr hc⟩)).trans
    (KeptP.grown (row := some nb) ⟨rfl, rfl, rfl, by simp [World.setCell], fun k _ hne => Below.heap_setCell W' _ _ k (fun e => hne (by rw [e]))⟩ (fun r e => by cases e; exact ⟨fun hk => (hK _ hk).2 rfl, fun hs => by have := h.own _ hs; omega, .inl hX⟩)), hb.set _, ?_, h.own⟩
  refine ⟨hg.os.trans h.gr.os, hg.tape.trans h.gr.tape, hg.output.trans h.gr.output, by have := h.gr.size; have := hg.size; simp [World.setCell]; omega, fun k hk hne => ?_⟩
  exact ((Below.heap_setCell W' _ _ k (fun e => hne (by rw [e]))).trans (hg.block k (by have := h.gr.size; omega) (by simp; omega))).trans (h.gr.block k hk hne)
theorem cellsI_row {W : World} {b g cap : Nat} {l : List Int} (h : W.ownsRow b 3 1 (.slice (some ⟨g, 0, none⟩) l.length cap) l.length (ints l)) : CellsI W (some ⟨g, 0, none⟩) l := fun j hj =>
  ⟨g, 0, rfl, by rw [Nat.zero_add]; exact (h.cellAt j (by omega)).trans (ints_get l j hj)⟩
theorem outs_at {lo : Nat} {W : World} {wa : Option Addr} {wc : Nat} {T pre post : List (List Int)} {x : List Int} (h : Outs lo W (.slice wa T.length wc) T) (hT : T = pre ++ x :: post) :
    ∃ gw gj cj, wa = some ⟨gw, 0, none⟩ ∧ W.cell? ⟨gw, pre.length, none⟩ = some (.slice (some ⟨gj, 0, none⟩) x.length cj) ∧ CellsI W (some ⟨gj, 0, none⟩) x := by
  have hlt : pre.length < T.length := by rw [hT]; simp
  have hx : T[pre.length] = x := by subst hT; simp
  obtain ⟨vs, hr, hj⟩ := h.row
  obtain ⟨gj, cj, e1, e2⟩ := hj _ hlt
  rw [hx] at e1 e2
  obtain ⟨gw, cw, e3, _⟩ := hr.form (by omega)
  simp only [Value.slice.injEq] at e3
  obtain ⟨rfl, _, rfl⟩ := e3
  exact ⟨gw, gj, cj, rfl, (hr.cellAt _ (by omega)).trans e1, cellsI_row e2⟩
theorem row_grown {X Y : World} {base g n cap : Nat} {xs : List Value} {row : Option Nat} (h : X.ownsRow base 3 1 (.slice (some ⟨g, 0, none⟩) n cap) n xs) (hg : X.grownBy Y row) (hr : ∀ r, row = some r → ∃ o : Obj, X.heap[r]? = some o ∧ o.isCells = false) : Y.ownsRow base 3 1 (.slice (some ⟨g, 0, none⟩) n cap) n xs := by
  refine own_same h (Nat.le_refl _) (fun k hk => hg.block k (h.lt k hk).2 (fun e => ?_))
  simp only [Value.ownBlock, Option.some.injEq] at hk
  subst hk
  obtain ⟨o, h1, h2⟩ := hr _ e.symm
  obtain ⟨cur, hc⟩ := row_cur' h
  rw [hc] at h1
  cases h1
  simp [Obj.isCells] at h2
set_option maxRecDepth 100000 in
set_option maxHeartbeats 4000000 in
theorem bitsSubs_walk (v : Value) (i : Int) (its : List Int) (w : World) (ht : Tab w) (hv : IntsAt w w.heap.size v its) (hm : its.length ≤ 1048576) :
    Calls Tryd.prog 5 #[v, .int .i64 i] w fun e w' => e = .returned (.bool true) ∧ Below w.heap.size w w' := by
  have hn2 := subsNil
  have HV := hide hv
  obtain ⟨ad, c, rfl, _⟩ := hv
  refine (callsIn_wide (n := 9)).1 ?_
  refine callsIn_of_wp_marks Tryd.func5 rfl trivial ?_ rfl
  simp only [Tryd.ntmps5, List.size_toArray, List.length_cons, List.length_nil, Nat.reduceAdd, Nat.reduceSub, Array.replicate_succ, Array.replicate_zero, List.push_toArray, List.append_toArray, List.nil_append, List.cons_append]
  have b0 : Below w.heap.size w ((w.alloc (.cells #[.int .i64 i] 3)).alloc (.cells #[.bool false] 4)) := ((Below.refl _ w).alloc (Nat.le_refl _) _).alloc (by simp) _
  have ba : Boxed ((w.alloc (.cells #[.int .i64 i] 3)).alloc (.cells #[.bool false] 4)) w.heap.size 3 (.int .i64 i) := (Boxed.new w 3 (.int .i64 i)).alloc _
  have br : Boxed ((w.alloc (.cells #[.int .i64 i] 3)).alloc (.cells #[.bool false] 4)) (w.heap.size + 1) 4 (.bool false) := by
    have := Boxed.new (w.alloc (.cells #[.int .i64 i] 3)) 4 (.bool false)
    rw [World.size_alloc] at this
    exact this
  obtain ⟨g, cap, w1, hrun, A1, hg, B1⟩ := copyI (HV.out.below b0) b0.size hm 48
  rw [World.size_alloc, World.size_alloc] at hrun
  simp only [World.size_alloc, Nat.add_assoc, Nat.reduceAdd] at A1 hg B1
  have HR := hide hrun
  have HS := hide (subsMake_any A1)
  have hg1 := A1.lt g rfl
  have z1 := B1.size
  simp only [World.size_alloc] at z1
  have bw1 : Below w.heap.size w w1 := b0.trans (B1.mono (by omega))
  have ba1 := boxed_below ba B1 (by omega)
  have br1 := boxed_below br B1 (by omega)
  have A := hide A1
  clear hrun A1 B1 ba br b0
  gi_wp2_with (gi_at_builtin; refine append_run_in _ rfl (.tmp 13) (.tmp 14) 48 rfl _ _ rfl rfl _ _ HR.out ?_)
  clear HR
  gi_wp2_with ((first | refine ⟨trivial, ?_⟩ | skip); gi_at_call 18; refine (callsIn_wide.2 HS.out).mono ?_; clear HS; rintro e w2 ⟨rfl, K, hK, b1, b2⟩; have IT := hide b1; have B2 := hide b2; have KL := hide hK; clear b1 b2 hK)
  have z2 := B2.out.size
  have bw2 : Below w.heap.size w w2 := bw1.trans (B2.out.mono (by omega))
  have HH := hide (heads_k w2 (ht.below bw2 ht.lt))
  gi_wp2_with ((first | refine ⟨trivial, ?_⟩ | skip); gi_at_call 10; refine (callsIn_wide.2 HH.out).mono ?_; clear HH; rintro e w3 ⟨rfl, b3⟩; have B3 := hide b3; clear b3)
  clear hn2
  have z3 := B3.out.size
  have r3 := row_from (below_row (below_row A.out B2.out (Nat.le_refl _)) B3.out (Nat.le_refl _)) (Nat.le_refl _)
  have b3 : Below w.heap.size w w3 := bw2.trans (B3.out.mono (by omega))
  have it3 : Iter w3 w1.heap.size K (subs its) := IT.out.later (fun k hk => B3.out.block k (IT.out.1 k hk)) z3
  have ba3 := boxed_below (boxed_below ba1 B2.out (by omega)) B3.out (by omega)
  have br3 := boxed_below (boxed_below br1 B2.out (by omega)) B3.out (by omega)
  have kl : ∀ k, K k → k ≠ g := fun k hk e => by have := KL.out k hk; omega
  obtain ⟨sb, hsb⟩ : ∃ sb, w1.heap.size = sb := ⟨_, rfl⟩
  rw [hsb] at it3 ⊢
  clear A B2 B3 IT KL bw1 bw2 ba1 br1 hsb z1 z2 z3
  gi_loopw [7] (fun x wr => ∃ k : Nat, k ≤ its.length ∧ x = .int .i64 (k : Int) ∧ (∃ m : List Int, m.length = its.length ∧ wr.ownsRow (w.heap.size + 2) 3 1 (.slice (some ⟨g, 0, none⟩) its.length cap) its.length (ints m)) ∧ w3.grownBy wr (some g)) (fun x _ => its.length - (intOf x).toNat)
  case atStart => exact ⟨0, Nat.zero_le _, rfl, ⟨its, rfl, r3⟩, grown_refl _ _⟩
  case round =>
    obtain ⟨k, hk, rfl, ⟨m, hml, hr⟩, hgr⟩ := hrel
    clear r3
    by_cases hlt : k < its.length
    · have c1 := (hr.cellAt k (by omega)).trans (ints_get m k (by omega))
      have c2 := hr.frozenAt k
      have hst := fun x => hr.stored k (.int .i64 x)
      have HST := hide hst
      clear hst hr
      gi_wp2
      go_roundw
      case rel =>
        refine ⟨k + 1, by omega, by go_num, ?_, grown_trans hgr (HST.out _).2⟩
        have h1 := (HST.out (wrap64 (m[k] + 1))).1
        rw [ints_set] at h1
        exact ⟨_, by rw [List.length_set]; exact hml, h1⟩
      case measure => simp [intOf]; omega
    · have hz := hgr.size
      have bw := below_gr b3 hgr (by omega) (Nat.le_refl _)
      have itr : Iter wr sb K (subs its) := it3.later (fun k hk => hgr.block k (it3.1 k hk) (fun e => kl k hk (by simpa using e))) hgr.size
      have bar := ba3.kept hgr (by simp; omega)
      have brr := br3.kept hgr (by simp; omega)
      have HQ := hide (refSubs_any _ its wr (HV.out.below_up bw) hm)
      clear ba3 br3 it3 b3 hgr hr HV
      gi_wp2_with ((first | refine ⟨trivial, ?_⟩ | skip); gi_at_call 19; refine (callsIn_wide.2 HQ.out).mono ?_; clear HQ; rintro e w5 ⟨wa, wc, rfl, o5, b5⟩; have O5 := hide o5; have B5 := hide b5; clear o5 b5)
      have z5 := B5.out.size
      obtain ⟨T, hT⟩ : ∃ T, subs its = T := ⟨_, rfl⟩
      have hTl := subs_few its
      have hTs := subs_short its
      have HTn := hide (subs_len its)
      rw [hT] at itr O5 hTl hTs HTn ⊢
      clear hT
      obtain ⟨X, hX⟩ : ∃ X, (w5.alloc (.cells #[.slice wa T.length wc] 52)).alloc (.cells #[.int .i64 0] 3) = X := ⟨_, rfl⟩
      have zX : X.heap.size = w5.heap.size + 2 := by rw [← hX]; simp
      have b5X : Below w5.heap.size w5 X := by rw [← hX]; exact ((Below.refl _ w5).alloc (Nat.le_refl _) _).alloc (by simp) _
      have wB : Boxed X w5.heap.size 52 (.slice wa T.length wc) := by rw [← hX]; exact (Boxed.new w5 52 (.slice wa T.length wc)).alloc _
      have nB : Boxed X (w5.heap.size + 1) 3 (.int .i64 0) := by
        have := Boxed.new (w5.alloc (.cells #[.slice wa T.length wc] 52)) 3 (.int .i64 0)
        rw [World.size_alloc, hX] at this
        exact this
      rw [hX]
      clear hX
      have HOW := hide (fun (W : World) (h : ∀ k, k < w5.heap.size → W.heap[k]? = X.heap[k]?) => O5.out.same (lo' := wr.heap.size) (W' := W) (Nat.le_refl _) (fun k _ h2 => (h k h2).trans (b5X.block k h2)))
      have iX : Iter X sb K T := (itr.later (fun k hk => B5.out.block k (itr.1 k hk)) z5).later (fun k hk => b5X.block k (by have := itr.1 k hk; omega)) b5X.size
      have aX := boxed_below (boxed_below bar B5.out bar.lt) b5X (by have := bar.lt; omega)
      have rX := boxed_below (boxed_below brr B5.out brr.lt) b5X (by have := brr.lt; omega)
      have bX : Below w.heap.size w X := (bw.trans (B5.out.mono bw.size)).trans (b5X.mono (by have := bw.size; omega))
      have hKX : ∀ k, K k → k < X.heap.size ∧ k ≠ w5.heap.size + 1 := fun k hk => by have := itr.1 k hk; omega
      have hws := bw.size
      have hws2 : w.heap.size + 1 < wr.heap.size := brr.lt
      clear B5 O5 b5X bar brr bw itr
      generalize w5.heap.size = hb at *
      refine seqp_law (gf := 43) (lb := #[.pointer (some ⟨sb, 0, none⟩)]) rfl (enters_of Tryd.func43 (by kernel_rfl) rfl) (K := K) iX.1
        (iX.2 X (fun _ _ => rfl) _) (fun _ _ _ _ h => by obtain ⟨g, rfl, _⟩ := h; rfl)
        (Cg (hb + 1) X) (fun c pre S W => c = Code.exit 2 ∧ Cg (hb + 1) X pre S W ∧ (pre.length : Int) = i) (Cg.ownL (by omega)) (fun c => ⟨fun s S W W' row h hg hr => ⟨h.1, (Cg.ownL (by omega)).grown s S W W' row h.2.1 hg hr, h.2.2⟩, fun s S S' W h hc => ⟨h.1, (Cg.ownL (by omega)).claim s S S' W h.2.1 hc, h.2.2⟩⟩) ⟨nB, grown_refl _ _, fun _ h => h.elim⟩ ?round1 ?done1 ?stop1
      case round1 =>
        rintro l pre x S vs W hC hS ⟨post, hpost⟩ ⟨gx, rfl, hrow, hgx, hSx⟩ hsz
        have hxl := hTs x (by rw [hpost]; simp)
        have hpl : pre.length < T.length := by rw [hpost]; simp
        have hO := Cg.ownL (nb := hb + 1) (X := X) (by omega)
        gi_wp2
        refine ⟨KeptP.refl _ _ _ _, fun W => Cg (hb + 1) X pre S W ∧ W.ownsRow 0 3 1 (.slice (some ⟨gx, 0, none⟩) x.length x.length) x.length (ints x), fun X Y row h hg hr => ⟨hO.grown pre S X Y row h.1 hg (fun r e => .inl (hr r e)), row_grown h.2 hg (fun r e => (hr r e).2)⟩, ⟨hC, hrow⟩, ?_⟩
        clear hC hS hrow
        rintro W₂ ⟨hC, hrow⟩ hsz2
        have cn := hC.box.cell
        have cf := hC.box.frozen
        have cw := (wB.kept hC.gr (by simp)).cell
        have ca := (aX.kept hC.gr (by simp; omega)).cell
        obtain ⟨gw, gj, cj, rfl, cj1, cj2⟩ := outs_at (HOW.out W₂ (fun k h1 => hC.gr.block k (by omega) (by simp; omega))) hpost
        have HI := hide (ints_yes (cellsI_row hrow) cj2 (ca := x.length) (cb := cj) (by omega))
        have hge : ¬ ((T.length : Int) ≤ (pre.length : Int)) := by omega
        have p0 : (0 : Int) ≤ (pre.length : Int) := by omega
        have p1 : (pre.length : Int) < (T.length : Int) := by omega
        have hcells : ∀ o, W₂.heap[gx]? = some o → o.isCells = true := fun o ho => by
          obtain ⟨cur, hc⟩ := row_cur' hrow
          rw [hc] at ho
          cases ho
          rfl
        have HSTEP := hide (fun (W' : World) (hg : W₂.grownBy W' (some gx)) => hC.step (by omega) hKX (by omega) hSx hcells hg x)
        have HROW := hide hrow
        have HC := hide hC
        clear hcells hrow hC cj2 hpost
        gi_wp2_with ((first | refine ⟨trivial, ?_⟩ | skip); gi_at_call 20; refine (callsIn_wide.2 HI.out).mono ?_; clear HI; rintro e w7 ⟨rfl, nd, rfl⟩)
        clear cn cf cw ca cj1 hge p0 p1
        gi_loopw [11] (fun y wr => ∃ k : Nat, k ≤ x.length ∧ y = .int .i64 (k : Int) ∧ (∃ m : List Int, m.length = x.length ∧ wr.ownsRow 0 3 1 (.slice (some ⟨gx, 0, none⟩) x.length x.length) x.length (ints m)) ∧ W₂.grownBy wr (some gx)) (fun y _ => x.length - (intOf y).toNat)
        case atStart => exact ⟨0, Nat.zero_le _, rfl, ⟨x, rfl, own_same HROW.out (Nat.le_refl _) (fun _ _ => rfl)⟩, ⟨rfl, rfl, rfl, Nat.le_refl _, fun _ _ _ => rfl⟩⟩
        case round =>
          obtain ⟨k, hk, rfl, ⟨m, hml, hr⟩, hgr⟩ := hrel
          by_cases hlt : k < x.length
          · have c2 := hr.frozenAt k
            have c1 := (hr.cellAt k (by omega)).trans (ints_get m k (by omega))
            have hst := hr.stored k (.int .i64 (-7))
            rw [ints_set] at hst
            have HST := hide hst
            clear hst hr
            gi_wp2
            go_roundw
            case rel => exact ⟨k + 1, by omega, by go_num, ⟨_, by rw [List.length_set]; exact hml, HST.out.1⟩, grown_trans hgr HST.out.2⟩
            case measure => simp [intOf]; omega
          · have bn := HC.out.box.kept hgr (by simp; omega)
            have cn := bn.cell
            have cf := bn.frozen
            have ba2 := (aX.kept HC.out.gr (by simp; omega)).kept hgr (by simp; omega)
            have ca := ba2.cell
            have hlen : ((pre ++ [x]).length : Int) = (pre.length : Int) + 1 := by simp
            have hst := HSTEP.out wr hgr
            rw [hlen] at hst
            have HST := hide hst
            have bn2 := (bn.set (.int .i64 ((pre.length : Int) + 1))).cell
            have ca2 := (World.cell?_setCell_other wr ⟨hb + 1, 0, none⟩ ⟨w.heap.size, 0, none⟩ (.int .i64 ((pre.length : Int) + 1)) (by simp <;> omega)).trans ca
            clear hst hr HROW HC HSTEP
            by_cases hi : (pre.length : Int) + 1 = i
            · subst hi
              gi_wp2
              exact ⟨HST.out.1, rfl, HST.out.2, hlen⟩
            · gi_wp2
              exact HST.out
      case' done1 =>
        rintro S W hC hD
        have hq : T.length = T.length ∨ (T.length : Int) = i := .inl rfl
        have hqT := hTl
        obtain ⟨q, hqq⟩ : ∃ q, T.length = q := ⟨_, rfl⟩
        have hCb := hC.box
        have hCg := hC.gr
        have hq' : q = T.length ∨ (q : Int) = i := .inl hqq.symm
        have hql : q ≤ 1024 := by omega
        rw [hqq] at hCb
        clear hC hq hqT hqq
      case' stop1 =>
        rintro c' S pre x W ⟨post, hpost⟩ ⟨rfl, hC, hi⟩ hD
        obtain ⟨q, hqq⟩ : ∃ q, (pre ++ [x]).length = q := ⟨_, rfl⟩
        have hCb := hC.box
        have hCg := hC.gr
        rw [hqq] at hi hCb
        have hq' : q = T.length ∨ (q : Int) = i := .inr hi
        have hql : q ≤ 1024 := by rw [hpost] at hTl; simp at hTl hqq; omega
        clear hC hi hqq hpost
      all_goals
        rw [zX] at hD ⊢
        have cn := hCb.cell
        have cf := hCb.frozen
        have wBW := wB.kept hCg (by simp)
        have cw := wBW.cell
        have aBW := aX.kept hCg (by simp; omega)
        have ca := aBW.cell
        by_cases hqT : (q : Int) = (T.length : Int)
        case' neg => have hqi : (q : Int) = i := by rcases hq' with h | h <;> omega
        all_goals
          gi_wp2
          clear cn cf cw ca hq'
          obtain ⟨Y, hY⟩ : ∃ Y, W.setCell ⟨hb + 1, 0, none⟩ (.int .i64 0) = Y := ⟨_, rfl⟩
          have gY : X.grownBy Y (some (hb + 1)) := by
            rw [← hY]
            exact ⟨hCg.os, hCg.tape, hCg.output, by simpa [World.setCell] using hCg.size, fun k hk hne => (Below.heap_setCell W _ _ k (fun e => hne (by rw [e]))).trans (hCg.block k hk hne)⟩
          have nY : Boxed Y (hb + 1) 3 (.int .i64 0) := by rw [← hY]; exact hCb.set _
          have dY : Y.heap[hb + 2]? = some (.deferred (some [])) := by rw [← hY]; exact (Below.heap_setCell W _ _ _ (by simp)).trans hD
          rw [hY]
          have zY := gY.size
          have lY := (Array.getElem?_eq_some_iff.1 dY).1
          have wY := wB.kept gY (by simp)
          have rY := rX.kept gY (by simp; omega)
          have bY : Below w.heap.size w Y := below_gr bX gY (by omega) (Nat.le_refl _)
          have iY : Iter Y sb K T := iX.later (fun k hk => gY.block k (iX.1 k hk) (by simp; exact (hKX k hk).2)) zY
          have hKY : ∀ k, K k → k < Y.heap.size ∧ k ≠ hb + 1 := fun k hk => by have := hKX k hk; omega
          have HOY := hide (fun (W : World) (h : ∀ k, k < hb → W.heap[k]? = Y.heap[k]?) => HOW.out W (fun k hk => (h k hk).trans (gY.block k (by omega) (by simp; omega))))
          clear hY hCb hCg hD wBW aBW HOW iX wB aX rX bX gY hKX
          refine seqp_law (gf := 43) (lb := #[.pointer (some ⟨sb, 0, none⟩)]) rfl (enters_of Tryd.func43 (by kernel_rfl) rfl) (K := K) iY.1
            (iY.2 Y (fun _ _ => rfl) _) (fun _ _ _ _ h => by obtain ⟨g, rfl, _⟩ := h; rfl)
            (Cg (hb + 1) Y) (fun _ _ _ _ => False) (Cg.ownL (by omega)) (fun _ => ownL_false _) ⟨nY, grown_refl _ _, fun _ h => h.elim⟩ ?round2 ?done2 ?stop2
          case stop2 =>
            rintro c S pre x W _ h _
            exact h.elim
          case round2 =>
            rintro l pre x S vs W hC hS ⟨post, hpost⟩ ⟨gx, rfl, hrow, hgx, hSx⟩ hsz
            have hxl := hTs x (by rw [hpost]; simp)
            have hpl : pre.length < T.length := by rw [hpost]; simp
            have hO := Cg.ownL (nb := hb + 1) (X := Y) (by omega)
            gi_wp2
            refine ⟨KeptP.refl _ _ _ _, fun W => Cg (hb + 1) Y pre S W ∧ W.ownsRow 0 3 1 (.slice (some ⟨gx, 0, none⟩) x.length x.length) x.length (ints x), fun X Y row h hg hr => ⟨hO.grown pre S X Y row h.1 hg (fun r e => .inl (hr r e)), row_grown h.2 hg (fun r e => (hr r e).2)⟩, ⟨hC, hrow⟩, ?_⟩
            clear hC hS hrow
            rintro W₂ ⟨hC, hrow⟩ hsz2
            have cn := hC.box.cell
            have cf := hC.box.frozen
            have cw := (wY.kept hC.gr (by simp)).cell
            obtain ⟨gw, gj, cj, rfl, cj1, cj2⟩ := outs_at (HOY.out W₂ (fun k h1 => hC.gr.block k (by omega) (by simp; omega))) hpost
            have HI := hide (ints_yes (cellsI_row hrow) cj2 (ca := x.length) (cb := cj) (by omega))
            have hge : ¬ ((T.length : Int) ≤ (pre.length : Int)) := by omega
            have p0 : (0 : Int) ≤ (pre.length : Int) := by omega
            have p1 : (pre.length : Int) < (T.length : Int) := by omega
            have hcells : ∀ o, W₂.heap[gx]? = some o → o.isCells = true := fun o ho => by
              obtain ⟨cur, hc⟩ := row_cur' hrow
              rw [hc] at ho
              cases ho
              rfl
            have HSTEP := hide (fun (W' : World) (hg : W₂.grownBy W' (some gx)) => hC.step (by omega) hKY (by omega) hSx hcells hg x)
            have hlen : ((pre ++ [x]).length : Int) = (pre.length : Int) + 1 := by simp
            rw [hlen] at HSTEP
            clear hcells hrow hC cj2 hpost
            gi_wp2_with ((first | refine ⟨trivial, ?_⟩ | skip); gi_at_call 20; refine (callsIn_wide.2 HI.out).mono ?_; clear HI; rintro e w7 ⟨rfl, nd, rfl⟩)
            exact HSTEP.out (W₂.drewN nd) ⟨rfl, rfl, rfl, Nat.le_refl _, fun _ _ _ => rfl⟩
          case done2 =>
            rintro S W2 hC hD2
            have cn := hC.box.cell
            have cw := (wY.kept hC.gr (by simp)).cell
            have rW := rY.kept hC.gr (by simp; omega)
            have cr := rW.cell
            have cf := rW.frozen
            have dW := (hC.gr.block (hb + 2) lY (by simp)).trans dY
            have bW := below_gr bY hC.gr (by omega) (Nat.le_refl _)
            have zW := hC.gr.size
            have p0 := (Below.heap_setCell W2 ⟨w.heap.size + 1, 0, none⟩ (.bool true) Y.heap.size (by simp; omega)).trans hD2
            have p1 := (World.putObj_heap_other (w := W2.setCell ⟨w.heap.size + 1, 0, none⟩ (.bool true)) (o := .deferred none) (show hb + 2 ≠ Y.heap.size by omega)).trans ((Below.heap_setCell W2 ⟨w.heap.size + 1, 0, none⟩ (.bool true) (hb + 2) (by simp; omega)).trans dW)
            have p2 := rW.set (.bool true)
            have bS : Below w.heap.size w (W2.setCell ⟨w.heap.size + 1, 0, none⟩ (.bool true)) := bW.setCell (by simp) _
            by_cases hN : its.length ≤ 10
            case' pos => have hN1 : ¬ (10 : Int) < (its.length : Int) := by omega
            case' neg => have hN1 : (10 : Int) < (its.length : Int) := by omega
            case' pos => have hval : ((T.length : Int) == wrap64 (wrap64 ((2 : Int) ^ its.length) - 1)) = true := by rw [HTn.out hN]; exact pow_fact _ (by omega)
            all_goals
              clear hC
              gi_wp2
              (try rw [hval])
              refine ⟨by simp, .inl ⟨_, _, rfl, run_takeDeferred p0, ⟨by simp, .inl ⟨_, _, rfl, run_takeDeferred p1, ?_⟩⟩⟩⟩
              have p3 : Boxed (((W2.setCell ⟨w.heap.size + 1, 0, none⟩ (.bool true)).putObj Y.heap.size (.deferred none)).putObj (hb + 2) (.deferred none)) (w.heap.size + 1) 4 (.bool true) := (World.putObj_heap_other (by omega)).trans ((World.putObj_heap_other (by omega)).trans p2)
              exact ⟨_, results_bool_cell rfl _ _ ⟨w.heap.size + 1, 0, none⟩ (.bool true) rfl Tryd.underlying4 p3.cell, rfl, (bS.trans (belowK_b (w := w) (Nat.le_refl _) _ _ _ _ (by omega) p0 rfl rfl)).trans (belowK_b (w := w) (Nat.le_refl _) _ _ _ _ (by omega) p1 rfl rfl)⟩
end Go.Proofs.YtlgkbjhpjjmljaaDoor
