/- The document's Subsets. -/
import Derived.Test.YtlgkbjhpjjmljaaDoorBRefSubs
import Derived.Lib.AppendZeros
namespace Go.Proofs.YtlgkbjhpjjmljaaDoor
open Go.RowKit

theorem combos_some : ∀ n, n < 11 → ∀ k, k < 11 → k ≤ n → 0 < (combos n k 0).length := by decide +kernel
theorem placesFrom_flat (n : Nat) : ∀ f size, placesFrom n size f = (List.range f).flatMap fun i => combos n (size + i) 0 := by
  intro f
  induction f with
  | zero => intro size; rfl
  | succ f ih =>
    intro size
    rw [placesFrom, ih, List.range_succ_eq_map, List.flatMap_cons, List.flatMap_map]
    congr 1
    congr 1
    funext i
    congr 1
    omega
def sbTo (its : List Int) (s : Nat) : List (List Int) := (List.range s).flatMap fun i => rws its (1 + i) 0
theorem sbTo_step (its : List Int) (s : Nat) : sbTo its (s + 1) = sbTo its s ++ rws its (1 + s) 0 := by
  simp [sbTo, List.range_succ]
theorem sbTo_all (its : List Int) (h : its.length ≤ 10) : sbTo its its.length = subs its := by
  unfold subs sbTo
  rw [if_pos h, placesFrom_flat, List.map_flatMap]
  rfl
theorem sbTo_small (its : List Int) (h : its.length ≤ 10) : ∀ s, s ≤ 10 → (sbTo its s).length ≤ 1024 * s := by
  intro s
  induction s with
  | zero => intro _; simp [sbTo]
  | succ s ih =>
    intro hs
    rw [sbTo_step, List.length_append]
    have := ih (by omega)
    have := rws_small its h (1 + s) 0 (by omega) (by omega)
    omega
/-- Rows are set behind the others. -/
theorem outs_app {lo : Nat} {W w1 : World} {o rv : Value} {ls rl : List (List Int)} (h : Outs lo W o ls) (hb : Below W.heap.size W w1) (hr : Outs W.heap.size w1 rv rl) (hlo : lo ≤ W.heap.size) (hn : ls.length ≤ 1048576) (hm : rl.length ≤ 1048576) (h0 : 0 < rl.length) (ty : TypeId) :
    ∃ v' w', (Builtin.append_ #[52, 52] ty #[o, rv]).run Tryd.prog w1 = .ok v' w' ∧ Outs lo w' v' (ls ++ rl) ∧ W.grownBy w' o.ownBlock := by
  obtain ⟨i0, hi, hz0, hz1, hz2⟩ := info_parts infoRow
  obtain ⟨vs, hv, hj⟩ := h.row
  obtain ⟨us, hu, hju⟩ := hr.row
  have hs := hb.size
  have hv1 : w1.ownsRow lo 48 1 o ls.length vs := own_same hv (Nat.le_refl _) (fun k hk => hb.block k (hv.lt k hk).2)
  obtain ⟨gr, cr, rfl, _, _⟩ := hu.form h0
  have hul : us.length = rl.length := by have := hu.1; omega
  have hone : ∀ u ∈ us, u.oneCell' = true := by
    intro u hu'
    obtain ⟨j, hjl, rfl⟩ := List.mem_iff_getElem.1 hu'
    obtain ⟨g, cap, e, _⟩ := hju j (by omega)
    rw [List.getElem?_eq_getElem hjl] at e
    rw [Option.some.inj e]
    rfl
  obtain ⟨g, cap, w2, hrun, A1, A2, A3, A4⟩ := run_append_lies (P := Tryd.prog) w1 52 ty lo 48 i0 (.slice none 0 0) 1 24 Tryd.underlying52 hi hz0 hz1 hz2 rfl (by decide) o ls.length vs hv1 ⟨gr, 0, none⟩ rl.length cr us (by omega) (row_cells hu) hone h0 (by unfold maxLen; omega) (by omega) (by omega) _ rfl
  have hgr : W.grownBy w2 o.ownBlock := ⟨A2.os.trans hb.os, A2.tape.trans hb.tape, A2.output.trans hb.output, by have := A2.size; omega, fun k hk hne => (A2.block k (by omega) hne).trans (hb.block k hk)⟩
  have hvl : vs.length = ls.length := by have := hv.1; omega
  refine ⟨_, w2, hrun, ⟨⟨vs ++ us, by rw [List.length_append]; exact A1, fun j hlt => ?_⟩⟩, hgr⟩
  by_cases hjl : j < ls.length
  · obtain ⟨gj, cj, e1, e2⟩ := hj j hjl
    have e3 : (ls ++ rl)[j] = ls[j] := List.getElem_append_left hjl
    rw [e3]
    refine ⟨gj, cj, by rw [List.getElem?_append_left (by omega)]; exact e1, own_same e2 (Nat.le_refl _) (fun k hk => ?_)⟩
    simp only [Value.ownBlock, Option.some.injEq] at hk
    subst hk
    refine hgr.block _ (e2.lt _ rfl).2 ?_
    obtain ⟨cur, hcur⟩ := row_cur' e2
    rcases hv.2 with ⟨rfl, _⟩ | ⟨go, co, cur2, rfl, _, hh, _⟩
    · simp [Value.ownBlock]
    · intro e
      simp only [Value.ownBlock, Option.some.injEq] at e
      subst e
      rw [hcur] at hh
      simp at hh
  · have hlt2 : j - ls.length < rl.length := by simp at hlt; omega
    obtain ⟨gj, cj, e1, e2⟩ := hju (j - ls.length) hlt2
    have e3 : (ls ++ rl)[j] = rl[j - ls.length] := List.getElem_append_right (by omega)
    rw [e3]
    refine ⟨gj, cj, by rw [List.getElem?_append_right (by omega), hvl]; exact e1, own_same e2 hlo (fun k hk => ?_)⟩
    have h3 := e2.lt k hk
    exact A2.block k h3.2 (fun e => by have := (hv.lt k e.symm).2; omega)

theorem refSubs_big (a : Option Addr) (m c : Nat) (hm : 10 < m) (hm2 : m ≤ 1048576) (w : World) :
    Calls Tryd.prog 19 #[.slice a m c] w fun e w' => e = .returned (.slice none 0 0) ∧ w = w' := by
  have h1 : (10 : Int) < (m : Int) := by omega
  go_enter Tryd.func19, Tryd.ntmps19
  go_wp2
  go_ret
  exact ⟨rfl, rfl⟩
set_option maxRecDepth 100000 in
set_option maxHeartbeats 1000000 in
theorem refSubs_k (v : Value) (its : List Int) (hN : its.length ≤ 10) (w : World) (hv : IntsAt w w.heap.size v its) :
    Calls Tryd.prog 19 #[v] w fun e w' => ∃ v', e = .returned v' ∧ Outs w.heap.size w' v' (subs its) ∧ Below w.heap.size w w' := by
  have HV := hide hv
  obtain ⟨ad, c, rfl, _⟩ := hv
  have h1 : ¬ (10 : Int) < (its.length : Int) := by omega
  go_enter Tryd.func19, Tryd.ntmps19
  go_wp2
  go_loopw [3, 4] (fun o i wr => ∃ s : Nat, s ≤ its.length ∧ i = .int .i64 ((1 + s : Nat) : Int) ∧ Outs w.heap.size wr o (sbTo its s) ∧ Below w.heap.size w wr) (fun _ i _ => 100 - (intOf i).toNat)
  case atStart => exact ⟨0, Nat.zero_le _, by simp, Outs.none _ _, Below.refl _ _⟩
  case round =>
    obtain ⟨s, hs, rfl, hO, hb⟩ := hrel
    by_cases hlt : s < its.length
    · have HR := hide (rows_all _ its hN (1 + s) (by omega) 0 (by omega) wr (HV.out.below_up hb))
      have hss := sbTo_small its hN s (by omega)
      have hrs := rws_small its hN (1 + s) 0 (by omega) (by omega)
      have hr0 : 0 < (rws its (1 + s) 0).length := by
        unfold rws
        rw [List.length_map]
        exact combos_some _ (by omega) _ (by omega) (by omega)
      have hws := hb.size
      have c1 : ((1 + s : Nat) : Int) ≤ (its.length : Int) := by omega
      have HN := hide (sbTo_step its s)
      have HO := hide hO
      have HB := hide hb
      clear hO hb HV
      generalize hp : 1 + s = p at *
      go_wp2_with (first
        | (go_at_call 47; refine HR.out.mono ?_; clear HR; rintro e w2 ⟨rv, rfl, A1, A2⟩; obtain ⟨v', w3, hrun, o3, g3⟩ := outs_app HO.out A2 A1 hws (by omega) (by omega) hr0 52; have RUN := hide hrun; have O3 := hide o3; have G3 := hide g3; clear hrun o3 g3 A1 A2)
        | (at_builtin; refine Lib.wpList_append_run _ rfl (.tmp 15) (.tmp 18) 52 52 rfl _ _ rfl rfl _ _ RUN.out ?_))
      go_roundw
      case rel =>
        refine ⟨s + 1, by omega, by rw [show 1 + (s + 1) = p + 1 by omega]; go_num, ?_, HB.out.grown G3.out hws (fun q hq => (HO.out.lt q hq).1)⟩
        rw [HN.out]
        exact O3.out
      case measure => simp [intOf]; omega
    · have hse : s = its.length := by omega
      have c1 : ¬ ((1 + s : Nat) : Int) ≤ (its.length : Int) := by omega
      rw [hse, sbTo_all its hN] at hO
      have O5 := hide hO
      have B5 := hide hb
      clear hO hb HV hse
      go_wp2
      go_ret
      exact ⟨_, rfl, O5.out, B5.out⟩
end Go.Proofs.YtlgkbjhpjjmljaaDoor
