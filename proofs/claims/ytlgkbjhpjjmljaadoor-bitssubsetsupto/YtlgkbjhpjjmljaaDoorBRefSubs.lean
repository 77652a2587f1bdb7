/- The document's rows and Subsets. -/
import Derived.Test.YtlgkbjhpjjmljaaDoorBSubSeq
import Derived.Test.YtlgkbjhpjjmljaaDoorBRows
import Derived.Test.YtlgkbjhpjjmljaaDoorBInts
import Derived.Test.YtlgkbjhpjjmljaaDoorBTells
import Derived.Deep.AppendLies
import Derived.Deep.RegionHeld3
namespace Go.Proofs.YtlgkbjhpjjmljaaDoor
open Go.RowKit

theorem infoRow : (Tryd.prog.info? 48).map (fun i => (i.zero, i.size, i.bytes)) = some (some (.slice none 0 0), 1, 24) := by kernel_rfl
theorem IntsAt.below_up {w w' : World} {v : Value} {l : List Int} (h : IntsAt w w.heap.size v l) (hb : Below w.heap.size w w') : IntsAt w' w'.heap.size v l := by
  obtain ⟨a, c, e, hc⟩ := h.below hb
  exact ⟨a, c, e, fun j hj => by
    obtain ⟨b, off, e1, e2, e3⟩ := hc j hj
    have := hb.size
    exact ⟨b, off, e1, by omega, e3⟩⟩

/-- An append that is run at a step of a region that draws its order. -/
theorem step_run {P : Program} (w : World) {ops : Array Oper} {o : Oper} {a : Act} {K : Act → World → Prop} {Q : Exit → Act → World → Prop} {E : Prop} (hgd : o.guard = none) (s x : Operand) (t : TypeId)
    (ho : o.op = .call { callee := .builtin .append, args := #[s, x], argTypes := #[t, t] }) (vs vx : Value) (hs : a.eval s = vs) (hx : a.eval x = vx) (R : Value → World → Prop)
    (hr : ∃ v' w', (Builtin.append_ #[t, t] o.type #[vs, vx]).run P w = .ok v' w' ∧ R v' w') (h : ∀ v' w', R v' w' → K (a.put o.dst v') w') :
    if Region.wanted o (yielded ops a.tmps) = true then Oper.wp P o a w K Q else E := by
  obtain ⟨v', w', hr, hR⟩ := hr
  have hw : Region.wanted o (yielded ops a.tmps) = true := by simp [Region.wanted, hgd]
  rw [if_pos hw]
  unfold Oper.wp execOp
  simp only [ho, resolve, invoke, builtin, Sem.run_bind, Sem.run_pure, Result.andThen_ok, List.map_toArray, List.map_cons, List.map_nil, hs, hx, hr]
  exact h v' w' hR

/-- A row of rows, each of its own: they lie from lo on. -/
structure Outs (lo : Nat) (W : World) (v : Value) (ls : List (List Int)) : Prop where
  row : ∃ vs : List Value, W.ownsRow lo 48 1 v ls.length vs ∧ ∀ j (h : j < ls.length), ∃ g cap, vs[j]? = some (.slice (some ⟨g, 0, none⟩) (ls[j]).length cap) ∧ W.ownsRow lo 3 1 (.slice (some ⟨g, 0, none⟩) (ls[j]).length cap) (ls[j]).length (ints ls[j])
theorem Outs.none (lo : Nat) (W : World) : Outs lo W (.slice none 0 0) [] := ⟨[], ⟨rfl, .inl ⟨rfl, rfl⟩⟩, fun j h => by simp at h⟩
theorem Outs.lt {lo : Nat} {W : World} {v : Value} {ls : List (List Int)} (h : Outs lo W v ls) : ∀ k, v.ownBlock = some k → lo ≤ k ∧ k < W.heap.size := by
  obtain ⟨vs, hr, _⟩ := h.row
  exact hr.lt
theorem own_same {w W : World} {lo base : Nat} {e : TypeId} {size : Nat} {v : Value} {n : Nat} {xs : List Value} (h : w.ownsRow base e size v n xs) (hlo : lo ≤ base) (hl : ∀ k, v.ownBlock = some k → W.heap[k]? = w.heap[k]?) : W.ownsRow lo e size v n xs := by
  refine ⟨h.1, ?_⟩
  rcases h.2 with h | ⟨g', cap', cur, hv, hb', hh, rest⟩
  · exact .inl h
  · subst hv
    exact .inr ⟨_, _, cur, rfl, by omega, (hl g' rfl).trans hh, rest⟩
/-- What stands elsewhere does not touch it. -/
theorem Outs.same {lo lo' : Nat} {W W' : World} {v : Value} {ls : List (List Int)} (h : Outs lo W v ls) (hlo : lo' ≤ lo) (hl : ∀ k, lo ≤ k → k < W.heap.size → W'.heap[k]? = W.heap[k]?) : Outs lo' W' v ls := by
  obtain ⟨vs, hr, hj⟩ := h.row
  refine ⟨vs, own_same hr hlo (fun k hk => hl k (hr.lt k hk).1 (hr.lt k hk).2), fun j hlt => ?_⟩
  obtain ⟨g, cap, h1, h2⟩ := hj j hlt
  exact ⟨g, cap, h1, own_same h2 hlo (fun k hk => hl k (h2.lt k hk).1 (h2.lt k hk).2)⟩
theorem row_cur' {w : World} {base : Nat} {e : TypeId} {g n cap : Nat} {xs : List Value} (h : w.ownsRow base e 1 (.slice (some ⟨g, 0, none⟩) n cap) n xs) : ∃ cur, w.heap[g]? = some (.cells cur e (0, 0)) := by
  rcases h.2 with ⟨h, _⟩ | ⟨g', cap', cur, hv, _, hh, _⟩
  · cases h
  · simp only [Value.slice.injEq, Option.some.injEq, Addr.mk.injEq, and_true, true_and] at hv
    obtain ⟨rfl, rfl⟩ := hv
    exact ⟨cur, hh⟩
/-- The row that a number is set ahead of. -/
theorem inner_run (W : World) (x : Int) {b gr cr : Nat} {l : List Int} (hr : W.ownsRow b 3 1 (.slice (some ⟨gr, 0, none⟩) l.length cr) l.length (ints l)) (hl : l.length ≤ 100) (ty : TypeId) :
    ∃ v' w', (Builtin.append_ #[48, 48] ty #[.slice (some ⟨W.heap.size, 0, none⟩) 1 1, .slice (some ⟨gr, 0, none⟩) l.length cr]).run Tryd.prog (W.alloc (.cells #[.int .i64 x] 3)) = .ok v' w' ∧
      ∃ g cap, v' = .slice (some ⟨g, 0, none⟩) (x :: l).length cap ∧ w'.ownsRow W.heap.size 3 1 v' (x :: l).length (ints (x :: l)) ∧ Below W.heap.size W w' := by
  obtain ⟨i0, hi, hz0, hz1, hz2⟩ := info_parts infoInt
  have hown := World.ownsRow_lit (base := W.heap.size) (e := 3) (size := 1) W #[.int .i64 x] 1 (Nat.le_refl _) (by unfold maxLen; omega) rfl
  obtain ⟨v', w1, hrun, A1, A2, A3⟩ := run_append_own (P := Tryd.prog) (W.alloc (.cells #[.int .i64 x] 3)) W.heap.size 48 ty 3 i0 (.int .i64 0) 1 8 Tryd.underlying48 hi hz0 hz1 hz2 rfl (by decide) _ 1 _ hown ⟨gr, 0, none⟩ l.length cr (ints l) (by rw [ints_length]; omega) (row_cells (hr.alloc _)) (ints_one l) (by unfold maxLen; omega) (by omega) (by simp)
  have hbel : Below W.heap.size W w1 := ((Below.refl _ _).alloc (Nat.le_refl _) _).grown A2 (by simp) (fun k hk => by simp [Value.ownBlock] at hk; omega)
  obtain ⟨g', cap', rfl, hg⟩ := row_is A1 (fun e => by simpa using A3.1 e)
  have e1 : 1 + l.length = (x :: l).length := by rw [List.length_cons]; omega
  rw [e1] at A1 hrun
  exact ⟨_, w1, hrun, g', cap', rfl, A1, hbel⟩
/-- A row is set behind the others. -/
theorem outer_run {lo : Nat} {W w1 : World} {o : Value} {ls : List (List Int)} (h : Outs lo W o ls) (hb : Below W.heap.size W w1) {g1 c1 : Nat} {l : List Int} (hr : w1.ownsRow W.heap.size 3 1 (.slice (some ⟨g1, 0, none⟩) l.length c1) l.length (ints l)) (hlo : lo ≤ W.heap.size) (hn : ls.length ≤ 1048576) (ty : TypeId) :
    ∃ v' w', (Builtin.append_ #[52, 52] ty #[o, .slice (some ⟨w1.heap.size, 0, none⟩) 1 1]).run Tryd.prog (w1.alloc (.cells #[.slice (some ⟨g1, 0, none⟩) l.length c1] 48)) = .ok v' w' ∧
      Outs lo w' v' (ls ++ [l]) ∧ W.grownBy w' o.ownBlock ∧ (v'.ownBlock = o.ownBlock ∨ ∃ g, v'.ownBlock = some g ∧ W.heap.size ≤ g) := by
  obtain ⟨i0, hi, hz0, hz1, hz2⟩ := info_parts infoRow
  obtain ⟨vs, hv, hj⟩ := h.row
  have hs := hb.size
  have hv1 : w1.ownsRow lo 48 1 o ls.length vs := own_same hv (Nat.le_refl _) (fun k hk => hb.block k (hv.lt k hk).2)
  obtain ⟨g, cap, w2, hrun, A1, A2, A3, A4⟩ := run_append_lies (P := Tryd.prog) (w1.alloc (.cells #[.slice (some ⟨g1, 0, none⟩) l.length c1] 48)) 52 ty lo 48 i0 (.slice none 0 0) 1 24 Tryd.underlying52 hi hz0 hz1 hz2 rfl (by decide) o ls.length vs (hv1.alloc _) ⟨w1.heap.size, 0, none⟩ 1 1 [.slice (some ⟨g1, 0, none⟩) l.length c1] rfl (World.news_of_block (cs := #[.slice (some ⟨g1, 0, none⟩) l.length c1]) (World.alloc_heap_new _ _)) (by simp [Value.oneCell']) (by decide) (by unfold maxLen; omega) (by omega) (by simp; omega) _ rfl
  have hgr : W.grownBy w2 o.ownBlock := ⟨A2.os.trans hb.os, A2.tape.trans hb.tape, A2.output.trans hb.output, by have := A2.size; simp at this; omega, fun k hk hne => ((A2.block k (by simp; omega) hne).trans (Below.heap_alloc _ _ _ (by omega))).trans (hb.block k hk)⟩
  refine ⟨_, w2, hrun, ⟨⟨vs ++ [.slice (some ⟨g1, 0, none⟩) l.length c1], by rw [List.length_append]; exact A1, fun j hlt => ?_⟩⟩, hgr, ?_⟩
  · by_cases hjl : j < ls.length
    · obtain ⟨gj, cj, e1, e2⟩ := hj j hjl
      have e3 : (ls ++ [l])[j] = ls[j] := List.getElem_append_left hjl
      rw [e3]
      have hvl : vs.length = ls.length := by have := hv.1; omega
      refine ⟨gj, cj, by rw [List.getElem?_append_left (by omega)]; exact e1, own_same e2 (Nat.le_refl _) (fun k hk => ?_)⟩
      simp only [Value.ownBlock, Option.some.injEq] at hk
      subst hk
      refine hgr.block _ (e2.lt _ rfl).2 ?_
      obtain ⟨cur, hcur⟩ := row_cur' e2
      rcases hv.2 with ⟨rfl, _⟩ | ⟨go, co, cur2, rfl, _, hh, _⟩
      · simp [Value.ownBlock]
      · intro e
        simp only [Value.ownBlock, Option.some.injEq] at e
        subst e
        rw [hcur] at hh
        simp at hh
    · have hje : j = ls.length := by simp at hlt; omega
      subst hje
      have hvl : vs.length = ls.length := by have := hv.1; omega
      have e3 : (ls ++ [l])[ls.length] = l := by simp
      rw [e3]
      refine ⟨g1, c1, by rw [List.getElem?_append_right (by omega)]; simp [hvl], own_same hr hlo (fun k hk => ?_)⟩
      simp only [Value.ownBlock, Option.some.injEq] at hk
      subst hk
      have h3 := hr.lt g1 rfl
      exact (A2.block g1 (by simp; omega) (fun e => by have := (hv.lt g1 e.symm).2; omega)).trans (Below.heap_alloc _ _ _ h3.2)
  · rcases A3 with e | e
    · exact .inl e.symm
    · exact .inr ⟨g, rfl, by simp at e; omega⟩

theorem combos_small : ∀ n, n < 11 → ∀ k, k < 11 → ∀ a, a < 12 → (combos n k a).length ≤ 1024 ∧ ∀ r ∈ combos n k a, r.length = k := by decide +kernel
/-- What the document's rows answers. -/
def rws (its : List Int) (k a : Nat) : List (List Int) := (combos its.length k a).map (pf its)
/-- Those that begin at one of the first j places from a on. -/
def rwsTo (its : List Int) (k a j : Nat) : List (List Int) := (List.range j).flatMap fun i => (rws its k (a + i + 1)).map fun r => its.getD (a + i) 0 :: r
theorem rwsTo_step (its : List Int) (k a j : Nat) : rwsTo its k a (j + 1) = rwsTo its k a j ++ (rws its k (a + j + 1)).map fun r => its.getD (a + j) 0 :: r := by
  simp [rwsTo, List.range_succ]
theorem rwsTo_all (its : List Int) (k a : Nat) : rwsTo its k a (its.length - (a + k)) = rws its (k + 1) a := by
  unfold rwsTo rws
  rw [combos, List.map_flatMap]
  congr 1
  funext i
  simp [List.map_map, Function.comp_def, pf]
theorem rws_small (its : List Int) (h : its.length ≤ 10) (k a : Nat) (hk : k ≤ 10) (ha : a ≤ 11) : (rws its k a).length ≤ 1024 := by
  unfold rws
  rw [List.length_map]
  exact (combos_small _ (by omega) _ (by omega) _ (by omega)).1
theorem rws_len (its : List Int) (h : its.length ≤ 10) (k a : Nat) (hk : k ≤ 10) (ha : a ≤ 11) : ∀ r ∈ rws its k a, r.length = k := by
  unfold rws
  intro r hr
  obtain ⟨q, hq, rfl⟩ := List.mem_map.1 hr
  unfold pf
  rw [List.length_map]
  exact (combos_small _ (by omega) _ (by omega) _ (by omega)).2 q hq
theorem rwsTo_small (its : List Int) (h : its.length ≤ 10) (k a : Nat) (hk : k ≤ 10) : ∀ j, a + j ≤ 11 → (rwsTo its k a j).length ≤ 1024 * j := by
  intro j
  induction j with
  | zero => intro _; simp [rwsTo]
  | succ j ih =>
    intro hj
    rw [rwsTo_step, List.length_append, List.length_map]
    have := ih (by omega)
    have := rws_small its h k (a + j + 1) hk (by omega)
    omega
theorem rows_zero (v : Value) (a : Int) (w : World) :
    Calls Tryd.prog 47 #[v, .int .i64 0, .int .i64 a] w fun e w' => ∃ v', e = .returned v' ∧ Outs w.heap.size w' v' [[]] ∧ Below w.heap.size w w' := by
  go_enter Tryd.func47, Tryd.ntmps47
  go_wp2
  go_ret
  refine ⟨_, rfl, ⟨⟨[.slice (some ⟨w.heap.size, 0, none⟩) 0 0], ?_, fun j h => ?_⟩⟩, ((Below.refl _ _).alloc (Nat.le_refl _) _).alloc (by simp) _⟩
  · have h1 := World.ownsRow_lit (base := w.heap.size) (e := 48) (size := 1) (w.alloc (.cells #[] 3)) #[.slice (some ⟨w.heap.size, 0, none⟩) 0 0] 1 (by simp) (by unfold maxLen; omega) rfl
    rw [World.size_alloc] at h1
    exact h1
  · have hj : j = 0 := by simp at h; omega
    subst hj
    exact ⟨w.heap.size, 0, rfl, (World.ownsRow_made (base := w.heap.size) (e := 3) (size := 1) w #[] 0 (Nat.le_refl _) (by unfold maxLen; omega) rfl).alloc _⟩
set_option maxRecDepth 100000 in
set_option maxHeartbeats 2000000 in
theorem rows_k (v : Value) (its : List Int) (hN : its.length ≤ 10) (k : Nat) (hk : k ≤ 10) (IH : ∀ (a : Nat), a ≤ 11 → ∀ w, IntsAt w w.heap.size v its → Calls Tryd.prog 47 #[v, .int .i64 (k : Int), .int .i64 (a : Int)] w fun e w' => ∃ v', e = .returned v' ∧ Outs w.heap.size w' v' (rws its k a) ∧ Below w.heap.size w w')
    (a : Nat) (ha : a ≤ 11) (w : World) (hv : IntsAt w w.heap.size v its) :
    Calls Tryd.prog 47 #[v, .int .i64 ((k + 1 : Nat) : Int), .int .i64 (a : Int)] w fun e w' => ∃ v', e = .returned v' ∧ Outs w.heap.size w' v' (rws its (k + 1) a) ∧ Below w.heap.size w w' := by
  have HV := hide hv
  have H := hide IH
  obtain ⟨ad, c, rfl, _⟩ := hv
  clear IH
  have hk1 : ((k + 1 : Nat) : Int) = (k : Int) + 1 := by omega
  have hk0 : ((k : Int) + 1 == 0) = false := by simp; omega
  rw [hk1]
  clear hk1
  go_enter Tryd.func47, Tryd.ntmps47
  go_wp2
  go_loopw [7, 8] (fun o i wr => ∃ j : Nat, j ≤ its.length - (a + k) ∧ i = .int .i64 ((a + j : Nat) : Int) ∧ Outs w.heap.size wr o (rwsTo its k a j) ∧ Below w.heap.size w wr) (fun _ i _ => 100 - (intOf i).toNat)
  case atStart => exact ⟨0, Nat.zero_le _, by simp, Outs.none _ _, Below.refl _ _⟩
  case round =>
    obtain ⟨j, hj, rfl, hO, hb⟩ := hrel
    by_cases hlt : j < its.length - (a + k)
    · have HR := hide (H.out (a + j + 1) (by omega) wr (HV.out.below_up hb))
      have hpl : a + j < its.length := by omega
      have hnext := rwsTo_step its k a j
      have hps := rwsTo_small its hN k a hk j (by omega)
      have hrs := rws_small its hN k (a + j + 1) hk (by omega)
      have hrl := rws_len its hN k (a + j + 1) hk (by omega)
      have c1 : ((a + j : Nat) : Int) + ((k : Int) + 1) ≤ (its.length : Int) := by omega
      have hx : its.getD (a + j) 0 = its[a + j] := by simp [hpl]
      rw [hx] at hnext
      have hpj : a + j ≤ 11 := by omega
      generalize hp : a + j = p at *
      generalize rwsTo its k a j = pre at *
      have HN := hide hnext
      have HLL := hide hrl
      generalize hrw : rws its k (p + 1) = rl at *
      have HO := hide hO
      have HB := hide hb
      clear hO hb hnext hrl hrw hx
      go_wp2_with (go_at_call 47; refine HR.out.mono ?_; rintro e w2 ⟨rv, rfl, A1, A2⟩; have AO := hide A1; have AB := hide A2; clear A1 A2)
      clear HR
      obtain ⟨ra, rc, rfl⟩ : ∃ ra rc, rv = .slice ra rl.length rc := by
        obtain ⟨vs, hvs, _⟩ := AO.out.row
        exact row_any hvs
      obtain ⟨wo, hwo⟩ : ∃ wo, wo = wr := ⟨_, rfl⟩
      subst hwo
      go_loopw [7, 10] (fun o i wr => ∃ m : Nat, m ≤ rl.length ∧ i = .int .i64 (m : Int) ∧ Outs w.heap.size wr o (pre ++ (rl.take m).map fun r => its[p] :: r) ∧ Below w.heap.size w wr ∧ w2.heap.size ≤ wr.heap.size ∧ (∀ q, wo.heap.size ≤ q → q < w2.heap.size → wr.heap[q]? = w2.heap[q]?) ∧ ∀ q, o.ownBlock = some q → q < wo.heap.size ∨ w2.heap.size ≤ q) (fun _ i _ => rl.length - (intOf i).toNat)
      case atStart =>
        refine ⟨0, Nat.zero_le _, rfl, ?_, HB.out.trans (AB.out.mono HB.out.size), Nat.le_refl _, fun _ _ _ => rfl, fun q hq => .inl (HO.out.lt q hq).2⟩
        rw [List.take_zero, List.map_nil, List.append_nil]
        exact HO.out.same (Nat.le_refl _) (fun q _ h2 => AB.out.block q h2)
      case round =>
        obtain ⟨m, hm, rfl, hO, hb, hsz, hk2, hq⟩ := hrel
        by_cases hml : m < rl.length
        · have hz := AB.out.size
          have hR : Outs wo.heap.size wr (.slice ra rl.length rc) rl := AO.out.same (Nat.le_refl _) (fun q h1 h2 => hk2 q h1 h2)
          obtain ⟨vs, hvs, hrows⟩ := hR.row
          obtain ⟨gr, cr, er, hgr⟩ := row_is hvs (fun e => by simp only [Value.slice.injEq] at e; omega)
          simp only [Value.slice.injEq, true_and] at er
          obtain ⟨rfl, rfl⟩ := er
          obtain ⟨gm, cm, em, hmr⟩ := hrows m hml
          have cc2 := (hvs.cellAt m (by omega)).trans em
          have lgr := hvs.lt gr rfl
          have ngr : u7 ≠ u7 ∨ True := .inr trivial
          obtain ⟨a', c', ea, hc⟩ := HV.out.below hb
          simp only [Value.slice.injEq, true_and] at ea
          obtain ⟨rfl, rfl⟩ := ea
          obtain ⟨b, off, rfl, hbl, cc1⟩ := hc p (by omega)
          have p0 : (0 : Int) ≤ (p : Int) := by omega
          have p1 : (p : Int) < (its.length : Int) := by omega
          have m0 : (0 : Int) ≤ (m : Int) := by omega
          have m1 : (m : Int) < (rl.length : Int) := by omega
          have hlen : (rl[m]).length ≤ 100 := by rw [HLL.out _ (List.getElem_mem hml)]; omega
          have HMR := hide hmr
          have HO2 := hide hO
          have hsm : (pre ++ (rl.take m).map fun r => its[p] :: r).length ≤ 1048576 := by simp; omega
          have HBX := hide hb
          have HK := hide hk2
          have HQ := hide hq
          have hws := hb.size
          clear hc hrows em hvs hmr hO hb hk2 hq hR ngr
          generalize hxx : its[p] = x at *
          generalize hll : rl[m] = r at *
          have nb : u7.ownBlock ≠ some b := fun e => by have := (HO2.out.lt b e).1; omega
          have ng : u7.ownBlock ≠ some gr := fun e => by have := HQ.out gr e; have := (AO.out.lt gr rfl).2; omega
          have lb := World.block_lt_of_cell? wr _ cc1
          have lg := World.block_lt_of_cell? wr _ cc2
          have HC1 := hide (fun (W' : World) (h : Below wr.heap.size wr W') => (h.cell lb).trans cc1)
          have HC2 := hide (fun (W' : World) (h : Below wr.heap.size wr W') => (h.cell lg).trans cc2)
          have HG1 := hide (fun (W' : World) (h : wr.grownBy W' u7.ownBlock) => (h.cell_far ⟨b, off + p, none⟩ lb (Ne.symm nb)).trans cc1)
          have HG2 := hide (fun (W' : World) (h : wr.grownBy W' u7.ownBlock) => (h.cell_far ⟨gr, m, none⟩ lg (Ne.symm ng)).trans cc2)
          clear nb ng lb lg
          go_wp2
          go_region_held3 (fun w' => w'.cell? ⟨b, off + p, none⟩ = some (.int .i64 x) ∧ w'.cell? ⟨gr, m, none⟩ = some (.slice (some ⟨gm, 0, none⟩) r.length cm))
            (first
              | go_keep
              | exact ⟨HC1.out _ B3.out, HC2.out _ B3.out⟩
              | exact ⟨HC1.out _ (B3.out.alloc (B3.out.size) _), HC2.out _ (B3.out.alloc (B3.out.size) _)⟩
              | exact ⟨HG1.out _ G4.out, HG2.out _ G4.out⟩)
            (first
              | ((refine step_run _ (by rfl) (.tmp 41) (.tmp 45) 48 (by rfl) _ _ (by rfl) (by rfl) _ (inner_run wr.drew x (own_same HMR.out (Nat.le_refl _) (fun _ _ => rfl)) hlen _) ?_; rintro v3 w3 ⟨g3, c3, rfl, r3, b3⟩; have B3 : Hid (Below wr.heap.size wr w3) := hide ⟨b3.os, b3.tape, b3.output, b3.size, b3.block⟩; have R3 := hide r3; clear r3 b3))
              | ((refine step_run _ (by rfl) (.tmp 36) (.tmp 47) 52 (by rfl) _ _ (by rfl) (by rfl) _ (outer_run HO2.out B3.out R3.out hws hsm _) ?_; rintro v4 w4 ⟨o4, g4, q4⟩; have O4 := hide o4; have G4 := hide g4; have Q4 := hide q4; clear o4 g4 q4)))
          go_wp2
          go_roundw
          case rel =>
            refine ⟨m + 1, by omega, by go_num, ?_, HBX.out.grown G4.out hws (fun q hq => (HO2.out.lt q hq).1), by have := G4.out.size; omega, fun q h1 h2 => ?_, fun q hq => ?_⟩
            · have h4 := O4.out
              rw [List.append_assoc] at h4
              have e4 : rl.take (m + 1) = rl.take m ++ [r] := by rw [List.take_succ_eq_append_getElem hml, hll]
              rw [e4, List.map_append]
              exact h4
            · exact (G4.out.block q (by omega) (fun e => by have := HQ.out q e.symm; omega)).trans (HK.out q h1 h2)
            · rcases Q4.out with e | ⟨g, e, hg⟩
              · exact HQ.out q (e.symm.trans hq)
              · rw [e] at hq
                cases hq
                exact .inr (by omega)
          case measure => simp [intOf]; omega
        · have hme : m = rl.length := by omega
          subst hme
          rw [List.take_length] at hO
          have O5 := hide hO
          have B5 := hide hb
          clear hO hb hk2 hq HO HB AO AB HV
          go_wp2
          go_roundw
          case rel =>
            refine ⟨j + 1, by omega, by rw [← hp]; go_num, ?_, B5.out⟩
            rw [HN.out]
            exact O5.out
          case measure => simp [intOf]; omega
    · have hje : j = its.length - (a + k) := by omega
      have c1 : ¬ ((a + j : Nat) : Int) + ((k : Int) + 1) ≤ (its.length : Int) := by omega
      have O5 := hO
      rw [hje, rwsTo_all] at O5
      have O6 := hide O5
      have B6 := hide hb
      clear O5 hO hb HV H
      go_wp2
      go_ret
      exact ⟨_, rfl, O6.out, B6.out⟩
theorem rows_all (v : Value) (its : List Int) (hN : its.length ≤ 10) : ∀ (k : Nat), k ≤ 11 → ∀ (a : Nat), a ≤ 11 → ∀ w, IntsAt w w.heap.size v its → Calls Tryd.prog 47 #[v, .int .i64 (k : Int), .int .i64 (a : Int)] w fun e w' => ∃ v', e = .returned v' ∧ Outs w.heap.size w' v' (rws its k a) ∧ Below w.heap.size w w' := by
  intro k
  induction k with
  | zero => intro _ a _ w _; exact rows_zero v a w
  | succ k ih => intro hk a ha w hv; exact rows_k v its hN k (by omega) (ih (by omega)) a ha w hv
end Go.Proofs.YtlgkbjhpjjmljaaDoor
