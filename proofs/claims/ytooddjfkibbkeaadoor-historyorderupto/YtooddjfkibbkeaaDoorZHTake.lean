/- take: an event more. -/
import Derived.Test.YtooddjfkibbkeaaDoorZHNew
import Derived.Deep.QuietTactic
import Derived.BigQuiet
import Derived.BigRegion
namespace Go.Proofs.YtooddjfkibbkeaaDoor
open Go.RowKit Go.Maps

/-- A gathering whose processes have been looked up: the rest of it stands as it was. -/
theorem number_procs (w : World) (B h0 L gb mp mo mm k n : Nat) (g : Gs) (v0 v1 v2 : Value) (rs : List CV) (hg : GAt w B h0 L gb mp mo mm k n g v0 v1 v2 rs) (hF : Fix h0 L gb mp mo mm) (s : List UInt8) (hs : s.length ≤ 1048576) (hp : g.procs.length + 1 ≤ 1000000000) :
    Calls Tryd.prog 54 #[.pointer (some ⟨gb, 0, none⟩), .string (bsN s)] w fun e w' => e = .returned (.int .i64 (g.procs.idxOf s : Nat)) ∧ ∃ v0', GAt w' B h0 L gb mp mo mm k n { g with procs := addN g.procs s } v0' v1 v2 rs ∧ Below h0 w w' ∧ Keeps (fun x => x = gb ∨ x = mp ∨ v0.ownBlock = some x) w w' := by
  obtain ⟨⟨l1, l2, l3, l4, l5⟩, ⟨u1, u2, u3, u4⟩, ⟨d1, d2, d3, d4, d5, d6⟩⟩ := hF
  refine (number_k g.procs s hs w L gb mp 0 _ v0 hg.blk rfl rfl hg.pr hg.np u1 u2 d1 hg.sz hp).mono ?_
  rintro e w' ⟨rfl, v', b1, r1, n1, lie, kp⟩
  have hM : ∀ x, (x = gb ∨ x = mp ∨ v0.ownBlock = some x) → h0 ≤ x := fun x h => by
    rcases h with rfl | rfl | h
    · exact l1
    · exact l2
    · have := (hg.pr.lt x h).1; omega
  have bl := kp.toBelow (B := h0) (by have := hg.sz; omega) hM
  have ob' := kp.row hg.ob (fun x e h => by
    have := (hg.ob.lt x e).1
    rcases h with h | h | h
    · omega
    · omega
    · exact hg.dis x h e)
  have cl' := kp.row hg.cl (fun x e h => by
    have := (hg.cl.lt x e).1
    rcases h with h | h | h
    · omega
    · omega
    · exact row_types hg.pr hg.cl (by decide) x h e)
  refine ⟨rfl, v', ⟨b1, r1, ob', cl', hg.same, fun x hx => (hg.its x hx).below (bl.mono hg.bh), hg.bh, n1, kp.num hg.no ?_, kp.opn hg.om ?_, ?_, Nat.le_trans hg.sz kp.size⟩, bl, kp⟩
  · intro h
    rcases h with h | h | h
    · exact d2 h.symm
    · exact d4 h.symm
    · have := (hg.pr.lt _ h).1; omega
  · intro h
    rcases h with h | h | h
    · exact d3 h.symm
    · exact d5 h.symm
    · have := (hg.pr.lt _ h).1; omega
  · intro x e e'
    rcases lie with h | ⟨q, h1, h2⟩
    · rw [h] at e
      exact hg.dis x e e'
    · rw [h1] at e
      cases e
      have := (hg.ob.lt _ e').2
      omega
theorem number_objs (w : World) (B h0 L gb mp mo mm k n : Nat) (g : Gs) (v0 v1 v2 : Value) (rs : List CV) (hg : GAt w B h0 L gb mp mo mm k n g v0 v1 v2 rs) (hF : Fix h0 L gb mp mo mm) (s : List UInt8) (hs : s.length ≤ 1048576) (hp : g.objs.length + 1 ≤ 1000000000) :
    Calls Tryd.prog 54 #[.pointer (some ⟨gb, 2, none⟩), .string (bsN s)] w fun e w' => e = .returned (.int .i64 (g.objs.idxOf s : Nat)) ∧ ∃ v1', GAt w' B h0 L gb mp mo mm k n { g with objs := addN g.objs s } v0 v1' v2 rs ∧ Below h0 w w' ∧ Keeps (fun x => x = gb ∨ x = mo ∨ v1.ownBlock = some x) w w' := by
  obtain ⟨⟨l1, l2, l3, l4, l5⟩, ⟨u1, u2, u3, u4⟩, ⟨d1, d2, d3, d4, d5, d6⟩⟩ := hF
  refine (number_k g.objs s hs w L gb mo 2 _ v1 hg.blk rfl rfl hg.ob hg.no u1 u3 d2 hg.sz hp).mono ?_
  rintro e w' ⟨rfl, v', b1, r1, n1, lie, kp⟩
  have hM : ∀ x, (x = gb ∨ x = mo ∨ v1.ownBlock = some x) → h0 ≤ x := fun x h => by
    rcases h with rfl | rfl | h
    · exact l1
    · exact l3
    · have := (hg.ob.lt x h).1; omega
  have bl := kp.toBelow (B := h0) (by have := hg.sz; omega) hM
  have pr' := kp.row hg.pr (fun x e h => by
    have := (hg.pr.lt x e).1
    rcases h with h | h | h
    · omega
    · omega
    · exact hg.dis x e h)
  have cl' := kp.row hg.cl (fun x e h => by
    have := (hg.cl.lt x e).1
    rcases h with h | h | h
    · omega
    · omega
    · exact row_types hg.ob hg.cl (by decide) x h e)
  refine ⟨rfl, v', ⟨b1, pr', r1, cl', hg.same, fun x hx => (hg.its x hx).below (bl.mono hg.bh), hg.bh, kp.num hg.np ?_, n1, kp.opn hg.om ?_, ?_, Nat.le_trans hg.sz kp.size⟩, bl, kp⟩
  · intro h
    rcases h with h | h | h
    · exact d1 h.symm
    · exact d4 h
    · have := (hg.ob.lt _ h).1; omega
  · intro h
    rcases h with h | h | h
    · exact d3 h.symm
    · exact d6 h.symm
    · have := (hg.ob.lt _ h).1; omega
  · intro x e e'
    rcases lie with h | ⟨q, h1, h2⟩
    · rw [h] at e'
      exact hg.dis x e e'
    · rw [h1] at e'
      cases e'
      have := (hg.pr.lt _ e).2
      omega
theorem same_answer {rs : List CV} {l : List Cl} {c0 at' : Nat} {v : Vl} {x0 : CV} {sr : Value} (hs : rs.map (·.1) = l) (h : c0 < rs.length) (hx : rs[c0] = x0) : (rs.set c0 ({ x0.1 with res := (at' : Int), reply := v }, x0.2.1, sr)).map (·.1) = answer l c0 at' v := by
  subst hs hx
  apply List.ext_getElem
  · simp [answer_len]
  · intro i h1 h2
    rw [answer_get]
    simp only [List.getElem_map, List.getElem_set]
    split
    · rename_i e; subst e; rfl
    · rfl
theorem GAt.below {w w' : World} {B h0 L gb mp mo mm k n : Nat} {g : Gs} {v0 v1 v2 : Value} {rs : List CV} (hg : GAt w B h0 L gb mp mo mm k n g v0 v1 v2 rs) (hb : Below w.heap.size w w') (h0l : h0 ≤ w.heap.size) (_hF : Fix h0 L gb mp mo mm) : GAt w' B h0 L gb mp mo mm k n g v0 v1 v2 rs := by
  have kp := Keeps.below (M := fun _ => False) hb
  have hlt := (Array.getElem?_eq_some_iff.1 hg.blk).1
  exact ⟨(hb.block _ hlt).trans hg.blk, kp.row hg.pr (fun _ _ h => h), kp.row hg.ob (fun _ _ h => h), kp.row hg.cl (fun _ _ h => h), hg.same, fun x hx => (hg.its x hx).below (hb.mono (Nat.le_trans hg.bh h0l)), hg.bh, kp.num hg.np (fun h => h), kp.num hg.no (fun h => h), kp.opn hg.om (fun h => h), hg.dis, Nat.le_trans hg.sz hb.size⟩
set_option maxRecDepth 100000 in
set_option maxHeartbeats 4000000 in
theorem takeRes_k (e : Evn) (at' : Nat) (w : World) (B h0 L gb mp mo mm k n : Nat) (g : Gs) (v0 v1 v2 : Value) (rs : List CV) (s : Value) (hg : GAt w B h0 L gb mp mo mm k n g v0 v1 v2 rs) (hF : Fix h0 L gb mp mo mm) (h0l : h0 ≤ w.heap.size) (he : EvOk e) (hk : e.kind = 2) (hz : e.val.size ≤ 1000000000) (hi : ItemsAt w B n s e.val.items)
    (c0 : Nat) (hop : (g.procs.idxOf e.proc, c0) ∈ g.opn) (hone : findO g.opn (g.procs.idxOf e.proc) = c0) (hc0 : c0 < g.calls.length) (hp : g.procs.length + 1 ≤ 1000000000) (hcl : g.calls.length ≤ 1000000000) (_hat : at' ≤ 1000000000) :
    Calls Tryd.prog 41 #[.pointer (some ⟨gb, 0, none⟩), .int .i64 (at' : Int), .agg (evCells e s)] w fun r w' => (∃ v, r = .returned v) ∧ (∃ v0' v2' rs', GAt w' B h0 L gb mp mo mm k n (takeM g at' e) v0' v1 v2' rs') ∧ Below h0 w w' := by
  obtain ⟨W, hW⟩ : ∃ W, w.alloc (.cells (evCells e s) 46) = W := ⟨_, rfl⟩
  have bW : Below w.heap.size w W := by rw [← hW]; exact alloc_v (Below.refl _ _) _
  have e1 : W.heap[w.heap.size]? = some (.cells (evCells e s) 46 (0, 0)) := by rw [← hW]; exact World.alloc_heap_new w _
  have zW : w.heap.size < W.heap.size := (Array.getElem?_eq_some_iff.1 e1).1
  have gW := hg.below bW h0l hF
  have HN := hide (fun (U : World) (b : Below W.heap.size W U) => number_procs U B h0 L gb mp mo mm k n g v0 v1 v2 rs (gW.below b (by omega) hF) hF e.proc he.proc hp)
  have HE := hide (fun (U w1 : World) (b : Below W.heap.size W U) (kp : Keeps (fun x => x = gb ∨ x = mp ∨ v0.ownBlock = some x) U w1) => (show w1.heap[w.heap.size]? = some (.cells (evCells e s) 46 (0, 0)) from by
    refine (kp.block _ (by have := b.size; omega) (fun h => ?_)).trans ((b.block _ zW).trans e1)
    have := hg.sz
    have := hF.hi
    rcases h with h | h | h
    · omega
    · omega
    · have := (hg.pr.lt _ h).2; omega))
  have c1 := cells_at e1 1 _ rfl
  obtain ⟨sa, sc, rfl, _⟩ := hi.len
  clear hg gW e1
  go_enter Tryd.func41, Tryd.ntmps41
  go_wp2
  go_region_with (go_at_call 54; refine (HN.out _ (by first | exact Below.refl _ _ | exact (Below.refl _ _).drew | exact (Below.refl _ _).drew.drew)).mono ?_; rintro r w1 ⟨rfl, v0', g1, b1, k1⟩)
  have f1 := HE.out W.drew w1 (Below.refl _ _).drew k1
  have d0 := cells_at f1 0 _ rfl
  have hk2 : (e.kind == 2) = true := by simp [hk]
  have m4 := cells_at g1.blk 4 _ rfl
  have m5 := cells_at g1.blk 5 _ rfl
  obtain ⟨gc, cc, e2, lc, ltc⟩ := g1.cl.form (by show 0 < g.calls.length; omega)
  change v2 = .slice (some ⟨gc, 0, none⟩) g.calls.length cc at e2
  subst e2
  obtain ⟨D, hown, hD1, hD2, hD3, hD4⟩ := g1.om
  have hpi : g.procs.idxOf e.proc ≤ 1000000000 := by have := List.idxOf_le_length (a := e.proc) (l := g.procs); omega
  have hkey := keyInt _ hpi
  have hlk : ∀ j, (Instr.lookup 82 (.map (some mm)) (.int .i64 ((g.procs.idxOf e.proc : Nat) : Int)) false).run Tryd.prog (w1.drewN j) = .ok (.int .i64 (c0 : Int)) (w1.drewN j) := fun j => by
    obtain ⟨c, h1, h2, _⟩ := World.ownsMap.lookup_int (w := w1.drewN j) hown hLawInt Tryd.underlying82 Tryd.underlying3 (hZeroInt _) hkey
    have h3 := h2.symm.trans (hD2 _ _ hop)
    simp only [DataW.lit.injEq, Lit.int.injEq, true_and] at h3
    rw [h3] at h1
    exact h1
  have hlk0 := hlk 0
  have r0 : (0 : Int) ≤ (c0 : Int) := by omega
  have r1 : (c0 : Int) < (g.calls.length : Int) := by omega
  have HG := hide g1
  clear g1 hown hD1 hD2 hD3 hD4
  go_wp2
  go_quiet (fail)
  clear hlk hlk0 r0 r1 m4
  have hrl : rs.length = g.calls.length := by have := congrArg List.length HG.out.same; simpa using this
  obtain ⟨x0, hx0⟩ : ∃ x0, rs[c0]'(by omega) = x0 := ⟨_, rfl⟩
  have hce : ∀ i v, (clOf x0)[i]? = some v → w1.cell? ⟨gc, c0 * 15 + i, none⟩ = some v := fun i v h => by
    have hi15 : i < 15 := by
      have := (List.getElem?_eq_some_iff.1 h).1
      rwa [clOf_len] at this
    rw [HG.out.cl.cellAt (c0 * 15 + i) (by show _ < g.calls.length * 15; have := Nat.mul_le_mul_right 15 (show c0 + 1 ≤ g.calls.length by omega); omega), crow_get rs c0 (by omega) i hi15, hx0]
    exact h
  have p9 := hce 9 _ rfl
  have p10 := hce 10 _ rfl
  have p11 := hce 11 _ rfl
  have p12 := hce 12 _ rfl
  have p13 := hce 13 _ rfl
  have p14 := hce 14 _ rfl
  have z9 := HG.out.cl.frozenAt (c0 * 15 + 9)
  have z10 := HG.out.cl.frozenAt (c0 * 15 + 10)
  have z11 := HG.out.cl.frozenAt (c0 * 15 + 11)
  have z12 := HG.out.cl.frozenAt (c0 * 15 + 12)
  have z13 := HG.out.cl.frozenAt (c0 * 15 + 13)
  have z14 := HG.out.cl.frozenAt (c0 * 15 + 14)
  have d4 := cells_at f1 4 _ rfl
  have d5 := cells_at f1 5 _ rfl
  have d6 := cells_at f1 6 _ rfl
  have d7 := cells_at f1 7 _ rfl
  have d8 := cells_at f1 8 _ rfl
  have HCE := hide hce
  have HF1 := hide f1
  clear hce f1
  go_wp2
  go_region
  clear p9 p10 p11 p12 p13 p14 z9 z10 z11 z12 z13 z14 d4 d5 d6 d7 d8 d0 c1 hk2
  have hcl1 : (w1.drewN (nq + 1)).ownsRow L 49 15 (.slice (some ⟨gc, 0, none⟩) g.calls.length cc) g.calls.length (crow rs) := HG.out.cl
  have s1 := hcl1.stored (c0 * 15 + 9) (.int .i64 (at' : Int))
  have s2 := s1.1.stored (c0 * 15 + 10) (.int .i64 e.val.kind)
  have s3 := s2.1.stored (c0 * 15 + 11) (.int .i64 e.val.int)
  have s4 := s3.1.stored (c0 * 15 + 12) (.int .i64 e.val.im)
  have s5 := s4.1.stored (c0 * 15 + 13) (.string e.val.text)
  have s6 := s5.1.stored (c0 * 15 + 14) (.slice sa e.val.items.length sc)
  obtain ⟨X6, hX6⟩ : ∃ X6, ((((((w1.drewN (nq + 1)).setCell ⟨gc, c0 * 15 + 9, none⟩ (.int .i64 (at' : Int))).setCell ⟨gc, c0 * 15 + 10, none⟩ (.int .i64 e.val.kind)).setCell ⟨gc, c0 * 15 + 10 + 1, none⟩ (.int .i64 e.val.int)).setCell ⟨gc, c0 * 15 + 10 + 2, none⟩ (.int .i64 e.val.im)).setCell ⟨gc, c0 * 15 + 10 + 3, none⟩ (.string e.val.text)).setCell ⟨gc, c0 * 15 + 10 + 4, none⟩ (.slice sa e.val.items.length sc) = X6 := ⟨_, rfl⟩
  have k6 : Keeps (fun x => x = gc) w1 X6 := by
    rw [← hX6]
    exact (((((((⟨rfl, rfl, rfl, Nat.le_refl _, fun _ _ _ => rfl⟩ : Keeps (fun x => x = gc) w1 (w1.drewN (nq + 1))).trans (Keeps.set _ _ _ _) (fun _ _ h => h)).trans (Keeps.set _ _ _ _) (fun _ _ h => h)).trans (Keeps.set _ _ _ _) (fun _ _ h => h)).trans (Keeps.set _ _ _ _) (fun _ _ h => h)).trans (Keeps.set _ _ _ _) (fun _ _ h => h)).trans (Keeps.set _ _ _ _) (fun _ _ h => h))
  have row6 : X6.ownsRow L 49 15 (.slice (some ⟨gc, 0, none⟩) g.calls.length cc) g.calls.length (crow (rs.set c0 ({ x0.1 with res := (at' : Int), reply := e.val }, x0.2.1, .slice sa e.val.items.length sc))) := by
    have s7 := s6.1
    rw [crow_split rs c0 (by omega), hx0, crow_set rs c0 (by omega) _ (by rfl) 9 (by omega), crow_set rs c0 (by omega) _ (by rfl) 10 (by omega), crow_set rs c0 (by omega) _ (by rfl) 11 (by omega), crow_set rs c0 (by omega) _ (by rfl) 12 (by omega), crow_set rs c0 (by omega) _ (by rfl) 13 (by omega), crow_set rs c0 (by omega) _ (by rfl) 14 (by omega)] at s7
    rw [crow_with rs c0 (by omega), ← hX6]
    exact s7
  rw [hX6]
  clear hX6 s1 s2 s3 s4 s5 s6 hcl1
  have hgl := (Array.getElem?_eq_some_iff.1 HG.out.blk).1
  have hFh := hF.hi
  have hFn := hF.ne
  have blk6 := (k6.block gb hgl (show gb ≠ gc by omega)).trans HG.out.blk
  have m6 := cells_at blk6 5 _ rfl
  obtain ⟨D, hown, hD1, hD2, hD3, hD4⟩ := HG.out.om
  have hown6 := k6.map hown (show mm ≠ gc by omega)
  have HO6 := hide hown6
  have HR6 := hide row6
  have HK6 := hide k6
  have HDD := hide (opn_del (p := g.procs.idxOf e.proc) (hown.tidy hLawInt) (List.mem_map.2 ⟨_, hop, rfl⟩) hD1 hD2 hD3 hD4)
  clear hown hown6 hD1 hD2 hD3 hD4 row6 k6 blk6 m5
  go_wp2_with (at_delete; refine wpList_delete_own _ rfl _ _ 82 3 rfl 3 hLawInt Tryd.underlying82 _ mm k D rfl HO6.out _ _ rfl hkey ?_; intro w8 hown8 hturn8; have HO8 := hide hown8; have HT8 := hide hturn8.grown; clear hown8 hturn8)
  refine bodyPost_ret (results_none rfl _ _ _) rfl ?_
  have kA : Keeps (fun x => x = mm) X6 w8 := Keeps.grown HT8.out (fun r e => by cases e; rfl)
  have k8 : Keeps (fun x => x = gc ∨ x = mm) w1 w8 := (HK6.out.mono (fun x _ h => .inl h)).trans kA (fun x _ h => .inr h)
  have g1 := HG.out
  have hsz1 := g1.sz
  have hLl := hF.lo
  have bl8 : Below h0 w1 w8 := k8.toBelow (by omega) (fun x h => by rcases h with rfl | rfl <;> omega)
  have blw : Below h0 w w8 := ((bW.mono h0l).drew.trans b1).trans bl8
  have hcal : (takeM g at' e) = ⟨addN g.procs e.proc, g.objs, answer g.calls c0 at' e.val, dropO g.opn (g.procs.idxOf e.proc)⟩ := by unfold takeM; rw [if_pos hk, hone]
  rw [hcal]
  have hne : ∀ {v : Value} {t : TypeId} {z m : Nat} {xs : List Value}, w1.ownsRow L t z v m xs → t ≠ 49 → ∀ x, v.ownBlock = some x → ¬ (x = gc ∨ x = mm) := fun hr ht x ex h => by
    rcases h with rfl | rfl
    · exact row_types hr g1.cl ht _ ex rfl
    · have := (hr.lt _ ex).1; omega
  refine ⟨⟨_, rfl⟩, ⟨v0', _, rs.set c0 ({ x0.1 with res := (at' : Int), reply := e.val }, x0.2.1, .slice sa e.val.items.length sc), ⟨(k8.block gb hgl (by omega)).trans g1.blk, k8.row g1.pr (hne g1.pr (by decide)), k8.row g1.ob (hne g1.ob (by decide)), ?_, same_answer g1.same (by omega) hx0, fun x hx => ?_, g1.bh, k8.num g1.np (by omega), k8.num g1.no (by omega), ⟨_, HO8.out, HDD.out⟩, g1.dis, Nat.le_trans hsz1 k8.size⟩⟩, blw⟩
  · show w8.ownsRow L 49 15 _ (answer g.calls c0 at' e.val).length _
    rw [answer_len]
    exact kA.row HR6.out (fun x ex h => by have := (HR6.out.lt x ex).1; omega)
  · rcases List.mem_or_eq_of_mem_set hx with hx | rfl
    · exact (g1.its x hx).below (bl8.mono g1.bh)
    · have hm : x0 ∈ rs := by rw [← hx0]; exact List.getElem_mem _
      have hi0 := (g1.its x0 hm).below (bl8.mono g1.bh)
      exact ⟨hi0.1, hi.below (blw.mono g1.bh), hi0.2.2.1, he.val, hi0.2.2.2.2.1, hz, hi0.2.2.2.2.2.2⟩
end Go.Proofs.YtooddjfkibbkeaaDoor
