/- A region that draws its order: what is read may be taken first where all that may come ahead of it leaves what is read as it was; one operation, which waits for all the others, need not. -/
import Derived.Deep.RegionHeld
import Derived.StillTail
import Derived.Test.YtnmkggoampkekaaGreatDoorGHRun
import Derived.Deep.RegionLaw
import Derived.Deep.Cut
namespace Go.Proofs.YtnmkggoampkekaaGreatDoor
open Go.RowKit

section
variable {P : Program} {ops : Array Oper} {Q : Exit → Act → World → Prop} {md : Region.Mode} {S : World → Prop} {s : Nat}
/-- Whatever order is picked from here on, and S holds behind every operation that is carried out, but behind number s. -/
def wpAnyE (P : Program) (md : Region.Mode) (ops : Array Oper) (Q : Exit → Act → World → Prop) (S : World → Prop) (s : Nat) : Nat → Array Bool → Act → World → Prop
  | 0, listed, a, w => Region.ready md ops listed = [] ∧ Q .normal a w
  | fuel + 1, listed, a, w =>
    (Region.ready md ops listed = [] → Q .normal a w) ∧
    ∀ i ∈ Region.ready md ops listed, wpOp P ops Q i (fun a' w' => (i ≠ s → S w') ∧ wpAnyE P md ops Q S s fuel (listed.setIfInBounds i true) a' w') a w
theorem wpAny_of_E : ∀ (fuel : Nat) (listed : Array Bool) (a : Act) (w : World), wpAnyE P md ops Q S s fuel listed a w → wpAny P md ops Q fuel listed a w
  | 0, _, _, _, h => h
  | fuel + 1, _, _, _, h => ⟨h.1, fun i hi => wpOp_mono (fun a' w' h' => wpAny_of_E fuel _ a' w' h'.2) (h.2 i hi)⟩
theorem wpAnyE_first {i : Nat} {oi : Oper} {v : Value} (hi : ops[i]? = some oi) (hsel : ∀ (j : Nat) (o : Oper) cs b, ops[j]? = some o → o.op ≠ .select cs b)
    (hQ : ∀ c a w, Q (.panic c) (a.put oi.dst v) w → Q (.panic c) a w) (hs : Region.sinkB md ops s = true) (hc : Region.chainB md ops s = true) (hn : s < ops.size) (his : i < s) :
    ∀ (fuel : Nat) (listed : Array Bool) (a : Act) (w : World), HeadInv md ops s listed →
      (∀ j oj, ops[j]? = some oj → j ≠ i → listed.getD j true = false → (∀ e ∈ oj.after, Region.binds md e = true → e.on ≠ i) → oi.apart ops oj = true) →
      i ∈ Region.ready md ops listed → YieldsIf P ops S oi v a → S w →
      wpAnyE P md ops Q S s fuel (listed.setIfInBounds i true) (a.put oi.dst v) w → wpAnyE P md ops Q S s (fuel + 1) listed a w := by
  intro fuel
  induction fuel with
  | zero =>
    intro listed a w _ _ hr hy hS H
    refine ⟨fun h => (by rw [h] at hr; cases hr), fun j hj => ?_⟩
    by_cases hji : j = i
    · subst hji; exact hy.wpOp hi hS ⟨fun _ => hS, H⟩
    · have := ready_mono hj hji
      rw [H.1] at this
      cases this
  | succ fuel ih =>
    intro listed a w inv hfree hr hy hS H
    refine ⟨fun h => (by rw [h] at hr; cases hr), fun j hj => ?_⟩
    by_cases hji : j = i
    · subst hji; exact hy.wpOp hi hS ⟨fun _ => hS, H⟩
    · have h1 := H.2 j (ready_mono hj hji)
      obtain ⟨hjun, oj, hoj, hall⟩ := mem_ready.1 hj
      have hun := (mem_ready.1 hr).1
      have hnot : ∀ e ∈ oj.after, Region.binds md e = true → e.on ≠ i := fun e he hb heq => by
        have h1 := hall e he hb
        rw [heq, getD_both hun] at h1
        cases h1
      have hjs : j < s := by
        rcases Nat.lt_or_ge j s with h | h
        · exact h
        · exact absurd hj (tail_waits hs hc hn inv _ i rfl his hun j h)
      have h2 := wpOp_putIf hoj (hfree j oj hoj hji hjun hnot) (fun cs b => hsel i oi cs b hi) (fun cs b => hsel j oj cs b hoj) hQ hy h1
      have hfree' : ∀ k ok, ops[k]? = some ok → k ≠ i → (listed.setIfInBounds j true).getD k true = false →
          (∀ e ∈ ok.after, Region.binds md e = true → e.on ≠ i) → oi.apart ops ok = true := fun k ok hk hki hun hno => by
        refine hfree k ok hk hki ?_ hno
        by_cases hjk : j = k
        · subst hjk; exact hjun
        · rw [getD_set_ne true hjk] at hun; exact hun
      refine wpOp_mono (fun a' w' h3 => ⟨h3.2.1, ih (listed.setIfInBounds j true) a' w' (inv.set hj hjs) hfree' (ready_mono hr (Ne.symm hji)) h3.1 (h3.2.1 (by omega)) ?_⟩) h2
      rw [Array.setIfInBounds_comm _ _ hji]
      exact h3.2.2
/-- The order in which the region's last operation is the last one. -/
structure Sunk (md : Region.Mode) (ops : Array Oper) (s : Nat) : Prop where
  sink : Region.sinkB md ops s = true
  chain : Region.chainB md ops s = true
  lt : s < ops.size
  sel : Region.noSelect ops = true
/-- Number i, which reads what S tells, is taken first. -/
theorem wpAnyE_take {i : Nat} {oi : Oper} {v : Value} {fuel : Nat} {listed : Array Bool} {a : Act} {w : World} (k : Sunk md ops s) (inv : HeadInv md ops s listed) (his : i < s) (hi : ops[i]? = some oi)
    (hf : Region.free md ops listed i = true) (hr : (Region.ready md ops listed).contains i = true)
    (hQ : ∀ c a w, Q (.panic c) (a.put oi.dst v) w → Q (.panic c) a w) (hy : YieldsIf P ops S oi v a) (hS : S w)
    (h : HeadInv md ops s (listed.setIfInBounds i true) → wpAnyE P md ops Q S s fuel (listed.setIfInBounds i true) (a.put oi.dst v) w) : wpAnyE P md ops Q S s (fuel + 1) listed a w :=
  have hr' : i ∈ Region.ready md ops listed := by simpa using hr
  wpAnyE_first hi (Region.noSelect_spec k.sel) hQ k.sink k.chain k.lt his fuel listed a w inv (Region.free_spec hi hf) hr' hy hS (h (inv.set hr' his))
/-- One operation alone may come up. -/
theorem wpAnyE_one {i : Nat} {o : Oper} {fuel : Nat} {listed : Array Bool} {a : Act} {w : World} (inv : HeadInv md ops s listed) (his : i < s) (hr : Region.ready md ops listed = [i]) (hi : ops[i]? = some o)
    (h : ∀ K : Act → World → Prop, Hid (∀ a' w', S w' → (HeadInv md ops s (listed.setIfInBounds i true) → wpAnyE P md ops Q S s fuel (listed.setIfInBounds i true) a' w') → K a' w') → if Region.wanted o (yielded ops a.tmps) = true then o.wp P a w K Q else K (a.put o.dst undef) w) : wpAnyE P md ops Q S s (fuel + 1) listed a w := by
  refine ⟨fun h0 => (by rw [hr] at h0; cases h0), fun j hj => ?_⟩
  have hj' := hj
  rw [hr] at hj
  obtain rfl : j = i := by simpa using hj
  have h1 := h _ (hide (fun a' w' h1 h2 => (⟨fun _ => h1, h2 (inv.set hj' his)⟩ : (j ≠ s → S w') ∧ wpAnyE P md ops Q S s fuel (listed.setIfInBounds j true) a' w')))
  unfold wpOp
  rw [hi]
  dsimp only
  split
  · rename_i hw
    rw [if_pos hw] at h1
    exact .inl h1
  · rename_i hw
    rw [if_neg hw] at h1
    exact h1
/-- The last one. -/
theorem wpAnyE_last {o : Oper} {listed : Array Bool} {a : Act} {w : World} (hr : Region.ready md ops listed = [s]) (hr2 : Region.ready md ops (listed.setIfInBounds s true) = []) (hi : ops[s]? = some o)
    (h : ∀ K : Act → World → Prop, Hid (∀ a' w', Q .normal a' w' → K a' w') → if Region.wanted o (yielded ops a.tmps) = true then o.wp P a w K Q else K (a.put o.dst undef) w) : wpAnyE P md ops Q S s 1 listed a w := by
  refine ⟨fun h0 => (by rw [hr] at h0; cases h0), fun j hj => ?_⟩
  rw [hr] at hj
  obtain rfl : j = s := by simpa using hj
  have h1 := h _ (hide (fun a' w' h1 => (⟨fun h => absurd rfl h, hr2, h1⟩ : (j ≠ j → S w') ∧ wpAnyE P md ops Q S j 0 (listed.setIfInBounds j true) a' w')))
  unfold wpOp
  rw [hi]
  dsimp only
  split
  · rename_i hw
    rw [if_pos hw] at h1
    exact .inl h1
  · rename_i hw
    rw [if_neg hw] at h1
    exact h1
theorem wp_region_E {id : Nat} {a : Act} {w : World} (s n : Nat) (S : World → Prop) (hm : P.follows .mixedOrders = true) (hn : ops.size = n) (h1 : Region.sinkB .any ops s = true) (h2 : Region.chainB .any ops s = true) (h3 : s < n) (h4 : Region.noSelect ops = true)
    (h : Sunk .any ops s → HeadInv .any ops s (Array.replicate n false) → wpAnyE P .any ops Q S s n (Array.replicate n false) a w.drew) : (Code.region id ops true).wp P Q a w := by
  subst hn
  exact wp_region_any hm (wpAny_of_E _ _ _ _ (h ⟨h1, h2, h3, h4⟩ ⟨by simp, fun j oj _ hl => (by rw [getD_replicate_false] at hl; cases hl), fun t _ ht => getD_in (by simpa using ht) (getD_replicate_false _ _)⟩))
end
end Go.Proofs.YtnmkggoampkekaaGreatDoor

/- take: an invocation more. -/
namespace Go.Proofs.YtnmkggoampkekaaGreatDoor
open Go.RowKit Go.Maps

theorem infoCall : (Tryz.prog.info? 69).map (fun i => (i.zero, i.size, i.bytes)) = some (some (.agg #[.int .i64 0, .int .i64 0, .string ⟨#[]⟩, .int .i64 0, .int .i64 0, .int .i64 0, .string ⟨#[]⟩, .slice none 0 0, .int .i64 0, .int .i64 0, .int .i64 0, .int .i64 0, .int .i64 0, .string ⟨#[]⟩, .slice none 0 0]), 15, 176) := by kernel_rfl
/-- One operation more is laid behind. -/
theorem callPush {w : World} {L n : Nat} {v : Value} {xs : List Value} (h : w.ownsRow L 69 15 v n xs) (hL : L ≤ w.heap.size) (hn : n + 1 ≤ 1000000000) (x : CV) (ty : TypeId) (h1 : ∃ a m c, x.2.1 = .slice a m c) (h2 : ∃ a m c, x.2.2 = .slice a m c) :
    ∃ g cap w', (Builtin.append_ #[23, 23] ty #[v, .slice (some ⟨w.heap.size, 0, none⟩) 1 1]).run Tryz.prog (w.alloc (.cells ⟨clOf x⟩ 69)) = .ok (.slice (some ⟨g, 0, none⟩) (n + 1) cap) w' ∧ w'.ownsRow L 69 15 (.slice (some ⟨g, 0, none⟩) (n + 1) cap) (n + 1) (xs ++ clOf x) ∧ w.grownBy w' v.ownBlock ∧ (v.ownBlock = some g ∨ w.heap.size ≤ g) := by
  obtain ⟨i0, hi, hz0, hz1, hz2⟩ := info_partsV infoCall
  obtain ⟨a1, m1, c1, e1⟩ := h1
  obtain ⟨a2, m2, c2, e2⟩ := h2
  have bA : Below w.heap.size w (w.alloc (.cells ⟨clOf x⟩ 69)) := alloc_v (Below.refl _ _) _
  have e := World.alloc_heap_new w (.cells ⟨clOf x⟩ 69)
  have hA : (w.alloc (.cells ⟨clOf x⟩ 69)).ownsRow L 69 15 v n xs := h.kept (grown_of_below (r := none) bA) (by cases v.ownBlock <;> simp)
  obtain ⟨g, cap, w', hrun, A1, A2, A3, A4⟩ := run_append_lies (P := Tryz.prog) (w.alloc (.cells ⟨clOf x⟩ 69)) 23 ty L 69 i0 _ 15 176 Tryz.underlying23 hi hz0 hz1 hz2 rfl (by decide) v n xs hA ⟨w.heap.size, 0, none⟩ 1 1 (clOf x) rfl (fun j u hj => by
      rw [Addr.add_lit, Nat.zero_add]
      exact cells_at e j u (by simpa using hj)) (fun u hu => by
      simp only [clOf, clCells, List.mem_cons, List.not_mem_nil, or_false, e1, e2] at hu
      rcases hu with rfl | rfl | rfl | rfl | rfl | rfl | rfl | rfl | rfl | rfl | rfl | rfl | rfl | rfl | rfl <;> rfl) (by omega) (by unfold maxLen; omega) (by omega) (by rw [World.size_alloc]; omega) (w.heap.size + 1) (by rw [World.size_alloc])
  refine ⟨g, cap, w', hrun, A1, ?_, ?_⟩
  · exact (World.grownBy_alloc w _ _).trans A2
  · rcases A3 with A3 | A3
    · exact .inl A3
    · exact .inr (by omega)
/-- An operation just begun is laid behind the others: the gathering behind it. -/
theorem pushed (w3 w4 : World) (B h0 L gb mp mo mm k n : Nat) (g : Gs) (v0 v1 v2 : Value) (rs : List CV) (hg : GAt w3 B h0 L gb mp mo mm k n g v0 v1 v2 rs) (hF : Fix h0 L gb mp mo mm) (x : CV) (q cap : Nat) (hr : w4.ownsRow L 69 15 (.slice (some ⟨q, 0, none⟩) (g.calls.length + 1) cap) (g.calls.length + 1) (crow rs ++ clOf x)) (gr : w3.grownBy w4 v2.ownBlock) (_lie : v2.ownBlock = some q ∨ w3.heap.size ≤ q) (hx : CvAt w3 B n x) :
    GAt (w4.setCell ⟨gb, 4, none⟩ (.slice (some ⟨q, 0, none⟩) (g.calls.length + 1) cap)) B h0 L gb mp mo mm k n { g with calls := g.calls ++ [x.1] } v0 v1 (.slice (some ⟨q, 0, none⟩) (g.calls.length + 1) cap) (rs ++ [x]) ∧ Below h0 w3 (w4.setCell ⟨gb, 4, none⟩ (.slice (some ⟨q, 0, none⟩) (g.calls.length + 1) cap)) ∧ w4.heap[gb]? = w3.heap[gb]? := by
  obtain ⟨⟨l1, l2, l3, l4, l5⟩, ⟨u1, u2, u3, u4⟩, ⟨d1, d2, d3, d4, d5, d6⟩⟩ := hF
  have hgl := (Array.getElem?_eq_some_iff.1 hg.blk).1
  have hngb : some gb ≠ v2.ownBlock := fun e => by have := (hg.cl.lt gb e.symm).1; omega
  have blk4 := gr.block gb hgl hngb
  have blk5 := heap_setCell_same _ _ 4 _ _ (.slice (some ⟨q, 0, none⟩) (g.calls.length + 1) cap) (blk4.trans hg.blk)
  have kA : Keeps (fun y => v2.ownBlock = some y) w3 w4 := Keeps.grown gr (fun r e => e)
  have kB := Keeps.set w4 gb 4 (.slice (some ⟨q, 0, none⟩) (g.calls.length + 1) cap)
  have kC : Keeps (fun y => v2.ownBlock = some y ∨ y = gb) w3 (w4.setCell ⟨gb, 4, none⟩ (.slice (some ⟨q, 0, none⟩) (g.calls.length + 1) cap)) := (kA.mono (fun y _ h => .inl h)).trans kB (fun y _ h => .inr h)
  have bl := kC.toBelow (B := h0) (by have := hg.sz; omega) (fun y h => by
    rcases h with h | rfl
    · have := (hg.cl.lt y h).1; omega
    · exact l1)
  have hrow : ∀ {v : Value} {t : TypeId} {z m : Nat} {xs : List Value}, w3.ownsRow L t z v m xs → t ≠ 69 → ∀ y, v.ownBlock = some y → ¬ (v2.ownBlock = some y ∨ y = gb) := fun hr ht y ey h => by
    rcases h with h | rfl
    · exact row_types hr hg.cl ht _ ey h
    · have := (hr.lt _ ey).1; omega
  have hmap : ∀ m, m < L → gb ≠ m → ¬ (v2.ownBlock = some m ∨ m = gb) := fun m hm hne h => by
    rcases h with h | h
    · have := (hg.cl.lt m h).1; omega
    · exact hne h.symm
  refine ⟨⟨blk5, kC.row hg.pr (hrow hg.pr (by decide)), kC.row hg.ob (hrow hg.ob (by decide)), ?_, ?_, fun y hy => ?_, hg.bh, kC.num hg.np (hmap mp u2 d1), kC.num hg.no (hmap mo u3 d2), kC.opn hg.om (hmap mm u4 d3), hg.dis, Nat.le_trans hg.sz kC.size⟩, bl, blk4⟩
  · rw [crow_snoc, List.length_append, List.length_singleton]
    exact kB.row hr (fun y ey h => by have := (hr.lt y ey).1; omega)
  · rw [List.map_append, hg.same]
    rfl
  · rcases List.mem_append.1 hy with hy | hy
    · exact (hg.its y hy).below (bl.mono hg.bh)
    · simp at hy
      subst hy
      exact hx.below (bl.mono hg.bh)
theorem step_ex {P : Program} (w : World) {ops : Array Oper} {o : Oper} {a : Act} {K : Act → World → Prop} {Q : Exit → Act → World → Prop} {E : Prop} (hgd : o.guard = none) (s x : Operand) (t : TypeId)
    (ho : o.op = .call { callee := .builtin .append, args := #[s, x], argTypes := #[t, t] }) (vs vx : Value) (hs : a.eval s = vs) (hx : a.eval x = vx) (R : Value → World → Prop)
    (hr : ∃ v' w', (Builtin.append_ #[t, t] o.type #[vs, vx]).run P w = .ok v' w' ∧ R v' w') (h : ∀ v' w', R v' w' → K (a.put o.dst v') w') :
    if Region.wanted o (yielded ops a.tmps) = true then Oper.wp P o a w K Q else E := by
  obtain ⟨v', w', hr, hR⟩ := hr
  have hw : Region.wanted o (yielded ops a.tmps) = true := by simp [Region.wanted, hgd]
  rw [if_pos hw]
  unfold Oper.wp execOp
  simp only [ho, resolve, invoke, builtin, Sem.run_bind, Sem.run_pure, Result.andThen_ok, List.map_toArray, List.map_cons, List.map_nil, hs, hx, hr]
  exact h v' w' hR
/-- A region that draws its order and is the last statement. -/
theorem region_last {P : Program} {c : Code} {Q : Exit → Act → World → Prop} {a : Act} {w : World} (R : World → Prop) (h : c.wp P (fun e a W => e = Exit.normal ∧ a.defers = [] ∧ R W) a w) (k : ∀ a W, a.defers = [] → R W → Q .normal a W) : c.wp P Q a w :=
  wp_mono h (fun e a' W hq => by
    obtain ⟨rfl, hd, hR⟩ := hq
    exact k a' W hd hR)
/-- A process has an operation open: the gathering behind it. -/
theorem opened (w1 w2 : World) (B h0 L gb mp mo mm k n : Nat) (g : Gs) (v0 v1 v2 : Value) (rs : List CV) (hg : GAt w1 B h0 L gb mp mo mm k n g v0 v1 v2 rs) (hF : Fix h0 L gb mp mo mm) (o' : List (Nat × Nat)) (kp : Keeps (fun y => y = mm) w1 w2) (ho : OpnM w2 mm (k + 1) o') :
    GAt w2 B h0 L gb mp mo mm (k + 1) n { g with opn := o' } v0 v1 v2 rs ∧ Below h0 w1 w2 := by
  obtain ⟨⟨l1, l2, l3, l4, l5⟩, ⟨u1, u2, u3, u4⟩, ⟨d1, d2, d3, d4, d5, d6⟩⟩ := hF
  have hgl := (Array.getElem?_eq_some_iff.1 hg.blk).1
  have bl := kp.toBelow (B := h0) (by have := hg.sz; omega) (fun y h => by subst h; exact l4)
  have hrow : ∀ {v : Value} {t : TypeId} {z m : Nat} {xs : List Value}, w1.ownsRow L t z v m xs → ∀ y, v.ownBlock = some y → ¬ (y = mm) := fun hr y ey h => by have := (hr.lt _ ey).1; omega
  exact ⟨⟨(kp.block gb hgl d3).trans hg.blk, kp.row hg.pr (hrow hg.pr), kp.row hg.ob (hrow hg.ob), kp.row hg.cl (hrow hg.cl), hg.same, fun y hy => (hg.its y hy).below (bl.mono hg.bh), hg.bh, kp.num hg.np d5, kp.num hg.no d6, ho, hg.dis, Nat.le_trans hg.sz kp.size⟩, bl⟩
set_option maxRecDepth 100000 in
set_option maxHeartbeats 20000000 in
theorem takeInv_k (e : Evn) (at' : Nat) (w : World) (B h0 L gb mp mo mm k n : Nat) (g : Gs) (v0 v1 v2 : Value) (rs : List CV) (s : Value) (hg : GAt w B h0 L gb mp mo mm k (n + 1) g v0 v1 v2 rs) (hF : Fix h0 L gb mp mo mm) (h0l : h0 ≤ w.heap.size) (he : EvOk e) (hk : e.kind = 1) (hz : e.val.size ≤ 1000000000) (hi : ItemsAt w B (n + 1) s e.val.items)
    (hno : g.procs.idxOf e.proc ∉ g.opn.map Prod.fst) (hp : g.procs.length + 1 ≤ 1000000000) (hob : g.objs.length + 1 ≤ 1000000000) (hcl : g.calls.length + 1 ≤ 1000000000) (_hat : at' ≤ 1000000000) (hkb : k ≤ 1000000000) :
    Calls Tryz.prog 46 #[.pointer (some ⟨gb, 0, none⟩), .int .i64 (at' : Int), .agg (evCells e s)] w fun r w' => (∃ v, r = .returned v) ∧ (∃ v0' v1' v2' rs', GAt w' B h0 L gb mp mo mm (k + 1) (n + 1) (takeM g at' e) v0' v1' v2' rs') ∧ Below h0 w w' := by
  obtain ⟨W, hW⟩ : ∃ W, w.alloc (.cells (evCells e s) 61) = W := ⟨_, rfl⟩
  have bW : Below w.heap.size w W := by rw [← hW]; exact alloc_v (Below.refl _ _) _
  have e1 : W.heap[w.heap.size]? = some (.cells (evCells e s) 61 (0, 0)) := by rw [← hW]; exact World.alloc_heap_new w _
  have zW : w.heap.size < W.heap.size := (Array.getElem?_eq_some_iff.1 e1).1
  have gW := hg.below bW h0l hF
  have HN := hide (fun (U : World) (b : Below W.heap.size W U) => number_procs U B h0 L gb mp mo mm k (n + 1) g v0 v1 v2 rs (gW.below b (by omega) hF) hF e.proc he.proc hp)
  have HE := hide (fun (U w1 : World) (b : Below W.heap.size W U) (kp : Keeps (fun x => x = gb ∨ x = mp ∨ v0.ownBlock = some x) U w1) => (show w1.heap[w.heap.size]? = some (.cells (evCells e s) 61 (0, 0)) from by
    refine (kp.block _ (by have := b.size; omega) (fun h => ?_)).trans ((b.block _ zW).trans e1)
    have := hg.sz
    have := hF.hi
    rcases h with h | h | h
    · omega
    · omega
    · have := (hg.pr.lt _ h).2; omega))
  have HV1 := hide (fun x (h : v1.ownBlock = some x) => (hg.ob.lt x h).2)
  have HV2 := hide (fun x (h : v2.ownBlock = some x) => (hg.cl.lt x h).2)
  have c1 := cells_at e1 1 _ rfl
  have hsz0 := hg.sz
  obtain ⟨sa, sc, rfl, _⟩ := hi.len
  clear hg gW e1
  go_enter Tryz.func46, Tryz.ntmps46
  go_wp2
  go_region_with (go_at_call 61; refine (HN.out _ (by first | exact Below.refl _ _ | exact (Below.refl _ _).drew | exact (Below.refl _ _).drew.drew)).mono ?_; rintro r w1 ⟨rfl, v0', g1, b1, k1⟩)
  have f1 := HE.out W.drew w1 (Below.refl _ _).drew k1
  have d0 := cells_at f1 0 _ rfl
  have hk2 : (e.kind == 2) = false := by simp [hk]
  have m4 := cells_at g1.blk 4 _ rfl
  have m5 := cells_at g1.blk 5 _ rfl
  obtain ⟨ca, cc, e2⟩ := rowLen g1.cl
  change v2 = .slice ca g.calls.length cc at e2
  subst e2
  obtain ⟨D, hown, hD1, hD2, hD3, hD4⟩ := g1.om
  have hpi : g.procs.idxOf e.proc ≤ 1000000000 := by have := List.idxOf_le_length (a := e.proc) (l := g.procs); omega
  have hkey := keyInt _ hpi
  obtain ⟨w2, hup, hown2, hgr2⟩ := World.ownsMap.update (w := w1.drew) (val := .int .i64 (g.calls.length : Int)) hown hLawInt Tryz.underlying100 (by unfold maxLen; omega) hkey (plainElem_int Tryz.underlying3 (WalkArith.wf_i64 (by omega)))
  have k2 : Keeps (fun y => y = mm) w1 w2 := Keeps.grown (w := w1.drew) hgr2 (fun r e => by cases e; rfl) |> fun h => ⟨h.os, h.tape, h.output, h.size, h.block⟩
  obtain ⟨g2, b2⟩ := opened w1 w2 B h0 L gb mp mo mm k (n + 1) _ v0' v1 _ rs g1 hF _ k2 ⟨_, hown2, opn_put (hown.tidy hLawInt) hno hD1 hD2 hD3 hD4⟩
  have HG2 := hide g2
  have HB := hide (((bW.mono h0l).drew.trans b1).trans b2)
  have F1 := hide f1
  have HK2 := hide k2
  clear g1 g2 b1 b2 k1 k2 hown hown2 hgr2 hD1 hD2 hD3 hD4 f1 c1
  go_wp2
  go_region
  clear m4 m5 hup d0 hk2
  have f2 := (HK2.out.block w.heap.size (Array.getElem?_eq_some_iff.1 F1.out).1 (by have := hF.hi; omega)).trans F1.out
  have t2 := cells_at f2 2 _ rfl
  have t3 := cells_at f2 3 _ rfl
  have t4 := cells_at f2 4 _ rfl
  have t5 := cells_at f2 5 _ rfl
  have t6 := cells_at f2 6 _ rfl
  have t7 := cells_at f2 7 _ rfl
  have t8 := cells_at f2 8 _ rfl
  have n4 := cells_at HG2.out.blk 4 _ rfl
  have l2 : w.heap.size < w2.heap.size := (Array.getElem?_eq_some_iff.1 f2).1
  have hL2 := HG2.out.sz
  have HN2 := hide (fun (U : World) (b : Below w2.heap.size w2 U) => number_objs U B h0 L gb mp mo mm (k + 1) (n + 1) _ v0' v1 _ rs (HG2.out.below b (by have := hF.lo; omega) hF) hF e.obj he.obj hob)
  have HE3 := hide (fun (U w3 : World) (b : Below w2.heap.size w2 U) (kp : Keeps (fun x => x = gb ∨ x = mo ∨ v1.ownBlock = some x) U w3) => (show w3.heap[w.heap.size]? = some (.cells (evCells e (.slice sa e.val.items.length sc)) 61 (0, 0)) from by
    refine (kp.block _ (by have := b.size; omega) (fun h => ?_)).trans ((b.block _ l2).trans f2)
    have := hF.hi
    rcases h with h | h | h
    · omega
    · omega
    · have := HV1.out _ h; omega))
  have hbh := HG2.out.bh
  have HIT := hide (hi.below (HB.out.mono hbh))
  have HOK := hide (And.intro he.op (And.intro he.val hz))
  have HP3 := hide (fun (w3 : World) (v1' : Value) (g3 : GAt w3 B h0 L gb mp mo mm (k + 1) (n + 1) ⟨addN g.procs e.proc, addN g.objs e.obj, g.calls, (g.procs.idxOf e.proc, g.calls.length) :: g.opn⟩ v0' v1' (.slice ca g.calls.length cc) rs) (b3 : Below h0 w2 w3) (f3 : w3.heap[w.heap.size]? = some (.cells (evCells e (.slice sa e.val.items.length sc)) 61 (0, 0))) (j : Nat) => (show ∃ v' w', (Builtin.append_ #[23, 23] 23 #[.slice ca g.calls.length cc, .slice (some ⟨w3.heap.size, 0, none⟩) 1 1]).run Tryz.prog ((w3.drewN j).alloc (.cells ⟨clOf (⟨g.procs.idxOf e.proc, g.objs.idxOf e.obj, e.op, e.val, at', -1, zeroVl⟩, .slice sa e.val.items.length sc, .slice none 0 0)⟩ 69)) = .ok v' w' ∧
      ((∃ q cap, v' = .slice (some ⟨q, 0, none⟩) (g.calls.length + 1) cap) ∧ w'.cell? ⟨gb, 4, none⟩ = some (.slice ca g.calls.length cc) ∧ w'.frozen? ⟨gb, 4, none⟩ = false ∧ (∃ v0' v1' v2' rs', GAt (w'.setCell ⟨gb, 4, none⟩ v') B h0 L gb mp mo mm (k + 1) (n + 1) (takeM g at' e) v0' v1' v2' rs') ∧ Below h0 w (w'.setCell ⟨gb, 4, none⟩ v') ∧ w'.heap[w.heap.size]? = some (.cells (evCells e (.slice sa e.val.items.length sc)) 61 (0, 0))) from by
    have g3' := g3.below (below_drewN w3 j) (by have := g3.sz; have := hF.lo; omega) hF
    obtain ⟨q, cap, w4, hrun, r4, gr4, lie4⟩ := callPush g3'.cl g3'.sz hcl (⟨g.procs.idxOf e.proc, g.objs.idxOf e.obj, e.op, e.val, at', -1, zeroVl⟩, .slice sa e.val.items.length sc, .slice none 0 0) 23 ⟨_, _, _, rfl⟩ ⟨_, _, _, rfl⟩
    have hcv : CvAt (w3.drewN j) B (n + 1) (⟨g.procs.idxOf e.proc, g.objs.idxOf e.obj, e.op, e.val, at', -1, zeroVl⟩, .slice sa e.val.items.length sc, .slice none 0 0) :=
      ⟨(HIT.out.below (b3.mono hbh)).below ((below_drewN w3 j).mono (by have := g3.sz; have := hF.lo; omega)), ⟨none, 0, rfl, by simp [zeroVl], fun j h => absurd h (by simp [zeroVl])⟩, HOK.out.2.1, (by refine ⟨by show 0 ≤ 1048576; omega, ?_, ?_⟩ <;> (show (-9223372036854775808 : Int) ≤ 0 ∧ (0 : Int) ≤ 9223372036854775807; omega)), HOK.out.2.2, (by show zeroVl.size ≤ _; rw [Vl.size_eq]; simp [zeroVl]), HOK.out.1⟩
    obtain ⟨p1, p2, p3⟩ := pushed (w3.drewN j) w4 B h0 L gb mp mo mm (k + 1) (n + 1) _ v0' v1' _ rs g3' hF _ q cap r4 gr4 lie4 hcv
    have hb := p3.trans g3'.blk
    have htk : takeM g at' e = ⟨addN g.procs e.proc, addN g.objs e.obj, g.calls ++ [⟨g.procs.idxOf e.proc, g.objs.idxOf e.obj, e.op, e.val, at', -1, zeroVl⟩], (g.procs.idxOf e.proc, g.calls.length) :: g.opn⟩ := by unfold takeM; rw [if_neg (by omega)]
    refine ⟨_, w4, hrun, ⟨_, _, rfl⟩, cells_at hb 4 _ rfl, frozen_at hb 4, ⟨_, _, _, _, by rw [htk]; exact p1⟩, ((HB.out.trans b3).trans ((below_drewN w3 j).mono (by have := g3.sz; have := hF.lo; omega))).trans p2, (gr4.block w.heap.size (Array.getElem?_eq_some_iff.1 f3).1 (fun h => by have := HV2.out _ h.symm; omega)).trans f3⟩))
  have HBL := hide (fun (U w3 : World) (b : Below w2.heap.size w2 U) (b3 : Below h0 U w3) => (show Below h0 w2 w3 from (b.mono (by have := hF.lo; omega)).trans b3))
  have HSS := hide (fun (U : World) (fU : U.heap[w.heap.size]? = some (.cells (evCells e (.slice sa e.val.items.length sc)) 61 (0, 0))) (cU : U.cell? ⟨gb, 4, none⟩ = some (.slice ca g.calls.length cc)) => (show U.cell? ⟨w.heap.size, 2, none⟩ = some (.string (bsN e.obj)) ∧ U.cell? ⟨w.heap.size, 3, none⟩ = some (.string (bsN e.op)) ∧ U.cell? ⟨w.heap.size, 4, none⟩ = some (.int .i64 e.val.kind) ∧ U.cell? ⟨w.heap.size, 5, none⟩ = some (.int .i64 e.val.int) ∧ U.cell? ⟨w.heap.size, 6, none⟩ = some (.int .i64 e.val.im) ∧ U.cell? ⟨w.heap.size, 7, none⟩ = some (.string e.val.text) ∧ U.cell? ⟨w.heap.size, 8, none⟩ = some (.slice sa e.val.items.length sc) ∧ U.cell? ⟨gb, 4, none⟩ = some (.slice ca g.calls.length cc) from
    ⟨cells_at fU 2 _ rfl, cells_at fU 3 _ rfl, cells_at fU 4 _ rfl, cells_at fU 5 _ rfl, cells_at fU 6 _ rfl, cells_at fU 7 _ rfl, cells_at fU 8 _ rfl, cU⟩))
  have HS2 := hide (HSS.out w2.drew f2 n4)
  clear f2 HG2 HIT HOK HN HE HV1 HV2
  go_wp2
  refine region_last (fun wx => (∃ v0' v1' v2' rs', GAt wx B h0 L gb mp mo mm (k + 1) (n + 1) (takeM g at' e) v0' v1' v2' rs') ∧ Below h0 w wx) ?first ?rest
  case rest =>
    intro act wx hd hR
    refine bodyPost_end (results_none rfl _ _ _) hd ?_
    exact ⟨⟨_, rfl⟩, hR⟩
  case first =>
    refine wp_region_E 22 23 (fun U => U.cell? ⟨w.heap.size, 2, none⟩ = some (.string (bsN e.obj)) ∧ U.cell? ⟨w.heap.size, 3, none⟩ = some (.string (bsN e.op)) ∧ U.cell? ⟨w.heap.size, 4, none⟩ = some (.int .i64 e.val.kind) ∧ U.cell? ⟨w.heap.size, 5, none⟩ = some (.int .i64 e.val.int) ∧ U.cell? ⟨w.heap.size, 6, none⟩ = some (.int .i64 e.val.im) ∧ U.cell? ⟨w.heap.size, 7, none⟩ = some (.string e.val.text) ∧ U.cell? ⟨w.heap.size, 8, none⟩ = some (.slice sa e.val.items.length sc) ∧ U.cell? ⟨gb, 4, none⟩ = some (.slice ca g.calls.length cc)) (by kernel_rfl) (by kernel_rfl) (by kernel_rfl) (by kernel_rfl) (by decide) (by kernel_rfl) ?_
    intro hsk inv
    refine wpAnyE_take (i := 0) (v := ?v0) hsk inv (by decide) rfl (by kernel_rfl) (by kernel_rfl) (fun _ _ _ h => h) (Or.inl ⟨by rfl, ?hy0⟩) HS2.out ?rest0
    case hy0 => intro U hU; (try dsimp only at hU); go_simp; (try with_reducible rfl)
    case rest0 =>
    clear inv
    intro inv
    (try simp only [Act.put, List.setIfInBounds_toArray])
    refine wpAnyE_take (i := 1) (v := ?v1) hsk inv (by decide) rfl (by kernel_rfl) (by kernel_rfl) (fun _ _ _ h => h) (Or.inl ⟨by rfl, ?hy1⟩) HS2.out ?rest1
    case hy1 => intro U hU; (try dsimp only at hU); go_simp; (try with_reducible rfl)
    case rest1 =>
    clear inv
    intro inv
    (try simp only [Act.put])
    refine wpAnyE_take (i := 2) (v := ?v2) hsk inv (by decide) rfl (by kernel_rfl) (by kernel_rfl) (fun _ _ _ h => h) (Or.inl ⟨by rfl, ?hy2⟩) HS2.out ?rest2
    case hy2 => intro U hU; (try dsimp only at hU); go_simp; (try with_reducible rfl)
    case rest2 =>
    clear inv
    intro inv
    (try simp only [Act.put])
    refine wpAnyE_take (i := 3) (v := ?v3) hsk inv (by decide) rfl (by kernel_rfl) (by kernel_rfl) (fun _ _ _ h => h) (Or.inl ⟨by rfl, ?hy3⟩) HS2.out ?rest3
    case hy3 => intro U hU; (try dsimp only at hU); go_simp; (try with_reducible rfl)
    case rest3 =>
    clear inv
    intro inv
    (try simp only [Act.put])
    refine wpAnyE_take (i := 4) (v := ?v4) hsk inv (by decide) rfl (by kernel_rfl) (by kernel_rfl) (fun _ _ _ h => h) (Or.inl ⟨by rfl, ?hy4⟩) HS2.out ?rest4
    case hy4 => intro U hU; (try dsimp only at hU); go_simp; (try with_reducible rfl)
    case rest4 =>
    clear inv
    intro inv
    (try simp only [Act.put])
    refine wpAnyE_take (i := 5) (v := ?v5) hsk inv (by decide) rfl (by kernel_rfl) (by kernel_rfl) (fun _ _ _ h => h) (Or.inl ⟨by rfl, ?hy5⟩) HS2.out ?rest5
    case hy5 => intro U hU; (try dsimp only at hU); go_simp; (try with_reducible rfl)
    case rest5 =>
    clear inv
    intro inv
    (try simp only [Act.put])
    refine wpAnyE_take (i := 6) (v := ?v6) hsk inv (by decide) rfl (by kernel_rfl) (by kernel_rfl) (fun _ _ _ h => h) (Or.inl ⟨by rfl, ?hy6⟩) HS2.out ?rest6
    case hy6 => intro U hU; (try dsimp only at hU); go_simp; (try with_reducible rfl)
    case rest6 =>
    clear inv
    intro inv
    (try simp only [Act.put])
    refine wpAnyE_take (i := 7) (v := ?v7) hsk inv (by decide) rfl (by kernel_rfl) (by kernel_rfl) (fun _ _ _ h => h) (Or.inl ⟨by rfl, ?hy7⟩) HS2.out ?rest7
    case hy7 => intro U hU; (try dsimp only at hU); go_simp; (try with_reducible rfl)
    case rest7 =>
    clear inv
    intro inv
    (try simp only [Act.put])
    refine wpAnyE_take (i := 8) (v := ?v8) hsk inv (by decide) rfl (by kernel_rfl) (by kernel_rfl) (fun _ _ _ h => h) (Or.inl ⟨by rfl, ?hy8⟩) HS2.out ?rest8
    case hy8 => intro U hU; (try dsimp only at hU); go_simp; (try with_reducible rfl)
    case rest8 =>
    clear inv
    intro inv
    (try simp only [Act.put])
    refine wpAnyE_take (i := 9) (v := ?v9) hsk inv (by decide) rfl (by kernel_rfl) (by kernel_rfl) (fun _ _ _ h => h) (Or.inl ⟨by rfl, ?hy9⟩) HS2.out ?rest9
    case hy9 => intro U hU; (try dsimp only at hU); go_simp; (try with_reducible rfl)
    case rest9 =>
    clear inv
    intro inv
    (try simp only [Act.put])
    refine wpAnyE_take (i := 10) (v := ?v10) hsk inv (by decide) rfl (by kernel_rfl) (by kernel_rfl) (fun _ _ _ h => h) (Or.inl ⟨by rfl, ?hy10⟩) HS2.out ?rest10
    case hy10 => intro U hU; (try dsimp only at hU); go_simp; (try with_reducible rfl)
    case rest10 =>
    clear inv
    intro inv
    (try simp only [Act.put])
    refine wpAnyE_take (i := 12) (v := ?v12) hsk inv (by decide) rfl (by kernel_rfl) (by kernel_rfl) (fun _ _ _ h => h) (Or.inl ⟨by rfl, ?hy12⟩) HS2.out ?rest12
    case hy12 => intro U hU; (try dsimp only at hU); go_simp; (try with_reducible rfl)
    case rest12 =>
    clear inv
    intro inv
    (try simp only [Act.put])
    refine wpAnyE_take (i := 13) (v := ?v13) hsk inv (by decide) rfl (by kernel_rfl) (by kernel_rfl) (fun _ _ _ h => h) (Or.inl ⟨by rfl, ?hy13⟩) HS2.out ?rest13
    case hy13 => intro U hU; (try dsimp only at hU); go_simp; (try with_reducible rfl)
    case rest13 =>
    clear inv
    intro inv
    (try simp only [Act.put])
    refine wpAnyE_take (i := 14) (v := ?v14) hsk inv (by decide) rfl (by kernel_rfl) (by kernel_rfl) (fun _ _ _ h => h) (Or.inl ⟨by rfl, ?hy14⟩) HS2.out ?rest14
    case hy14 => intro U hU; (try dsimp only at hU); go_simp; (try with_reducible rfl)
    case rest14 =>
    clear inv
    intro inv
    (try simp only [Act.put])
    refine wpAnyE_take (i := 15) (v := ?v15) hsk inv (by decide) rfl (by kernel_rfl) (by kernel_rfl) (fun _ _ _ h => h) (Or.inl ⟨by rfl, ?hy15⟩) HS2.out ?rest15
    case hy15 => intro U hU; (try dsimp only at hU); go_simp; (try with_reducible rfl)
    case rest15 =>
    clear inv
    intro inv
    (try simp only [Act.put])
    refine wpAnyE_take (i := 16) (v := ?v16) hsk inv (by decide) rfl (by kernel_rfl) (by kernel_rfl) (fun _ _ _ h => h) (Or.inl ⟨by rfl, ?hy16⟩) HS2.out ?rest16
    case hy16 => intro U hU; (try dsimp only at hU); go_simp; (try with_reducible rfl)
    case rest16 =>
    clear inv
    intro inv
    (try simp only [Act.put])
    refine wpAnyE_one (i := 11) inv (by decide) (by kernel_rfl) rfl (fun K hK => ?_)
    go_simp
    go_at_call 61
    refine (HN2.out _ (below_drewN _ 1)).mono ?_
    rintro r w3 ⟨rfl, v1', g3, b3, k3⟩
    have bX : Below h0 w2 w3 := HBL.out _ _ (below_drewN _ 1) b3
    have f3 : w3.heap[w.heap.size]? = some (.cells (evCells e (.slice sa e.val.items.length sc)) 61 (0, 0)) := HE3.out _ _ (below_drewN _ 1) k3
    have y4 := cells_at g3.blk 4 _ rfl
    have HS3 := hide (HSS.out w3 f3 y4)
    have lg3 : gb < w3.heap.size := (Array.getElem?_eq_some_iff.1 g3.blk).1
    have lw3 : w.heap.size < w3.heap.size := (Array.getElem?_eq_some_iff.1 f3).1
    have HPU := hide (HP3.out w3 v1' g3 bX f3)
    have bA : Below w3.heap.size w3 (w3.alloc (.cells ⟨clOf (⟨g.procs.idxOf e.proc, g.objs.idxOf e.obj, e.op, e.val, at', -1, zeroVl⟩, .slice sa e.val.items.length sc, .slice none 0 0)⟩ 69)) := alloc_v (Below.refl _ _) _
    have HS4 := hide (HSS.out (w3.alloc (.cells ⟨clOf (⟨g.procs.idxOf e.proc, g.objs.idxOf e.obj, e.op, e.val, at', -1, zeroVl⟩, .slice sa e.val.items.length sc, .slice none 0 0)⟩ 69)) ((bA.block _ lw3).trans f3) ((bA.cell (p := ⟨gb, 4, none⟩) lg3).trans y4))
    clear g3 b3 k3 bX f3 bA
    refine hK.out _ _ HS3.out ?_
    clear hK K inv
    intro inv
    (try simp only [Act.put, List.setIfInBounds_toArray, List.set_cons_zero, List.set_cons_succ])
    refine wpAnyE_take (i := 17) (v := ?v17) hsk inv (by decide) rfl (by kernel_rfl) (by kernel_rfl) (fun _ _ _ h => h) (Or.inl ⟨by rfl, ?hy17⟩) HS3.out ?rest17
    case hy17 => intro U hU; (try dsimp only at hU); go_simp; (try with_reducible rfl)
    case rest17 =>
    clear inv
    intro inv
    (try simp only [Act.put, List.setIfInBounds_toArray])
    refine wpAnyE_one (i := 18) inv (by decide) (by kernel_rfl) rfl (fun K hK => ?_)
    go_simp
    refine hK.out _ _ HS4.out ?_
    clear hK K inv
    intro inv
    (try simp only [Act.put, List.setIfInBounds_toArray, List.set_cons_zero, List.set_cons_succ])
    refine wpAnyE_one (i := 19) inv (by decide) (by kernel_rfl) rfl (fun K hK => ?_)
    refine step_ex _ (by rfl) (.tmp 56) (.tmp 70) 23 (by rfl) _ _ (by rfl) (by rfl) _ (HPU.out 0) ?_
    rintro v4 w4 ⟨⟨q4, cap4, rfl⟩, cc4, zz4, gg4, bb4, f4⟩
    have HH4 := hide (And.intro gg4 bb4)
    have HS5 := hide (HSS.out w4 f4 cc4)
    clear gg4 bb4 f4
    refine hK.out _ _ HS5.out ?_
    clear hK K inv
    intro inv
    (try simp only [Act.put, List.setIfInBounds_toArray])
    refine wpAnyE_take (i := 20) (v := ?v20) hsk inv (by decide) rfl (by kernel_rfl) (by kernel_rfl) (fun _ _ _ h => h) (Or.inl ⟨by rfl, ?hy20⟩) HS5.out ?rest20
    case hy20 => intro U hU; (try dsimp only at hU); go_simp; (try with_reducible rfl)
    case rest20 =>
    clear inv
    intro inv
    (try simp only [Act.put])
    refine wpAnyE_take (i := 21) (v := ?v21) hsk inv (by decide) rfl (by kernel_rfl) (by kernel_rfl) (fun _ _ _ h => h) (Or.inl ⟨by rfl, ?hy21⟩) HS5.out ?rest21
    case hy21 => intro U hU; (try dsimp only at hU); go_simp; (try with_reducible rfl)
    case rest21 =>
    clear inv
    intro inv
    (try simp only [Act.put])
    refine wpAnyE_last (by kernel_rfl) (by kernel_rfl) rfl (fun K hK => ?_)
    go_simp
    exact hK.out _ _ ⟨rfl, rfl, HH4.out⟩
end Go.Proofs.YtnmkggoampkekaaGreatDoor
