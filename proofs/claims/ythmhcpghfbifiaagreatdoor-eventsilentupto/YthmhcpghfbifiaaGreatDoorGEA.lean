/- A region that draws its order: what is read is taken first where all that may come ahead of it leaves what is read as it was; no last operation is asked for. -/
import Derived.Deep.RegionHeld
import Derived.StillTail
import Derived.Test.YthmhcpghfbifiaaGreatDoorGVDcA
import Derived.Test.YthmhcpghfbifiaaGreatDoorZVCopied
import Derived.Test.YthmhcpghfbifiaaGreatDoorGE4
import Derived.Test.YthmhcpghfbifiaaGreatDoorGHBase
namespace Go.Proofs.YthmhcpghfbifiaaGreatDoor
open Go.RowKit

section
variable {P : Program} {ops : Array Oper} {Q : Exit → Act → World → Prop} {md : Region.Mode} {S : World → Prop}
/-- Whatever order is picked from here on, and S holds behind every operation that is carried out. -/
def wpAnyG (P : Program) (md : Region.Mode) (ops : Array Oper) (Q : Exit → Act → World → Prop) (S : World → Prop) : Nat → Array Bool → Act → World → Prop
  | 0, listed, a, w => Region.ready md ops listed = [] ∧ Q .normal a w
  | fuel + 1, listed, a, w =>
    (Region.ready md ops listed = [] → Q .normal a w) ∧
    ∀ i ∈ Region.ready md ops listed, wpOp P ops Q i (fun a' w' => S w' ∧ wpAnyG P md ops Q S fuel (listed.setIfInBounds i true) a' w') a w
theorem wpAny_of_G : ∀ (fuel : Nat) (listed : Array Bool) (a : Act) (w : World), wpAnyG P md ops Q S fuel listed a w → wpAny P md ops Q fuel listed a w
  | 0, _, _, _, h => h
  | fuel + 1, _, _, _, h => ⟨h.1, fun i hi => wpOp_mono (fun a' w' h' => wpAny_of_G fuel _ a' w' h'.2) (h.2 i hi)⟩
theorem wpAnyG_first {i : Nat} {oi : Oper} {v : Value} (hi : ops[i]? = some oi) (hsel : ∀ (j : Nat) (o : Oper) cs b, ops[j]? = some o → o.op ≠ .select cs b)
    (hQ : ∀ c a w, Q (.panic c) (a.put oi.dst v) w → Q (.panic c) a w) :
    ∀ (fuel : Nat) (listed : Array Bool) (a : Act) (w : World),
      (∀ j oj, ops[j]? = some oj → j ≠ i → listed.getD j true = false → (∀ e ∈ oj.after, Region.binds md e = true → e.on ≠ i) → oi.apart ops oj = true) →
      i ∈ Region.ready md ops listed → YieldsIf P ops S oi v a → S w →
      wpAnyG P md ops Q S fuel (listed.setIfInBounds i true) (a.put oi.dst v) w → wpAnyG P md ops Q S (fuel + 1) listed a w := by
  intro fuel
  induction fuel with
  | zero =>
    intro listed a w _ hr hy hS H
    refine ⟨fun h => (by rw [h] at hr; cases hr), fun j hj => ?_⟩
    by_cases hji : j = i
    · subst hji; exact hy.wpOp hi hS ⟨hS, H⟩
    · have := ready_mono hj hji
      rw [H.1] at this
      cases this
  | succ fuel ih =>
    intro listed a w hfree hr hy hS H
    refine ⟨fun h => (by rw [h] at hr; cases hr), fun j hj => ?_⟩
    by_cases hji : j = i
    · subst hji; exact hy.wpOp hi hS ⟨hS, H⟩
    · have h1 := H.2 j (ready_mono hj hji)
      obtain ⟨hjun, oj, hoj, hall⟩ := mem_ready.1 hj
      have hun := (mem_ready.1 hr).1
      have hnot : ∀ e ∈ oj.after, Region.binds md e = true → e.on ≠ i := fun e he hb heq => by
        have h1 := hall e he hb
        rw [heq, getD_both hun] at h1
        cases h1
      have h2 := wpOp_putIf hoj (hfree j oj hoj hji hjun hnot) (fun cs b => hsel i oi cs b hi) (fun cs b => hsel j oj cs b hoj) hQ hy h1
      have hfree' : ∀ k ok, ops[k]? = some ok → k ≠ i → (listed.setIfInBounds j true).getD k true = false →
          (∀ e ∈ ok.after, Region.binds md e = true → e.on ≠ i) → oi.apart ops ok = true := fun k ok hk hki hun hno => by
        refine hfree k ok hk hki ?_ hno
        by_cases hjk : j = k
        · subst hjk; exact hjun
        · rw [getD_set_ne true hjk] at hun; exact hun
      refine wpOp_mono (fun a' w' h3 => ⟨h3.2.1, ih (listed.setIfInBounds j true) a' w' hfree' (ready_mono hr (Ne.symm hji)) h3.1 h3.2.1 ?_⟩) h2
      rw [Array.setIfInBounds_comm _ _ hji]
      exact h3.2.2
/-- Number i, which reads what S tells, is taken first. -/
theorem wpAnyG_take {i : Nat} {oi : Oper} {v : Value} {fuel : Nat} {listed : Array Bool} {a : Act} {w : World} (k : Region.noSelect ops = true) (hi : ops[i]? = some oi)
    (hf : Region.free md ops listed i = true) (hr : (Region.ready md ops listed).contains i = true)
    (hQ : ∀ c a w, Q (.panic c) (a.put oi.dst v) w → Q (.panic c) a w) (hy : YieldsIf P ops S oi v a) (hS : S w)
    (h : wpAnyG P md ops Q S fuel (listed.setIfInBounds i true) (a.put oi.dst v) w) : wpAnyG P md ops Q S (fuel + 1) listed a w :=
  wpAnyG_first hi (Region.noSelect_spec k) hQ fuel listed a w (Region.free_spec hi hf) (by simpa using hr) hy hS h
theorem wpAnyG_op {i : Nat} {o : Oper} {fuel : Nat} {listed : Array Bool} {a : Act} {w : World} (hi : ops[i]? = some o)
    (h : ∀ K : Act → World → Prop, Hid (∀ a' w', S w' → wpAnyG P md ops Q S fuel (listed.setIfInBounds i true) a' w' → K a' w') → if Region.wanted o (yielded ops a.tmps) = true then o.wp P a w K Q else K (a.put o.dst undef) w) : wpOp P ops Q i (fun a' w' => S w' ∧ wpAnyG P md ops Q S fuel (listed.setIfInBounds i true) a' w') a w := by
  have h1 := h _ (hide (fun a' w' h1 h2 => (⟨h1, h2⟩ : S w' ∧ wpAnyG P md ops Q S fuel (listed.setIfInBounds i true) a' w')))
  unfold wpOp
  rw [hi]
  dsimp only
  split
  · rename_i hw
    rw [if_pos hw] at h1
    exact .inl h1
  · rename_i hw
    rw [if_neg hw] at h1
    exact h1
/-- One operation alone may come up. -/
theorem wpAnyG_one {i : Nat} {o : Oper} {fuel : Nat} {listed : Array Bool} {a : Act} {w : World} (hr : Region.ready md ops listed = [i]) (hi : ops[i]? = some o)
    (h : ∀ K : Act → World → Prop, Hid (∀ a' w', S w' → wpAnyG P md ops Q S fuel (listed.setIfInBounds i true) a' w' → K a' w') → if Region.wanted o (yielded ops a.tmps) = true then o.wp P a w K Q else K (a.put o.dst undef) w) : wpAnyG P md ops Q S (fuel + 1) listed a w := by
  refine ⟨fun h0 => (by rw [hr] at h0; cases h0), fun j hj => ?_⟩
  rw [hr] at hj
  obtain rfl : j = i := by simpa using hj
  exact wpAnyG_op hi h
/-- Two operations may come up. -/
theorem wpAnyG_two {i j : Nat} {o o' : Oper} {fuel : Nat} {listed : Array Bool} {a : Act} {w : World} (hr : Region.ready md ops listed = [i, j]) (hi : ops[i]? = some o) (hj : ops[j]? = some o')
    (h : ∀ K : Act → World → Prop, Hid (∀ a' w', S w' → wpAnyG P md ops Q S fuel (listed.setIfInBounds i true) a' w' → K a' w') → if Region.wanted o (yielded ops a.tmps) = true then o.wp P a w K Q else K (a.put o.dst undef) w)
    (h' : ∀ K : Act → World → Prop, Hid (∀ a' w', S w' → wpAnyG P md ops Q S fuel (listed.setIfInBounds j true) a' w' → K a' w') → if Region.wanted o' (yielded ops a.tmps) = true then o'.wp P a w K Q else K (a.put o'.dst undef) w) : wpAnyG P md ops Q S (fuel + 1) listed a w := by
  refine ⟨fun h0 => (by rw [hr] at h0; cases h0), fun k hk => ?_⟩
  rw [hr] at hk
  have hk' : k = i ∨ k = j := by simpa using hk
  rcases hk' with rfl | rfl
  · exact wpAnyG_op hi h
  · exact wpAnyG_op hj h'
theorem wpAnyG_end {fuel : Nat} {listed : Array Bool} {a : Act} {w : World} (hr : Region.ready md ops listed = []) (h : Q .normal a w) : wpAnyG P md ops Q S fuel listed a w := by
  cases fuel with
  | zero => exact ⟨hr, h⟩
  | succ fuel => exact ⟨fun _ => h, fun i hi => (by rw [hr] at hi; cases hi)⟩
theorem wp_region_G {id : Nat} {a : Act} {w : World} (n : Nat) (S : World → Prop) (hm : P.follows .mixedOrders = true) (hn : ops.size = n)
    (h : wpAnyG P .any ops Q S n (Array.replicate n false) a w.drew) : (Code.region id ops true).wp P Q a w := by
  subst hn
  exact wp_region_any hm (wpAny_of_G _ _ _ _ h)
end
end Go.Proofs.YthmhcpghfbifiaaGreatDoor

/- A row of cells laid over a block, one by one. -/
namespace Go.Proofs.YthmhcpghfbifiaaGreatDoor
open Go.RowKit

/-- Values laid into a block's cells from a place on. -/
def putN (W : World) (b : Nat) : Nat → List Value → World
  | _, [] => W
  | i, v :: r => putN (W.setCell ⟨b, i, none⟩ v) b (i + 1) r
theorem set_take (c : List Value) (i : Nat) (v : Value) (h : i < c.length) : (c.set i v).take (i + 1) = c.take i ++ [v] := by
  rw [List.take_succ_eq_append_getElem (by simpa using h), List.take_set_of_le (Nat.le_refl i)]
  simp
theorem putN_at {b : Nat} {t : TypeId} : ∀ (l : List Value) (i : Nat) (W : World) (c : List Value), W.heap[b]? = some (.cells ⟨c⟩ t (0, 0)) → i + l.length = c.length → (putN W b i l).heap[b]? = some (.cells ⟨c.take i ++ l⟩ t (0, 0))
  | [], i, W, c, h, hl => by
    rw [putN, List.take_of_length_le (by simp at hl; omega), List.append_nil]
    exact h
  | v :: r, i, W, c, h, hl => by
    rw [List.length_cons] at hl
    have h1 := heap_setCell_same W b i _ _ v h
    rw [List.setIfInBounds_toArray] at h1
    have h2 := putN_at r (i + 1) _ _ h1 (by rw [List.length_set]; omega)
    rw [set_take _ _ _ (by omega), List.append_assoc] at h2
    exact h2
theorem putN_other {b k : Nat} (hk : k ≠ b) : ∀ (l : List Value) (i : Nat) (W : World), (putN W b i l).heap[k]? = W.heap[k]?
  | [], _, _ => rfl
  | _ :: r, i, _ => (putN_other hk r (i + 1) _).trans (Below.heap_setCell _ _ _ _ hk)
theorem putN_grown {b : Nat} : ∀ (l : List Value) (i : Nat) (W : World), W.grownBy (putN W b i l) (some b)
  | [], _, W => grownBy_refl W _
  | v :: r, i, W => grown_more (grownBy_setCell W b i v) (putN_grown r (i + 1) _)
theorem putN_size {b : Nat} : ∀ (l : List Value) (i : Nat) (W : World), (putN W b i l).heap.size = W.heap.size
  | [], _, _ => rfl
  | v :: r, i, W => by rw [putN, putN_size r (i + 1)]; simp [World.setCell]
theorem putN_far {w W : World} {b : Nat} {r : Option Nat} (h : w.grownBy W r) (hb : w.heap.size ≤ b) (l : List Value) (i : Nat) : w.grownBy (putN W b i l) r := by
  refine ⟨(putN_grown l i W).os.trans h.os, (putN_grown l i W).tape.trans h.tape, (putN_grown l i W).output.trans h.output, by rw [putN_size]; exact h.size, fun k hk hne => ?_⟩
  rw [putN_other (by omega)]
  exact h.block k hk hne
/-- A value and a fault laid into blocks of their own. -/
theorem two_put (w Y : World) (k i m : Int) (t : ByteArray) (sl : Value) (f0 f1 f2 f3 : Int)
    (hY : ((((((((((w.alloc (.cells zcells 46)).alloc (.cells #[.int .i64 0, .int .i64 0, .int .i64 0, .int .i64 0] 34)).setCell ⟨w.heap.size, 0, none⟩ (.int .i64 k)).setCell ⟨w.heap.size, 1, none⟩ (.int .i64 i)).setCell ⟨w.heap.size, 2, none⟩ (.int .i64 m)).setCell ⟨w.heap.size, 3, none⟩ (.string t)).setCell ⟨w.heap.size, 4, none⟩ sl).setCell ⟨w.heap.size + 1, 0, none⟩ (.int .i64 f0)).setCell ⟨w.heap.size + 1, 1, none⟩ (.int .i64 f1)).setCell ⟨w.heap.size + 1, 2, none⟩ (.int .i64 f2)).setCell ⟨w.heap.size + 1, 3, none⟩ (.int .i64 f3) = Y) :
    Y.heap[w.heap.size]? = some (.cells #[.int .i64 k, .int .i64 i, .int .i64 m, .string t, sl] 46 (0, 0)) ∧ Y.heap[w.heap.size + 1]? = some (.cells #[.int .i64 f0, .int .i64 f1, .int .i64 f2, .int .i64 f3] 34 (0, 0)) ∧ Below w.heap.size w Y := by
  obtain ⟨W, hW⟩ : ∃ W, (w.alloc (.cells zcells 46)).alloc (.cells #[.int .i64 0, .int .i64 0, .int .i64 0, .int .i64 0] 34) = W := ⟨_, rfl⟩
  have bW : Below w.heap.size w W := by rw [← hW]; exact alloc_v (alloc_v (Below.refl _ _) _) _
  have e1 : W.heap[w.heap.size]? = some (.cells ⟨[.int .i64 0, .int .i64 0, .int .i64 0, .string ⟨#[]⟩, .slice none 0 0]⟩ 46 (0, 0)) := by rw [← hW]; exact (Below.heap_alloc _ _ _ (by simp)).trans (World.alloc_heap_new w _)
  have e2 : W.heap[w.heap.size + 1]? = some (.cells ⟨[.int .i64 0, .int .i64 0, .int .i64 0, .int .i64 0]⟩ 34 (0, 0)) := by
    rw [← hW]
    have := World.alloc_heap_new (w.alloc (.cells zcells 46)) (.cells #[.int .i64 0, .int .i64 0, .int .i64 0, .int .i64 0] 34)
    rwa [World.size_alloc] at this
  have h1 := putN_at [.int .i64 k, .int .i64 i, .int .i64 m, .string t, sl] 0 W _ e1 rfl
  have h2 := putN_at [.int .i64 f0, .int .i64 f1, .int .i64 f2, .int .i64 f3] 0 _ _ ((putN_other (b := w.heap.size) (by omega) [.int .i64 k, .int .i64 i, .int .i64 m, .string t, sl] 0 W).trans e2) rfl
  have h3 := (putN_other (b := w.heap.size + 1) (by omega) [.int .i64 f0, .int .i64 f1, .int .i64 f2, .int .i64 f3] 0 (putN W w.heap.size 0 [.int .i64 k, .int .i64 i, .int .i64 m, .string t, sl])).trans h1
  have g := putN_far (putN_far (grown_of_below (r := none) bW) (Nat.le_refl _) [.int .i64 k, .int .i64 i, .int .i64 m, .string t, sl] 0) (Nat.le_succ _) [.int .i64 f0, .int .i64 f1, .int .i64 f2, .int .i64 f3] 0
  rw [hW] at hY
  have e : putN (putN W w.heap.size 0 [.int .i64 k, .int .i64 i, .int .i64 m, .string t, sl]) (w.heap.size + 1) 0 [.int .i64 f0, .int .i64 f1, .int .i64 f2, .int .i64 f3] = Y := hY
  rw [e] at h2 h3 g
  exact ⟨h3, h2, ⟨g.os, g.tape, g.output, g.size, fun k hk => g.block k hk (by simp)⟩⟩
end Go.Proofs.YthmhcpghfbifiaaGreatDoor
