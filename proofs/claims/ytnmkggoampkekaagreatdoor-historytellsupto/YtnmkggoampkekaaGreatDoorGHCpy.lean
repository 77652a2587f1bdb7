/- Rows of values of the call's own: which may be written, all the way down, and what they hold. -/
import Derived.Test.YtnmkggoampkekaaGreatDoorGSmr
import Derived.Lib.SmallJoins
import Derived.Lib.SliceRun
import Derived.Deep.RegionLaw
namespace Go.Proofs.YtnmkggoampkekaaGreatDoor
open Go.RowKit

/-- A value that is item j of the row in block g. -/
def ItemCells (w : World) (g j : Nat) (v : Vl) (s : Value) : Prop := w.cell? ⟨g, j * 5, none⟩ = some (.int .i64 v.kind) ∧ w.cell? ⟨g, j * 5 + 1, none⟩ = some (.int .i64 v.int) ∧ w.cell? ⟨g, j * 5 + 2, none⟩ = some (.int .i64 v.im) ∧
  w.cell? ⟨g, j * 5 + 3, none⟩ = some (.string v.text) ∧ w.cell? ⟨g, j * 5 + 4, none⟩ = some s ∧ ∀ i, i < 5 → w.frozen? ⟨g, j * 5 + i, none⟩ = false
theorem ItemCells.kept {w w' : World} {g j : Nat} {v : Vl} {s : Value} (h : ItemCells w g j v s) (hk : w'.heap[g]? = w.heap[g]?) : ItemCells w' g j v s :=
  have hc : ∀ o, w'.cell? ⟨g, o, none⟩ = w.cell? ⟨g, o, none⟩ := fun _ => World.cell?_of_block hk
  ⟨(hc _).trans h.1, (hc _).trans h.2.1, (hc _).trans h.2.2.1, (hc _).trans h.2.2.2.1, (hc _).trans h.2.2.2.2.1, fun i hi => (frozen_of_block hk).trans (h.2.2.2.2.2 i hi)⟩
theorem ItemCells.put {w : World} {g j : Nat} {v : Vl} {s : Value} (h : ItemCells w g j v s) (k : Nat) (hk : j ≠ k) (v0 v1 v2 v3 v4 : Value) : ItemCells (put5 w g (k * 5) v0 v1 v2 v3 v4) g j v s := by
  have out : ∀ x, x < 5 → (put5 w g (k * 5) v0 v1 v2 v3 v4).cell? ⟨g, j * 5 + x, none⟩ = w.cell? ⟨g, j * 5 + x, none⟩ := fun x hx => put5_other (by omega)
  exact ⟨(out 0 (by omega)).trans h.1, (out 1 (by omega)).trans h.2.1, (out 2 (by omega)).trans h.2.2.1, (out 3 (by omega)).trans h.2.2.2.1, (out 4 (by omega)).trans h.2.2.2.2.1, fun i hi => by rw [put5_frozen]; exact h.2.2.2.2.2 i hi⟩
theorem ItemCells.new {w : World} {g k : Nat} {v : Vl} {s : Value} (h : ItemCells w g k v s) (v' : Vl) (s' : Value) : ItemCells (put5 w g (k * 5) (.int .i64 v'.kind) (.int .i64 v'.int) (.int .i64 v'.im) (.string v'.text) s') g k v' s' := by
  obtain ⟨h0, h1, h2, h3, h4, hf⟩ := h
  obtain ⟨p0, p1, p2, p3, p4⟩ := put5_at (v0 := .int .i64 v'.kind) (v1 := .int .i64 v'.int) (v2 := .int .i64 v'.im) (v3 := .string v'.text) (v4 := s') h0 h1 h2 h3 h4
  exact ⟨p0, p1, p2, p3, p4, fun i hi => by rw [put5_frozen]; exact hf i hi⟩
/-- A slice of values in rows of the blocks S that may be written, all the way down, with what they hold. -/
def ItemsS (w : World) (S : Nat → Prop) : Nat → Value → List Vl → Prop
  | 0, _, _ => False
  | n + 1, sl, its => ∃ a c, sl = .slice a its.length c ∧ its.length ≤ 1000000000 ∧ ∀ j (h : j < its.length), ∃ b s', a = some ⟨b, 0, none⟩ ∧ S b ∧ ItemCells w b j its[j] s' ∧ ItemsS w S n s' its[j].items ∧ its[j].ok
theorem ItemsS.kept {w w' : World} {S S' : Nat → Prop} (hk : ∀ b, S b → b < w.heap.size → w'.heap[b]? = w.heap[b]?) (hS : ∀ b, S b → S' b) : ∀ {n : Nat} {sl : Value} {its : List Vl}, ItemsS w S n sl its → ItemsS w' S' n sl its
  | 0, _, _, h => h.elim
  | n + 1, _, its, h => by
    obtain ⟨a, c, e, hl, hc⟩ := h
    refine ⟨a, c, e, hl, fun j hj => ?_⟩
    obtain ⟨b, s', e, hb, h0, h5, h6⟩ := hc j hj
    exact ⟨b, s', e, hS _ hb, h0.kept (hk b hb (World.block_lt_of_cell? w _ h0.1)), ItemsS.kept hk hS h5, h6⟩
theorem ItemsS.more {w : World} {S : Nat → Prop} : ∀ {n : Nat} {sl : Value} {its : List Vl}, ItemsS w S n sl its → ItemsS w S (n + 1) sl its
  | 0, _, _, h => h.elim
  | n + 1, _, its, h => by
    obtain ⟨a, c, e, hl, hc⟩ := h
    refine ⟨a, c, e, hl, fun j hj => ?_⟩
    obtain ⟨b, s', e, hb, h0, h5, h6⟩ := hc j hj
    exact ⟨b, s', e, hb, h0, ItemsS.more h5, h6⟩
theorem ItemsS.in {w : World} {S : Nat → Prop} : ∀ {n : Nat} {sl : Value} {its : List Vl}, ItemsS w S n sl its → ItemsIn w S n sl its
  | 0, _, _, h => h.elim
  | n + 1, _, its, h => by
    obtain ⟨a, c, e, hl, hc⟩ := h
    refine ⟨a, c, e, by unfold maxLen; omega, fun j hj => ?_⟩
    obtain ⟨b, s', e, hb, ⟨h0, h1, h2, h3, h4, _⟩, h5, h6⟩ := hc j hj
    exact ⟨b, 0, s', e, hb, by rw [Nat.zero_add]; exact h0, by rw [Nat.zero_add]; exact h1, by rw [Nat.zero_add]; exact h2, by rw [Nat.zero_add]; exact h3, by rw [Nat.zero_add]; exact h4, ItemsS.in h5, h6⟩
theorem ItemsS.sm {w : World} {S : Nat → Prop} : ∀ {n : Nat} {sl : Value} {its : List Vl}, ItemsS w S n sl its → SmAt w S n sl
  | 0, _, _, h => h.elim
  | n + 1, _, its, h => by
    obtain ⟨a, c, e, hl, hc⟩ := h
    refine ⟨a, its.length, c, e, hl, fun j hj => ?_⟩
    obtain ⟨b, s', e, hb, ⟨h0, h1, h2, h3, h4, h7⟩, h5, h6⟩ := hc j hj
    exact ⟨b, _, _, _, _, s', e, hb, h0, h1, h2, h3, h4, h7, ItemsS.sm h5⟩
end Go.Proofs.YtnmkggoampkekaaGreatDoor

/- slices.Clone of values: a row of one's own, whose items lie where they lay. -/
namespace Go.Proofs.YtnmkggoampkekaaGreatDoor
open Go.RowKit

/-- The items' own slices, as a list. -/
theorem items_list {w : World} {B n b off c m : Nat} {its : List Vl} (hi : ItemsAt w B (n + 1) (.slice (some ⟨b, off, none⟩) m c) its) (h0 : 0 < its.length) : b < B ∧ ∃ ss : List Value, ∃ hl : ss.length = its.length, ∀ j (h : j < its.length), (∀ i, i < 5 → w.cell? ⟨b, off + j * 5 + i, none⟩ = (cells5 its[j] (ss[j]'(by omega)))[i]?) ∧ ItemsAt w B n (ss[j]'(by omega)) its[j].items ∧ its[j].ok := by
  classical
  have hx : ∀ j (h : j < its.length), ∃ s : Value, (∀ i, i < 5 → w.cell? ⟨b, off + j * 5 + i, none⟩ = (cells5 its[j] s)[i]?) ∧ ItemsAt w B n s its[j].items ∧ its[j].ok ∧ b < B := fun j h => by
    obtain ⟨b', off', s', e, hb, h0, h1, h2, h3, h4, h5, h6⟩ := hi.item j h
    cases e
    refine ⟨s', fun i hi => ?_, h5, h6, hb⟩
    have hc : i = 0 ∨ i = 1 ∨ i = 2 ∨ i = 3 ∨ i = 4 := by omega
    rcases hc with rfl | rfl | rfl | rfl | rfl
    · exact h0
    · exact h1
    · exact h2
    · exact h3
    · exact h4
  refine ⟨(hx 0 h0).choose_spec.2.2.2, List.ofFn (fun j : Fin its.length => (hx j.1 j.2).choose), by simp, fun j h => ?_⟩
  have e : (List.ofFn (fun j : Fin its.length => (hx j.1 j.2).choose))[j]'(by simpa using h) = (hx j h).choose := by simp
  rw [e]
  exact ⟨(hx j h).choose_spec.1, (hx j h).choose_spec.2.1, (hx j h).choose_spec.2.2.1⟩
theorem rowC_ones : ∀ {its : List Vl} {ss : List Value}, ss.length = its.length → (∀ s ∈ ss, ∃ a m c, s = .slice a m c) → ∀ u ∈ rowC its ss, u.oneCell' = true
  | [], _, _, _, u, hu => by simp [rowC] at hu
  | x :: l, [], h, _, _, _ => by simp at h
  | x :: l, s :: r, h, hs, u, hu => by
    rw [rowC, List.mem_append] at hu
    rcases hu with hu | hu
    · obtain ⟨a, m, c, rfl⟩ := hs s (by simp)
      simp only [cells5, List.mem_cons, List.not_mem_nil, or_false] at hu
      rcases hu with rfl | rfl | rfl | rfl | rfl <;> rfl
    · exact rowC_ones (by simpa using h) (fun s hs' => hs s (by simp [hs'])) u hu
theorem cloneNilH (a : Option Addr) (c : Nat) (w : World) : Calls Tryz.prog 51 #[.slice a 0 c] w fun e w' => ∃ a' c', e = .returned (.slice a' 0 c') ∧ Below w.heap.size w w' := by
  have hnil := fun w => Lib.run_eql_slice_nil (P := Tryz.prog) w 55 57 a 0 c 0 0 Tryz.underlying55
  cases a with
  | none =>
    go_enter Tryz.func51, Tryz.ntmps51
    go_wp2
    go_ret
    exact ⟨_, _, rfl, Below.refl _ _⟩
  | some ad =>
    go_enter Tryz.func51, Tryz.ntmps51
    go_wp2
    go_ret
    exact ⟨_, _, rfl, alloc_v (Below.refl _ _) _⟩
set_option maxRecDepth 100000 in
set_option maxHeartbeats 1000000 in
theorem cloneH_any (w : World) (B n : Nat) (sl : Value) (its : List Vl) (hi : ItemsAt w B (n + 1) sl its) (hl : its.length ≤ 1000000000) (hB : B ≤ w.heap.size) :
    Calls Tryz.prog 51 #[sl] w fun e w' => ∃ ca cc g, e = .returned (.slice ca its.length cc) ∧ w.heap.size ≤ g ∧ (∀ j (h : j < its.length), ca = some ⟨g, 0, none⟩ ∧ g < w'.heap.size ∧ ∃ s, ItemCells w' g j its[j] s ∧ ItemsAt w B n s its[j].items ∧ its[j].ok) ∧ Below w.heap.size w w' := by
  obtain ⟨a, c, rfl, _⟩ := hi.len
  by_cases h0 : its = []
  · subst h0
    refine (cloneNilH a c w).mono ?_
    rintro e w' ⟨a', c', rfl, hb⟩
    exact ⟨a', c', w.heap.size, rfl, Nat.le_refl _, fun j h => by simp at h, hb⟩
  · have hpos : 0 < its.length := List.length_pos_iff.2 h0
    obtain ⟨ab, ao, _, rfl, _⟩ := hi.item 0 hpos
    obtain ⟨hab, ss, hss, hc⟩ := items_list hi hpos
    obtain ⟨i0, hi0, hz0, hz1, hz2⟩ := info_partsV infoVal
    have hnil := fun w => Lib.run_eql_slice_nil (P := Tryz.prog) w 55 57 (some ⟨ab, ao, none⟩) its.length c 0 0 Tryz.underlying55
    have hlen : (rowC its ss).length = its.length * 5 := rowC_len hss
    have HC := hide hc
    have HONE := hide (rowC_ones hss (fun s hs => by
      obtain ⟨j, hj, rfl⟩ := List.getElem_of_mem hs
      obtain ⟨a', c', e, _⟩ := (hc j (by omega)).2.1.len
      exact ⟨a', _, c', e⟩))
    have habw : ab < w.heap.size := by omega
    clear hc hi
    go_enter Tryz.func51, Tryz.ntmps51
    go_wp2_with (at_builtin; refine wpList_append_own _ rfl _ _ 55 rfl w.heap.size 57 i0 _ 5 64 Tryz.underlying55 hi0 hz0 hz1 hz2 rfl (by decide) _ _ _ rfl (World.ownsRow_made w #[] 0 (Nat.le_refl _) (by unfold maxLen; omega) rfl) ⟨ab, ao, none⟩ its.length c (rowC its ss) rfl hlen ?c1 HONE.out ?c3 ?c4 ?c5 ?_)
    case c1 =>
      intro j u hu
      have hj : j < its.length * 5 := by have := (List.getElem?_eq_some_iff.1 hu).1; omega
      have e := rowC_get hss (j / 5) (by omega) (j % 5) (Nat.mod_lt _ (by omega))
      have e2 := (HC.out (j / 5) (by omega)).1 (j % 5) (Nat.mod_lt _ (by omega))
      rw [show j / 5 * 5 + j % 5 = j by omega] at e
      rw [show ao + j = ao + j / 5 * 5 + j % 5 by omega, e2, ← e, hu]
    case c4 => omega
    · intro v' w1 hown hgrow hne
      have hbel : Below w.heap.size w w1 := ((Below.refl _ _).alloc (Nat.le_refl _) _).grown hgrow (by simp) (fun k hk => by simp [Value.ownBlock] at hk; omega)
      obtain ⟨g, cap, rfl, hg, hg2⟩ := hown.form hpos
      have R := hide (And.intro hown hbel)
      clear hown hgrow hne hbel
      go_wp2
      go_ret
      refine ⟨_, cap, g, rfl, hg, fun j hj => ⟨rfl, hg2, ss[j]'(by omega), ?_, (HC.out j hj).2⟩, R.out.2⟩
      have hr' : ∀ i, i < 5 → w1.cell? ⟨g, j * 5 + i, none⟩ = (cells5 its[j] (ss[j]'(by omega)))[i]? := fun i hi => by
        rw [R.out.1.cellAt (j * 5 + i) (by have := Nat.mul_le_mul_right 5 (show j + 1 ≤ its.length by omega); omega), rowC_get hss j hj i hi]
      exact ⟨hr' 0 (by omega), hr' 1 (by omega), hr' 2 (by omega), hr' 3 (by omega), hr' 4 (by omega), fun i _ => R.out.1.frozenAt _⟩
end Go.Proofs.YtnmkggoampkekaaGreatDoor

/- history's copied: a copy whose rows may be written, all the way down. -/
namespace Go.Proofs.YtnmkggoampkekaaGreatDoor
open Go.RowKit

def HCopyC (n : Nat) : Prop := ∀ (v : Vl) (w : World) (B : Nat) (sl : Value), v.size ≤ 1000000000 → B ≤ w.heap.size → ItemsAt w B n sl v.items →
  Calls Tryz.prog 35 #[.agg (vcells v sl)] w fun e w' => ∃ s', e = .returned (.agg (vcells v s')) ∧ ItemsS w' (fun b => w.heap.size ≤ b ∧ b < w'.heap.size) n s' v.items ∧ Below w.heap.size w w'
set_option maxRecDepth 100000 in
set_option maxHeartbeats 2000000 in
theorem hcopied_step {n : Nat} (hC : HCopyC n) : HCopyC (n + 1) := by
  intro v w B sl hv hB hi
  have hln : v.items.length ≤ 1000000000 := by have := size_len v; omega
  have HSZ := hide (fun (x : Vl) (hx : x ∈ v.items) => (show x.size ≤ 1000000000 from by have := Vl.size_item hx; omega))
  obtain ⟨W, hW⟩ : ∃ W, (w.alloc (.cells (vcells v sl) 57)).alloc (.cells zcells 57) = W := ⟨_, rfl⟩
  have bW : Below w.heap.size w W := by rw [← hW]; exact alloc_v (alloc_v (Below.refl _ _) _) _
  have e1 : W.heap[w.heap.size]? = some (.cells (vcells v sl) 57 (0, 0)) := by rw [← hW]; exact (Below.heap_alloc _ _ _ (by simp)).trans (World.alloc_heap_new w _)
  have e2 : W.heap[w.heap.size + 1]? = some (.cells zcells 57 (0, 0)) := by rw [← hW]; have := World.alloc_heap_new (w.alloc (.cells (vcells v sl) 57)) (.cells zcells 57); rwa [World.size_alloc] at this
  have zW : W.heap.size = w.heap.size + 2 := by rw [← hW]; simp
  have x4 := cells_at e1 4 _ rfl
  have HE1 := hide e1
  have HE2 := hide e2
  have HCL := hide (cloneH_any W B n sl v.items (hi.below (bW.mono hB)) hln (by omega))
  have HC0 := hide hC
  obtain ⟨a, c, rfl, _⟩ := hi.len
  clear hi hC e1 e2
  go_enter Tryz.func35, Tryz.ntmps35
  go_wp2_with (go_at_call 51; refine HCL.out.mono ?_; clear HCL; rintro e w2 ⟨ca, cc, g, rfl, hg, hrow, b2⟩; have f1 := (b2.block w.heap.size (by omega)).trans HE1.out; have f2 := (b2.block (w.heap.size + 1) (by omega)).trans HE2.out; have y4 := cells_at f1 4 _ rfl; have q4 := frozen_at f1 4; have F1 := hide f1; have F2 := hide f2; have B2 := hide b2; have HROW := hide hrow; clear f1 f2 b2 hrow x4)
  obtain ⟨W3, hW3⟩ : ∃ W3, w2.setCell ⟨w.heap.size, 4, none⟩ (.slice ca v.items.length cc) = W3 := ⟨_, rfl⟩
  have g1 : W3.heap[w.heap.size]? = some (.cells (vcells v (.slice ca v.items.length cc)) 57 (0, 0)) := by rw [← hW3]; exact heap_setCell_same _ _ 4 _ _ _ F1.out
  have g2 : W3.heap[w.heap.size + 1]? = some (.cells zcells 57 (0, 0)) := by rw [← hW3]; exact (Below.heap_setCell _ _ _ _ (by show w.heap.size + 1 ≠ w.heap.size; omega)).trans F2.out
  have b3 : Below w.heap.size w W3 := by rw [← hW3]; exact (trans_v bW B2.out).setCell (Nat.le_refl _) _
  have hz3 : W3.heap.size = w2.heap.size := by rw [← hW3]; simp [World.setCell]
  have hz2 := B2.out.size
  have row3 : ∀ j (h : j < v.items.length), ca = some ⟨g, 0, none⟩ ∧ g < W3.heap.size ∧ ∃ s, ItemCells W3 g j v.items[j] s ∧ ItemsAt W3 B n s v.items[j].items ∧ v.items[j].ok := fun j hj => by
    obtain ⟨h1, h2, s, h3, h4, h5⟩ := HROW.out j hj
    have hgb : W3.heap[g]? = w2.heap[g]? := by rw [← hW3]; exact Below.heap_setCell _ _ _ _ (by show g ≠ w.heap.size; omega)
    refine ⟨h1, by omega, s, h3.kept hgb, h4.kept (fun b o hb => World.cell?_of_block ?_), h5⟩
    rw [← hW3]
    exact (Below.heap_setCell _ _ _ _ (by show b ≠ w.heap.size; omega)).trans (B2.out.block b (by omega))
  rw [hW3]
  have G1 := hide g1
  have G2 := hide g2
  have B3 := hide b3
  have R3 := hide row3
  have x0 := cells_at g1 4 _ rfl
  clear g1 g2 b3 row3 hW3 F1 F2 HROW B2 HE1 HE2 y4 q4 hW
  go_wp2
  clear x0
  go_loopw [3, 4, 12] (fun _ _ i wr => ∃ k : Nat, k ≤ v.items.length ∧ i = .int .i64 k ∧ (∀ j (h : j < v.items.length), ∃ s, ItemCells wr g j v.items[j] s ∧ (j < k → ItemsS wr (fun b => g < b ∧ b < wr.heap.size) n s v.items[j].items) ∧ (k ≤ j → ItemsAt wr B n s v.items[j].items)) ∧ wr.heap[w.heap.size]? = some (.cells (vcells v (.slice ca v.items.length cc)) 57 (0, 0)) ∧ wr.heap[w.heap.size + 1]? = some (.cells zcells 57 (0, 0)) ∧ Below w.heap.size w wr ∧ W3.heap.size ≤ wr.heap.size) (fun _ _ i _ => v.items.length - (intOf i).toNat)
  case atStart => exact ⟨0, Nat.zero_le _, rfl, fun j hj => by
    obtain ⟨_, _, s, h1, h2, _⟩ := R3.out j hj
    exact ⟨s, h1, fun h => by omega, fun _ => h2⟩, G1.out, G2.out, B3.out, Nat.le_refl _⟩
  case round =>
    obtain ⟨k, hk, rfl, hrow, h1, h2, hbel, hsz⟩ := hrel
    by_cases hlt : k < v.items.length
    · obtain ⟨rfl, hgl, _, _, _, hok⟩ := R3.out k hlt
      obtain ⟨s, hcel, _, hat⟩ := hrow k hlt
      have hit := hat (Nat.le_refl _)
      obtain ⟨p0, p1, p2, p3, p4, _⟩ := id hcel
      have hgr : g < wr.heap.size := by omega
      have bA : Below wr.heap.size wr (wr.alloc (.cells (vcells v.items[k] s) 57)) := alloc_v (Below.refl _ _) _
      have hitA := hit.below (bA.mono (show B ≤ wr.heap.size by have := hbel.size; omega))
      have HX := hide (HC0.out v.items[k] (wr.alloc (.cells (vcells v.items[k] s) 57)).drew B s (HSZ.out _ (List.getElem_mem hlt)) (by have := hbel.size; have := bA.size; show B ≤ (wr.alloc _).heap.size; omega) (ItemsAt.kept (w := wr.alloc (.cells (vcells v.items[k] s) 57)) (w' := (wr.alloc (.cells (vcells v.items[k] s) 57)).drew) (fun _ _ _ => rfl) hitA))
      have HN := hide (fun (U : World) (s4 : Value) (b : Below (wr.alloc (.cells (vcells v.items[k] s) 57)).heap.size (wr.alloc (.cells (vcells v.items[k] s) 57)) U) (i4 : ItemsS U (fun b => (wr.alloc (.cells (vcells v.items[k] s) 57)).heap.size ≤ b ∧ b < U.heap.size) n s4 v.items[k].items) => (show ItemCells U g k v.items[k] s ∧ (∀ j (h : j < v.items.length), ∃ s, ItemCells (put5 U g (k * 5) (.int .i64 v.items[k].kind) (.int .i64 v.items[k].int) (.int .i64 v.items[k].im) (.string v.items[k].text) s4) g j v.items[j] s ∧ (j < k + 1 → ItemsS (put5 U g (k * 5) (.int .i64 v.items[k].kind) (.int .i64 v.items[k].int) (.int .i64 v.items[k].im) (.string v.items[k].text) s4) (fun b => g < b ∧ b < (put5 U g (k * 5) (.int .i64 v.items[k].kind) (.int .i64 v.items[k].int) (.int .i64 v.items[k].im) (.string v.items[k].text) s4).heap.size) n s v.items[j].items) ∧ (k + 1 ≤ j → ItemsAt (put5 U g (k * 5) (.int .i64 v.items[k].kind) (.int .i64 v.items[k].int) (.int .i64 v.items[k].im) (.string v.items[k].text) s4) B n s v.items[j].items)) ∧ U.heap[w.heap.size]? = some (.cells (vcells v (.slice (some ⟨g, 0, none⟩) v.items.length cc)) 57 (0, 0)) ∧ U.heap[w.heap.size + 1]? = some (.cells zcells 57 (0, 0)) ∧ Below w.heap.size w U ∧ wr.heap.size ≤ U.heap.size from by
        have bU := trans_v bA b
        have hwr := hbel.size
        have hsu := bU.size
        refine ⟨hcel.kept (bU.block g hgr), fun j hj => ?_, (bU.block _ (by omega)).trans h1, (bU.block _ (by omega)).trans h2, trans_v hbel bU, hsu⟩
        by_cases ej : j = k
        · subst ej
          exact ⟨s4, (hcel.kept (bU.block g hgr)).new _ _, fun _ => i4.kept (fun b hb _ => put5_heap (by have := hb.1; rw [World.size_alloc] at this; omega)) (fun b hb => ⟨by have := hb.1; rw [World.size_alloc] at this; omega, by rw [put5_size]; exact hb.2⟩), fun h => by omega⟩
        · obtain ⟨s, c1, c2, c3⟩ := hrow j hj
          refine ⟨s, (c1.kept (bU.block g hgr)).put k ej _ _ _ _ _, fun h => ?_, fun h => ?_⟩
          · exact (c2 (by omega)).kept (fun b hb hb2 => (put5_heap (by have := hb.1; omega)).trans (bU.block b hb2)) (fun b hb => ⟨hb.1, by rw [put5_size]; omega⟩)
          · exact (c3 (by omega)).kept (fun b o hb => World.cell?_of_block ((put5_heap (show b ≠ g by omega)).trans (bU.block b (by omega))))))
      have y4 := cells_at h1 4 _ rfl
      have hlw : w.heap.size < wr.heap.size := (Array.getElem?_eq_some_iff.1 h1).1
      obtain ⟨xx1, yy1, rfl, _⟩ := hit.len
      have hk0 : (0 : Int) ≤ (k : Int) := by omega
      have hk1 : (k : Int) < (v.items.length : Int) := by omega
      clear hrow h1 h2 hcel hat hit hok bA hitA
      have HSB := hide hbel.size
      clear hbel
      generalize v.items[k].items = xi at *
      generalize v.items[k] = x at *
      go_wp2
      go_region_law
        ((go_simp; go_at_call 35; refine HX.out.mono ?_; clear HX; rintro e w4 ⟨s4, rfl, i4, b4'⟩; have b4 : Below (wr.alloc (.cells (vcells x (.slice xx1 xi.length yy1)) 57)).heap.size (wr.alloc (.cells (vcells x (.slice xx1 xi.length yy1)) 57)) w4 := ⟨b4'.os, b4'.tape, b4'.output, b4'.size, b4'.block⟩; have hn := HN.out w4 s4 b4 i4; clear HN; obtain ⟨⟨r0, r1, r2, r3, r4, rf⟩, hn2⟩ := hn; have q0 := rf 0 (by omega); have q1 := rf 1 (by omega); have q2 := rf 2 (by omega); have q3 := rf 3 (by omega); have q4 := rf 4 (by omega); rw [Nat.add_zero] at q0; have k4 := cells_at hn2.2.1 4 _ rfl; have HN2 := hide hn2; obtain ⟨sa4, sc4, rfl, _⟩ := i4.in.len; clear hn2 rf i4 b4 b4'))
      all_goals
        go_wp2
        go_roundw
        case rel =>
          obtain ⟨n1, n2, n3, n4, n5⟩ := HN2.out
          exact ⟨k + 1, by omega, by go_num, n1, (put5_heap (show w.heap.size ≠ g by omega)).trans n2, (put5_heap (show w.heap.size + 1 ≠ g by omega)).trans n3, put5_below n4 (by omega), by rw [put5_size]; omega⟩
        case measure => simp [intOf]; omega
    · have hall : ItemsS wr (fun b => w.heap.size + 2 ≤ b ∧ b < wr.heap.size) (n + 1) (.slice ca v.items.length cc) v.items := ⟨ca, cc, rfl, hln, fun j hj => by
        obtain ⟨s, c1, c2, _⟩ := hrow j hj
        obtain ⟨r1, r2, _, _, _, r3⟩ := R3.out j hj
        exact ⟨g, s, r1, ⟨by omega, by omega⟩, c1, (c2 (by omega)).kept (fun _ _ _ => rfl) (fun b hb => ⟨by omega, hb.2⟩), r3⟩⟩
      have HALL := hide hall
      have x0 := cells_at h1 0 _ rfl
      have x1 := cells_at h1 1 _ rfl
      have x2 := cells_at h1 2 _ rfl
      have x3 := cells_at h1 3 _ rfl
      have x4 := cells_at h1 4 _ rfl
      have y0 := cells_at h2 0 _ rfl
      have y1 := cells_at h2 1 _ rfl
      have y2 := cells_at h2 2 _ rfl
      have y3 := cells_at h2 3 _ rfl
      have y4 := cells_at h2 4 _ rfl
      have q0 := frozen_at h2 0
      have q1 := frozen_at h2 1
      have q2 := frozen_at h2 2
      have q3 := frozen_at h2 3
      have q4 := frozen_at h2 4
      have H2 := hide h2
      have HB2 := hide hbel
      clear hrow h1 h2 hbel hall
      go_wp2
      have g := stored w wr v.kind v.int v.im v.text (.slice ca v.items.length cc) zcells (w.heap.size + 1) (by omega) HB2.out rfl H2.out
      refine bodyPost_ret (results_cell_row rfl _ _ (w.heap.size + 1) _ _ _ _ rfl g.1 Tryz.underlying57 rfl infoVal5) rfl ?_
      exact ⟨.slice ca v.items.length cc, rfl, HALL.out.kept (fun b hb _ => put5_heap (o := 0) (show b ≠ w.heap.size + 1 by omega)) (fun b hb => ⟨by omega, by simpa using hb.2⟩), g.2⟩
theorem hcopied_k : ∀ n, HCopyC n
  | 0 => fun _ _ _ _ _ _ h => h.elim
  | n + 1 => hcopied_step (hcopied_k n)
end Go.Proofs.YtnmkggoampkekaaGreatDoor
