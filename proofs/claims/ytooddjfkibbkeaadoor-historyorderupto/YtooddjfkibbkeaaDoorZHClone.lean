/- slices.Clone of values: a row of one's own, whose items lie where they lay. -/
import Derived.Test.YtooddjfkibbkeaaDoorZACells
import Derived.Lib.SmallJoins
import Derived.Lib.SliceRun
namespace Go.Proofs.YtooddjfkibbkeaaDoor
open Go.RowKit

/-- The items' own slices, as a list. -/
theorem items_list {w : World} {B n b off c m : Nat} {its : List Vl} (hi : ItemsAt w B (n + 1) (.slice (some ⟨b, off, none⟩) m c) its) (h0 : 0 < its.length) : b < B ∧ ∃ ss : List Value, ∃ hl : ss.length = its.length, ∀ j (h : j < its.length), (∀ i, i < 5 → w.cell? ⟨b, off + j * 5 + i, none⟩ = (cells5 its[j] (ss[j]'(by omega)))[i]?) ∧ ItemsAt w B n (ss[j]'(by omega)) its[j].items ∧ its[j].ok := by
  classical
  have hx : ∀ j (h : j < its.length), ∃ s : Value, (∀ i, i < 5 → w.cell? ⟨b, off + j * 5 + i, none⟩ = (cells5 its[j] s)[i]?) ∧ ItemsAt w B n s its[j].items ∧ its[j].ok ∧ b < B := fun j h => by
    obtain ⟨b', off', s', e, hb, h0, h1, h2, h3, h4, h5, h6⟩ := hi.item j h
    cases e
    refine ⟨s', fun i hi => ?_, h5, h6, hb⟩
    have hc : i = 0 ∨ i = 1 ∨ i = 2 ∨ i = 3 ∨ i = 4 := by omega
    rcases hc with rfl | rfl | rfl | rfl | rfl
    · exact h0
    · exact h1
    · exact h2
    · exact h3
    · exact h4
  refine ⟨(hx 0 h0).choose_spec.2.2.2, List.ofFn (fun j : Fin its.length => (hx j.1 j.2).choose), by simp, fun j h => ?_⟩
  have e : (List.ofFn (fun j : Fin its.length => (hx j.1 j.2).choose))[j]'(by simpa using h) = (hx j h).choose := by simp
  rw [e]
  exact ⟨(hx j h).choose_spec.1, (hx j h).choose_spec.2.1, (hx j h).choose_spec.2.2.1⟩
theorem rowC_ones : ∀ {its : List Vl} {ss : List Value}, ss.length = its.length → (∀ s ∈ ss, ∃ a m c, s = .slice a m c) → ∀ u ∈ rowC its ss, u.oneCell' = true
  | [], _, _, _, u, hu => by simp [rowC] at hu
  | x :: l, [], h, _, _, _ => by simp at h
  | x :: l, s :: r, h, hs, u, hu => by
    rw [rowC, List.mem_append] at hu
    rcases hu with hu | hu
    · obtain ⟨a, m, c, rfl⟩ := hs s (by simp)
      simp only [cells5, List.mem_cons, List.not_mem_nil, or_false] at hu
      rcases hu with rfl | rfl | rfl | rfl | rfl <;> rfl
    · exact rowC_ones (by simpa using h) (fun s hs' => hs s (by simp [hs'])) u hu
theorem cloneNilH (a : Option Addr) (c : Nat) (w : World) : Calls Tryd.prog 43 #[.slice a 0 c] w fun e w' => ∃ a' c', e = .returned (.slice a' 0 c') ∧ Below w.heap.size w w' := by
  have hnil := fun w => Lib.run_eql_slice_nil (P := Tryd.prog) w 40 42 a 0 c 0 0 Tryd.underlying40
  cases a with
  | none =>
    go_enter Tryd.func43, Tryd.ntmps43
    go_wp2
    go_ret
    exact ⟨_, _, rfl, Below.refl _ _⟩
  | some ad =>
    go_enter Tryd.func43, Tryd.ntmps43
    go_wp2
    go_ret
    exact ⟨_, _, rfl, alloc_v (Below.refl _ _) _⟩
set_option maxRecDepth 100000 in
set_option maxHeartbeats 1000000 in
theorem cloneH_any (w : World) (B n : Nat) (sl : Value) (its : List Vl) (hi : ItemsAt w B (n + 1) sl its) (hl : its.length ≤ 1000000000) (hB : B ≤ w.heap.size) :
    Calls Tryd.prog 43 #[sl] w fun e w' => ∃ ca cc g, e = .returned (.slice ca its.length cc) ∧ w.heap.size ≤ g ∧ (∀ j (h : j < its.length), ca = some ⟨g, 0, none⟩ ∧ g < w'.heap.size ∧ ∃ s, ItemCells w' g j its[j] s ∧ ItemsAt w B n s its[j].items ∧ its[j].ok) ∧ Below w.heap.size w w' := by
  obtain ⟨a, c, rfl, _⟩ := hi.len
  by_cases h0 : its = []
  · subst h0
    refine (cloneNilH a c w).mono ?_
    rintro e w' ⟨a', c', rfl, hb⟩
    exact ⟨a', c', w.heap.size, rfl, Nat.le_refl _, fun j h => by simp at h, hb⟩
  · have hpos : 0 < its.length := List.length_pos_iff.2 h0
    obtain ⟨ab, ao, _, rfl, _⟩ := hi.item 0 hpos
    obtain ⟨hab, ss, hss, hc⟩ := items_list hi hpos
    obtain ⟨i0, hi0, hz0, hz1, hz2⟩ := info_partsV infoVal
    have hnil := fun w => Lib.run_eql_slice_nil (P := Tryd.prog) w 40 42 (some ⟨ab, ao, none⟩) its.length c 0 0 Tryd.underlying40
    have hlen : (rowC its ss).length = its.length * 5 := rowC_len hss
    have HC := hide hc
    have HONE := hide (rowC_ones hss (fun s hs => by
      obtain ⟨j, hj, rfl⟩ := List.getElem_of_mem hs
      obtain ⟨a', c', e, _⟩ := (hc j (by omega)).2.1.len
      exact ⟨a', _, c', e⟩))
    have habw : ab < w.heap.size := by omega
    clear hc hi
    go_enter Tryd.func43, Tryd.ntmps43
    go_wp2_with (at_builtin; refine wpList_append_own _ rfl _ _ 40 rfl w.heap.size 42 i0 _ 5 64 Tryd.underlying40 hi0 hz0 hz1 hz2 rfl (by decide) _ _ _ rfl (World.ownsRow_made w #[] 0 (Nat.le_refl _) (by unfold maxLen; omega) rfl) ⟨ab, ao, none⟩ its.length c (rowC its ss) rfl hlen ?c1 HONE.out ?c3 ?c4 ?c5 ?_)
    case c1 =>
      intro j u hu
      have hj : j < its.length * 5 := by have := (List.getElem?_eq_some_iff.1 hu).1; omega
      have e := rowC_get hss (j / 5) (by omega) (j % 5) (Nat.mod_lt _ (by omega))
      have e2 := (HC.out (j / 5) (by omega)).1 (j % 5) (Nat.mod_lt _ (by omega))
      rw [show j / 5 * 5 + j % 5 = j by omega] at e
      rw [show ao + j = ao + j / 5 * 5 + j % 5 by omega, e2, ← e, hu]
    case c4 => omega
    · intro v' w1 hown hgrow hne
      have hbel : Below w.heap.size w w1 := ((Below.refl _ _).alloc (Nat.le_refl _) _).grown hgrow (by simp) (fun k hk => by simp [Value.ownBlock] at hk; omega)
      obtain ⟨g, cap, rfl, hg, hg2⟩ := hown.form hpos
      have R := hide (And.intro hown hbel)
      clear hown hgrow hne hbel
      go_wp2
      go_ret
      refine ⟨_, cap, g, rfl, hg, fun j hj => ⟨rfl, hg2, ss[j]'(by omega), ?_, (HC.out j hj).2⟩, R.out.2⟩
      have hr' : ∀ i, i < 5 → w1.cell? ⟨g, j * 5 + i, none⟩ = (cells5 its[j] (ss[j]'(by omega)))[i]? := fun i hi => by
        rw [R.out.1.cellAt (j * 5 + i) (by have := Nat.mul_le_mul_right 5 (show j + 1 ≤ its.length by omega); omega), rowC_get hss j hj i hi]
      exact ⟨hr' 0 (by omega), hr' 1 (by omega), hr' 2 (by omega), hr' 3 (by omega), hr' 4 (by omega), fun i _ => R.out.1.frozenAt _⟩
end Go.Proofs.YtooddjfkibbkeaaDoor
