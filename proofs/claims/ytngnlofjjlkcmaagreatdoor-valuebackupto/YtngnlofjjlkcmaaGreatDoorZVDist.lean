/- distinct, and where its row lies; rows of leaves. -/
import Derived.Test.YtngnlofjjlkcmaaGreatDoorZVGather
import Derived.Test.YtngnlofjjlkcmaaGreatDoorZVSrt
namespace Go.Proofs.YtngnlofjjlkcmaaGreatDoor
open Go.RowKit

set_option maxRecDepth 100000 in
/-- distinct of at least one item, and where the row lies. -/
theorem distinct_new (w : World) (B n : Nat) (ad : Addr) (c : Nat) (l : List (Ev w B (n + 1))) (h0 : 0 < l.length) (hl : l.length ≤ 1000000000) (hB : B ≤ w.heap.size) (hc : ∀ j (hj : j < l.length), ad.spot = none ∧ ad.block < B ∧ ∀ i, i < 5 → w.cell? ⟨ad.block, ad.off + j * 5 + i, none⟩ = l[j].cells[i]?) :
    Calls Tryz.prog 62 #[.slice (some ad) l.length c] w fun e w' => ∃ its g c, its.Perm (l.map Ev.v) ∧ its.Pairwise (fun x y => ordV x y ≤ 0) ∧ e = .returned (.slice (some ⟨g, 0, none⟩) (dd likeV its).length c) ∧ w.heap.size ≤ g ∧ g < w'.heap.size ∧ ItemsAt w' w'.heap.size (n + 2) (.slice (some ⟨g, 0, none⟩) (dd likeV its).length c) (dd likeV its) ∧ Below w.heap.size w w' := by
  have H1 := hide (cloneV_k w B (n + 1) ad c l h0 hl hB hc)
  have H2 := hide (fun (w1 : World) (g cap : Nat) (hg : w.heap.size ≤ g) (hg1 : g < w1.heap.size) (hb : Below w.heap.size w w1) (hr : RowV w1 g 0 (l.map Ev.cells)) =>
    sort_k (cap := cap) (l.map (Ev.lift (w1 := w1) fun b o hb' => hb.cell (p := ⟨b, o, none⟩) (Nat.lt_of_lt_of_le hb' hB))) (Nat.le_trans hB hg) hg1 (by rw [List.length_map]; omega) (show RowV w1 g 0 _ from by rw [List.map_map]; exact hr))
  simp only [List.length_map] at H2
  clear hc
  go_enter Tryz.func62, Tryz.ntmps62
  go_wp2_with (first
    | (go_at_call 101; refine H1.out.mono ?_; clear H1; rintro e w1 ⟨g, cap, rfl, hg, hg1, hcap, hrow, hb1⟩)
    | (go_at_call 102; refine (H2.out w1 g cap hg hg1 hb1 hrow).mono ?_; clear H2; rintro e w2 ⟨rfl, l2, hp, hs, hr2, hg2⟩; have H3 := hide (compact_k (cap := cap) l2 (fun b o hb => World.cell?_of_block (hg2.block b (by have := hb1.size; omega) (by intro e; cases e; omega))) (Nat.le_trans hB hg) (by have := hg2.size; omega) (by have := hp.length_eq; rw [List.length_map] at this; omega) (by have := hp.length_eq; rw [List.length_map] at this; omega) hr2); rw [show l2.length = l.length by have := hp.length_eq; rwa [List.length_map] at this] at H3)
    | (go_at_call 103; refine H3.out.mono ?_; clear H3; rintro e w3 ⟨⟨c3, rfl⟩, hr3, hg3⟩))
  go_ret
  have hlen : l2.length = l.length := by have := hp.length_eq; rwa [List.length_map] at this
  have hb2 : Below w.heap.size w w2 := ⟨hg2.os.trans hb1.os, hg2.tape.trans hb1.tape, hg2.output.trans hb1.output, Nat.le_trans hb1.size hg2.size, fun k hk => (hg2.block k (Nat.lt_of_lt_of_le hk hb1.size) (by intro e; cases e; omega)).trans (hb1.block k hk)⟩
  have hb3 : Below w.heap.size w w3 := ⟨hg3.os.trans hb2.os, hg3.tape.trans hb2.tape, hg3.output.trans hb2.output, Nat.le_trans hb2.size hg3.size, fun k hk => (hg3.block k (Nat.lt_of_lt_of_le hk hb2.size) (by intro e; cases e; omega)).trans (hb2.block k hk)⟩
  have hz := hb2.size
  have hz3 := hg3.size
  have hdl : (dd likeV (l2.map Ev.v)).length = (dd Ev.like l2).length := by rw [dd_map Ev.v (eq := Ev.like) (fun _ _ => rfl), List.length_map]
  refine ⟨l2.map Ev.v, g, c3, ?_, ?_, by rw [hdl]; rfl, hg, by have := hg2.size; omega, ?_, hb3⟩
  · have := hp.map Ev.v
    rwa [List.map_map] at this
  · rw [List.pairwise_map]; exact hs
  · rw [hdl, dd_map Ev.v (eq := Ev.like) (fun _ _ => rfl)]
    refine items_of_row (dd Ev.like l2) (fun b o hb => ?_) hr3 (by have := hg2.size; omega) (by have := hg2.size; omega) (by have := dd_len Ev.like l2; unfold maxLen; omega)
    exact ((hb3.cell (p := ⟨b, o, none⟩) (show b < w.heap.size by omega))).trans (hb1.cell (p := ⟨b, o, none⟩) (show b < w.heap.size by omega)).symm
theorem dd_sub {α : Type} (eq : α → α → Bool) : ∀ (l : List α), ∀ x ∈ dd eq l, x ∈ l := by
  have go : ∀ (l : List α) (p : α), ∀ x ∈ ddGo eq p l, x ∈ l := by
    intro l
    induction l with
    | nil => intro p x hx; simp [ddGo] at hx
    | cons a l ih =>
      intro p x hx
      simp only [ddGo] at hx
      split at hx
      · exact List.mem_cons_of_mem _ (ih _ x hx)
      · rcases List.mem_cons.1 hx with rfl | hx
        · simp
        · exact List.mem_cons_of_mem _ (ih _ x hx)
  intro l x hx
  cases l with
  | nil => simp [dd] at hx
  | cons a l =>
    simp only [dd] at hx
    rcases List.mem_cons.1 hx with rfl | hx
    · simp
    · exact List.mem_cons_of_mem _ (go l a x hx)
/-- distinct, by the items. -/
theorem distinct_at (w : World) (B n : Nat) (sl : Value) (its : List Vl) (hi : ItemsAt w B (n + 2) sl its) (h0 : its ≠ []) (hl : its.length ≤ 1000000000) (hB : B ≤ w.heap.size) :
    Calls Tryz.prog 62 #[sl] w fun e w' => ∃ g c, e = .returned (.slice (some ⟨g, 0, none⟩) (dd likeV (srt its)).length c) ∧ w.heap.size ≤ g ∧ g < w'.heap.size ∧ ItemsAt w' w'.heap.size (n + 2) (.slice (some ⟨g, 0, none⟩) (dd likeV (srt its)).length c) (dd likeV (srt its)) ∧ Below w.heap.size w w' := by
  obtain ⟨a, c, rfl, _⟩ := hi.len
  obtain ⟨l, h1, h2⟩ := hi.evs
  have hlen : its.length = l.length := by rw [← h1, List.length_map]
  have hpos : 0 < l.length := by
    rw [← hlen]
    exact List.length_pos_iff.2 h0
  obtain ⟨b, off, rfl, _, _⟩ := h2 0 hpos
  have := distinct_new w B n ⟨b, off, none⟩ c l hpos (by omega) hB fun j hj => by
    obtain ⟨b', off', e, hb, hc⟩ := h2 j hj
    cases e
    exact ⟨rfl, hb, hc⟩
  rw [h1, ← hlen] at this
  refine this.mono ?_
  rintro e w' ⟨s, g, c', hp, hs, he, k⟩
  obtain rfl := srt_only hp hs
  exact ⟨g, c', he, k⟩
/-- A row of leaves lies in its own block alone. -/
theorem leaves_in {w : World} {C n g len c : Nat} {its : List Vl} (h : ItemsAt w C (n + 2) (.slice (some ⟨g, 0, none⟩) len c) its) (hl : ∀ x ∈ its, x.items = []) : ItemsIn w (fun b => b = g) (n + 2) (.slice (some ⟨g, 0, none⟩) len c) its := by
  obtain ⟨a, c', e, hm, hc⟩ := h
  cases e
  refine ⟨_, _, rfl, hm, fun j hj => ?_⟩
  obtain ⟨b, off, s', e, hb, h0, h1, h2, h3, h4, h5, h6⟩ := hc j hj
  cases e
  refine ⟨_, _, s', rfl, rfl, h0, h1, h2, h3, h4, ?_, h6⟩
  have e := hl its[j] (List.getElem_mem hj)
  rw [e] at h5 ⊢
  obtain ⟨sa, sc, rfl, _⟩ := h5.len
  exact ⟨sa, sc, rfl, by unfold maxLen; simp, fun j h => by simp at h⟩
end Go.Proofs.YtngnlofjjlkcmaaGreatDoor
