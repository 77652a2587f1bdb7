/- Clone of a row of values; distinct. -/
import Derived.Test.YtngnlofjjlkcmaaGreatDoorZVCompact
namespace Go.Proofs.YtngnlofjjlkcmaaGreatDoor
open Go.RowKit

theorem list_of {α : Type} {P : Nat → α → Prop} : ∀ n, (∀ j, j < n → ∃ x, P j x) → ∃ l : List α, l.length = n ∧ ∀ j (h : j < l.length), P j l[j]
  | 0, _ => ⟨[], rfl, fun j h => by simp at h⟩
  | n + 1, h => by
    obtain ⟨l, h1, h2⟩ := list_of n fun j hj => h j (by omega)
    obtain ⟨x, hx⟩ := h n (by omega)
    refine ⟨l ++ [x], by simp [h1], fun j hj => ?_⟩
    by_cases e : j < l.length
    · rw [List.getElem_append_left e]; exact h2 j e
    · have : j = n := by simp at hj; omega
      subst this
      rw [List.getElem_append_right (by omega)]
      simpa using hx
/-- Items, each with where its own items lie. -/
theorem ItemsAt.evs {w : World} {B n : Nat} {a : Option Addr} {len c : Nat} {its : List Vl} (h : ItemsAt w B (n + 1) (.slice a len c) its) : ∃ l : List (Ev w B n), l.map Ev.v = its ∧ ∀ j (hj : j < l.length), ∃ b off, a = some ⟨b, off, none⟩ ∧ b < B ∧ ∀ i, i < 5 → w.cell? ⟨b, off + j * 5 + i, none⟩ = l[j].cells[i]? := by
  obtain ⟨l, h1, h2⟩ := list_of (P := fun j (x : Ev w B n) => (∃ h : j < its.length, x.v = its[j]) ∧ ∃ b off, a = some ⟨b, off, none⟩ ∧ b < B ∧ ∀ i, i < 5 → w.cell? ⟨b, off + j * 5 + i, none⟩ = x.cells[i]?) its.length fun j hj => by
    obtain ⟨b, off, s', e, hb, p0, p1, p2, p3, p4, p5, p6⟩ := h.item j hj
    refine ⟨⟨its[j], s', p5, p6⟩, ⟨hj, rfl⟩, b, off, e, hb, fun i hi => ?_⟩
    match i, hi with
    | 0, _ => exact p0
    | 1, _ => exact p1
    | 2, _ => exact p2
    | 3, _ => exact p3
    | 4, _ => exact p4
  refine ⟨l, ?_, fun j hj => (h2 j hj).2⟩
  apply List.ext_getElem
  · simp [h1]
  · intro j k1 k2
    obtain ⟨_, e⟩ := (h2 j (by simpa using k1)).1
    simpa using e
theorem rowC_evs {w : World} {B n : Nat} (l : List (Ev w B n)) (j : Nat) (hj : j < l.length) (i : Nat) (hi : i < 5) : (rowC (l.map Ev.v) (l.map Ev.sl))[j * 5 + i]? = l[j].cells[i]? := by
  rw [rowC_get (by simp) j (by simpa using hj) i hi]
  simp [cells5, Ev.cells]
theorem rowC_one {w : World} {B n : Nat} (l : List (Ev w B n)) : ∀ u ∈ rowC (l.map Ev.v) (l.map Ev.sl), u.oneCell' = true := by
  induction l with
  | nil => intro u hu; simp [rowC] at hu
  | cons x l ih =>
    intro u hu
    simp only [List.map_cons, rowC, List.mem_append] at hu
    rcases hu with hu | hu
    · exact x.one u hu
    · exact ih u hu
/-- A row of one's own, as elements. -/
theorem owns_row {w0 w : World} {B n L m : Nat} {l : List (Ev w0 B n)} {v : Value} (h0 : 0 < l.length) (h : w.ownsRow L 26 5 v m (rowC (l.map Ev.v) (l.map Ev.sl))) : m = l.length ∧ ∃ g cap, v = .slice (some ⟨g, 0, none⟩) l.length cap ∧ L ≤ g ∧ g < w.heap.size ∧ l.length ≤ cap ∧ RowV w g 0 (l.map Ev.cells) := by
  have hm : m = l.length := by have := h.1; rw [rowC_len (by simp)] at this; simp at this; omega
  subst hm
  refine ⟨rfl, ?_⟩
  rcases h.2 with ⟨rfl, h0'⟩ | ⟨g, cap, cur, rfl, hb, hg, hnc, hcm, hcs, htake⟩
  · omega
  · refine ⟨g, cap, rfl, hb, (Array.getElem?_eq_some_iff.1 hg).1, hnc, fun j hj c hc => ⟨?_, frozen_at hg _⟩⟩
    have hj' : j < l.length := by simpa using hj
    have h5 : (l[j].cells).length = 5 := rfl
    have e := rowC_evs l j hj' c hc
    have := h.cells (g := g) rfl (j * 5 + c) (l[j].cells[c]) (by rw [e, List.getElem?_eq_getElem (by omega)]; rfl)
    rw [Addr.add_lit] at this
    rw [show (0 : Nat) + j * 5 + c = 0 + (j * 5 + c) by omega, this]
    simp only [List.getElem_map]
    rw [getElem!_pos l[j].cells c (by omega)]
    rfl
set_option maxRecDepth 100000 in
set_option maxHeartbeats 1000000 in
theorem cloneV_k (w : World) (B n : Nat) (ad : Addr) (c : Nat) (l : List (Ev w B n)) (h0 : 0 < l.length) (hl : l.length ≤ 1000000000) (hB : B ≤ w.heap.size) (hc : ∀ j (hj : j < l.length), ad.spot = none ∧ ad.block < B ∧ ∀ i, i < 5 → w.cell? ⟨ad.block, ad.off + j * 5 + i, none⟩ = l[j].cells[i]?) :
    Calls Tryz.prog 101 #[.slice (some ad) l.length c] w fun e w' => ∃ g cap, e = .returned (.slice (some ⟨g, 0, none⟩) l.length cap) ∧ w.heap.size ≤ g ∧ g < w'.heap.size ∧ l.length ≤ cap ∧ RowV w' g 0 (l.map Ev.cells) ∧ Below w.heap.size w w' := by
  obtain ⟨i0, hi, hz0, hz1, hz2⟩ := info_partsV infoVal
  have HB := hide hc
  obtain ⟨ab, ao, sp⟩ := ad
  obtain rfl : sp = none := (hc 0 h0).1
  have hab : ab < w.heap.size := by have := (hc 0 h0).2.1; simp only at this; omega
  clear hc
  have hnil := fun w => Lib.run_eql_slice_nil (P := Tryz.prog) w 24 26 (some ⟨ab, ao, none⟩) l.length c 0 0 Tryz.underlying24
  have hlen : (rowC (l.map Ev.v) (l.map Ev.sl)).length = l.length * 5 := by rw [rowC_len (by simp)]; simp
  go_enter Tryz.func101, Tryz.ntmps101
  go_wp2_with (at_builtin; refine wpList_append_own _ rfl _ _ 24 rfl w.heap.size 26 i0 _ 5 64 Tryz.underlying24 hi hz0 hz1 hz2 rfl (by decide) _ _ _ rfl (World.ownsRow_made w #[] 0 (Nat.le_refl _) (by unfold maxLen; omega) rfl) ⟨ab, ao, none⟩ l.length c (rowC (l.map Ev.v) (l.map Ev.sl)) rfl hlen ?c1 (rowC_one l) ?c3 ?c4 ?c5 ?_)
  case c1 =>
    intro j u hu
    have hj : j < l.length * 5 := by have := (List.getElem?_eq_some_iff.1 hu).1; omega
    have e := rowC_evs l (j / 5) (by omega) (j % 5) (Nat.mod_lt _ (by omega))
    have e2 := (HB.out (j / 5) (by omega)).2.2 (j % 5) (Nat.mod_lt _ (by omega))
    rw [show j / 5 * 5 + j % 5 = j by omega] at e
    rw [show ao + j = ao + j / 5 * 5 + j % 5 by omega, e2, ← e, hu]
  case c3 => unfold maxLen; omega
  case c4 => omega
  · intro v' w1 hown hgrow hne
    have hin := (owns_row h0 hown).2
    have hbel : Below w.heap.size w w1 := ((Below.refl _ _).alloc (Nat.le_refl _) _).grown hgrow (by simp) (fun k hk => by simp [Value.ownBlock] at hk; omega)
    obtain ⟨g, cap, rfl, hg, hg2, hcap, hrow⟩ := hin
    have R := hide (And.intro hrow hbel)
    clear hown hgrow hne hbel hrow
    go_wp2
    go_ret
    exact ⟨g, cap, rfl, hg, hg2, hcap, R.out.1, R.out.2⟩
theorem ddGo_map {α β : Type} (f : α → β) {eq : α → α → Bool} {eq' : β → β → Bool} (h : ∀ a b, eq' (f a) (f b) = eq a b) : ∀ (l : List α) (p : α), ddGo eq' (f p) (l.map f) = (ddGo eq p l).map f
  | [], _ => rfl
  | a :: l, p => by
    simp only [List.map_cons, ddGo, h, ddGo_map f h l a]
    split <;> rfl
theorem dd_map {α β : Type} (f : α → β) {eq : α → α → Bool} {eq' : β → β → Bool} (h : ∀ a b, eq' (f a) (f b) = eq a b) (l : List α) : dd eq' (l.map f) = (dd eq l).map f := by
  cases l with
  | nil => rfl
  | cons a l => simp only [List.map_cons, dd, ddGo_map f h]
/-- Like values. -/
def likeV (x y : Vl) : Bool := ordV x y == 0
/-- A row of elements: items. -/
theorem items_of_row {w0 w : World} {B C n blk cap : Nat} (l : List (Ev w0 B n)) (hk : ∀ b o, b < B → w.cell? ⟨b, o, none⟩ = w0.cell? ⟨b, o, none⟩) (hr : RowV w blk 0 (l.map Ev.cells)) (hB : B ≤ C) (hblk : blk < C) (hl : l.length ≤ maxLen) :
    ItemsAt w C (n + 1) (.slice (some ⟨blk, 0, none⟩) l.length cap) (l.map Ev.v) := by
  refine ⟨_, cap, by rw [List.length_map], by simpa using hl, fun j hj => ?_⟩
  have hj' : j < l.length := by simpa using hj
  obtain ⟨p0, p1, p2, p3, p4⟩ := hr.one j hj'
  rw [List.getElem_map]
  exact ⟨blk, 0, l[j].sl, rfl, hblk, p0, p1, p2, p3, p4, (l[j].lies.kept hk).up hB, l[j].ok⟩
/-- An element, in a world where its items lie as they did. -/
def Ev.lift {w w1 : World} {B n : Nat} (hk : ∀ b o, b < B → w1.cell? ⟨b, o, none⟩ = w.cell? ⟨b, o, none⟩) (x : Ev w B n) : Ev w1 B n := ⟨x.v, x.sl, x.lies.kept hk, x.ok⟩
set_option maxRecDepth 100000 in
/-- distinct of at least one item: in rising order, of like ones one alone. -/
theorem distinct_k (w : World) (B n : Nat) (ad : Addr) (c : Nat) (l : List (Ev w B (n + 1))) (h0 : 0 < l.length) (hl : l.length ≤ 1000000000) (hB : B ≤ w.heap.size) (hc : ∀ j (hj : j < l.length), ad.spot = none ∧ ad.block < B ∧ ∀ i, i < 5 → w.cell? ⟨ad.block, ad.off + j * 5 + i, none⟩ = l[j].cells[i]?) :
    Calls Tryz.prog 62 #[.slice (some ad) l.length c] w fun e w' => ∃ its sl, its.Perm (l.map Ev.v) ∧ its.Pairwise (fun x y => ordV x y ≤ 0) ∧ e = .returned sl ∧ ItemsAt w' w'.heap.size (n + 2) sl (dd likeV its) ∧ Below w.heap.size w w' := by
  have H1 := hide (cloneV_k w B (n + 1) ad c l h0 hl hB hc)
  have H2 := hide (fun (w1 : World) (g cap : Nat) (hg : w.heap.size ≤ g) (hg1 : g < w1.heap.size) (hb : Below w.heap.size w w1) (hr : RowV w1 g 0 (l.map Ev.cells)) =>
    sort_k (cap := cap) (l.map (Ev.lift (w1 := w1) fun b o hb' => hb.cell (p := ⟨b, o, none⟩) (Nat.lt_of_lt_of_le hb' hB))) (Nat.le_trans hB hg) hg1 (by rw [List.length_map]; omega) (show RowV w1 g 0 _ from by rw [List.map_map]; exact hr))
  simp only [List.length_map] at H2
  clear hc
  go_enter Tryz.func62, Tryz.ntmps62
  go_wp2_with (first
    | (go_at_call 101; refine H1.out.mono ?_; clear H1; rintro e w1 ⟨g, cap, rfl, hg, hg1, hcap, hrow, hb1⟩)
    | (go_at_call 102; refine (H2.out w1 g cap hg hg1 hb1 hrow).mono ?_; clear H2; rintro e w2 ⟨rfl, l2, hp, hs, hr2, hg2⟩; have H3 := hide (compact_k (cap := cap) l2 (fun b o hb => World.cell?_of_block (hg2.block b (by have := hb1.size; omega) (by intro e; cases e; omega))) (Nat.le_trans hB hg) (by have := hg2.size; omega) (by have := hp.length_eq; rw [List.length_map] at this; omega) (by have := hp.length_eq; rw [List.length_map] at this; omega) hr2); rw [show l2.length = l.length by have := hp.length_eq; rwa [List.length_map] at this] at H3)
    | (go_at_call 103; refine H3.out.mono ?_; clear H3; rintro e w3 ⟨⟨c3, rfl⟩, hr3, hg3⟩))
  go_ret
  have hlen : l2.length = l.length := by have := hp.length_eq; rwa [List.length_map] at this
  have hb2 : Below w.heap.size w w2 := ⟨hg2.os.trans hb1.os, hg2.tape.trans hb1.tape, hg2.output.trans hb1.output, Nat.le_trans hb1.size hg2.size, fun k hk => (hg2.block k (Nat.lt_of_lt_of_le hk hb1.size) (by intro e; cases e; omega)).trans (hb1.block k hk)⟩
  have hb3 : Below w.heap.size w w3 := ⟨hg3.os.trans hb2.os, hg3.tape.trans hb2.tape, hg3.output.trans hb2.output, Nat.le_trans hb2.size hg3.size, fun k hk => (hg3.block k (Nat.lt_of_lt_of_le hk hb2.size) (by intro e; cases e; omega)).trans (hb2.block k hk)⟩
  have hz := hb2.size
  have hz3 := hg3.size
  refine ⟨l2.map Ev.v, _, ?_, ?_, rfl, ?_, hb3⟩
  · have := hp.map Ev.v
    rwa [List.map_map] at this
  · rw [List.pairwise_map]; exact hs
  · rw [dd_map Ev.v (eq := Ev.like) (fun _ _ => rfl)]
    refine items_of_row (dd Ev.like l2) (fun b o hb => ?_) hr3 (by have := hg2.size; omega) (by have := hg2.size; omega) (by have := dd_len Ev.like l2; unfold maxLen; omega)
    exact ((hb3.cell (p := ⟨b, o, none⟩) (show b < w.heap.size by omega))).trans (hb1.cell (p := ⟨b, o, none⟩) (show b < w.heap.size by omega)).symm
end Go.Proofs.YtngnlofjjlkcmaaGreatDoor
