/- Rows of values that a call has made, whose items lie where they lay. -/
import Derived.Test.YtagolpdhjkcoeaaGreatDoorZVCopied
import Derived.Test.YtagolpdhjkcoeaaGreatDoorZVSrt
import Derived.Test.YtagolpdhjkcoeaaGreatDoorZVTotal
import Derived.Test.YtagolpdhjkcoeaaGreatDoorZVClone
namespace Go.Proofs.YtagolpdhjkcoeaaGreatDoor
open Go.RowKit

/-- Items in blocks from lo on and below B. -/
def ItemsLo (lo : Nat) (w : World) (B n : Nat) (sl : Value) (its : List Vl) : Prop := ItemsIn w (fun b => lo ≤ b ∧ b < B) n sl its
theorem ItemsLo.below {lo : Nat} {w w' : World} {B n : Nat} {sl : Value} {its : List Vl} (h : ItemsLo lo w B n sl its) (hb : Below B w w') : ItemsLo lo w' B n sl its :=
  ItemsIn.kept (fun b o hB => hb.cell (p := ⟨b, o, none⟩) hB.2) (fun _ h => h) h
theorem ItemsLo.up {lo : Nat} {w : World} {B B' n : Nat} {sl : Value} {its : List Vl} (h : ItemsLo lo w B n sl its) (hB : B ≤ B') : ItemsLo lo w B' n sl its :=
  ItemsIn.kept (fun _ _ _ => rfl) (fun _ h => ⟨h.1, Nat.lt_of_lt_of_le h.2 hB⟩) h
theorem ItemsLo.at {lo : Nat} {w : World} {B n : Nat} {sl : Value} {its : List Vl} (h : ItemsLo lo w B n sl its) : ItemsAt w B n sl its := ItemsIn.at (fun _ h => h.2) h
theorem ItemsLo.len {lo : Nat} {w : World} {B n : Nat} {sl : Value} {its : List Vl} (h : ItemsLo lo w B n sl its) : ∃ a c, sl = .slice a its.length c ∧ its.length ≤ maxLen := ItemsIn.len h
theorem ItemsAt.lo {w : World} {B : Nat} : ∀ {n : Nat} {sl : Value} {its : List Vl}, ItemsAt w B n sl its → ItemsLo 0 w B n sl its
  | 0, _, _, h => h.elim
  | n + 1, _, its, h => by
    obtain ⟨a, c, e, hl, hc⟩ := h
    refine ⟨a, c, e, hl, fun j hj => ?_⟩
    obtain ⟨b, off, s', e, hb, h0, h1, h2, h3, h4, h5, h6⟩ := hc j hj
    exact ⟨b, off, s', e, ⟨Nat.zero_le _, hb⟩, h0, h1, h2, h3, h4, ItemsAt.lo h5, h6⟩
theorem ItemsLo.item {lo : Nat} {w : World} {B n : Nat} {a : Option Addr} {l c : Nat} {its : List Vl} (h : ItemsLo lo w B (n + 1) (.slice a l c) its) (j : Nat) (hj : j < its.length) : ∃ b off s', a = some ⟨b, off, none⟩ ∧ (lo ≤ b ∧ b < B) ∧
      w.cell? ⟨b, off + j * 5, none⟩ = some (.int .i64 its[j].kind) ∧ w.cell? ⟨b, off + j * 5 + 1, none⟩ = some (.int .i64 its[j].int) ∧ w.cell? ⟨b, off + j * 5 + 2, none⟩ = some (.int .i64 its[j].im) ∧
      w.cell? ⟨b, off + j * 5 + 3, none⟩ = some (.string its[j].text) ∧ w.cell? ⟨b, off + j * 5 + 4, none⟩ = some s' ∧ ItemsLo lo w B n s' its[j].items ∧ its[j].ok := by
  obtain ⟨a', c', e, _, hc⟩ := h
  cases e
  exact hc j hj
/-- A row of the call's own, from block L on; its items' own items lie below B. -/
def RowS (lo : Nat) (w : World) (L B n : Nat) (v : Value) (its : List Vl) : Prop := ∃ ss : List Value, ∃ hl : ss.length = its.length, w.ownsRow L 25 5 v its.length (rowC its ss) ∧
  ∀ j (h : j < its.length), ItemsLo lo w B n (ss[j]'(by omega)) its[j].items ∧ its[j].ok
theorem RowS.nil (lo : Nat) (w : World) (L B n : Nat) : RowS lo w L B n (.slice none 0 0) [] := ⟨[], rfl, ⟨rfl, .inl ⟨rfl, rfl⟩⟩, fun j h => by simp at h⟩
theorem RowS.below {lo : Nat} {w w' : World} {L B n : Nat} {v : Value} {its : List Vl} (h : RowS lo w L B n v its) (hB : B ≤ w.heap.size) (hb : Below w.heap.size w w') : RowS lo w' L B n v its := by
  obtain ⟨ss, hl, hr, hc⟩ := h
  exact ⟨ss, hl, hr.kept (grown_of_below (r := none) hb) (by cases v.ownBlock <;> simp), fun j hj => ⟨(hc j hj).1.below (hb.mono hB), (hc j hj).2⟩⟩
theorem RowS.len {lo : Nat} {w : World} {L B n : Nat} {v : Value} {its : List Vl} (h : RowS lo w L B n v its) : ∃ a c, v = .slice a its.length c := by
  obtain ⟨ss, hl, hr, hc⟩ := h
  rcases hr.2 with ⟨hv, h0⟩ | ⟨g, cap, cur, hv, _⟩
  · exact ⟨none, 0, by rw [hv, h0]⟩
  · exact ⟨_, _, hv⟩
/-- Such a row as items. -/
theorem RowS.items {lo : Nat} {w : World} {L B n : Nat} {v : Value} {its : List Vl} (h : RowS lo w L B n v its) (hB : B ≤ w.heap.size) (hm : its.length ≤ maxLen) (hlo : lo ≤ L) : ItemsLo lo w w.heap.size (n + 1) v its := by
  obtain ⟨ss, hl, hr, hc⟩ := h
  have hlt := hr.lt
  rcases hr.2 with ⟨hv, h0⟩ | ⟨g, cap, cur, hv, _⟩
  · refine ⟨none, 0, by rw [hv, h0], hm, fun j hj => by omega⟩
  · subst hv
    refine ⟨some ⟨g, 0, none⟩, cap, rfl, hm, fun j hj => ?_⟩
    obtain ⟨h1, h2⟩ := hc j hj
    have hg := hlt g rfl
    have ce : ∀ i, i < 5 → w.cell? ⟨g, 0 + j * 5 + i, none⟩ = (cells5 its[j] (ss[j]'(by omega)))[i]? := fun i hi => by
      rw [Nat.zero_add, hr.cellAt (j * 5 + i) (by have := Nat.mul_le_mul_right 5 (show j + 1 ≤ its.length by omega); omega), rowC_get hl j hj i hi]
    exact ⟨g, 0, ss[j]'(by omega), rfl, ⟨Nat.le_trans hlo hg.1, hg.2⟩, ce 0 (by omega), ce 1 (by omega), ce 2 (by omega), ce 3 (by omega), ce 4 (by omega), h1.up hB, h2⟩
/-- One value more is laid behind. -/
theorem RowS.push {lo : Nat} {W : World} {L B n : Nat} {v s : Value} {its : List Vl} {x : Vl} (h : RowS lo W L B n v its) (hL : L ≤ W.heap.size) (hB : B ≤ L) (hx : ItemsLo lo W B n s x.items) (ht : x.ok) (hn : its.length + 1 ≤ 1000000000) (ty : TypeId) :
    ∃ v' w', (Builtin.append_ #[23, 23] ty #[v, .slice (some ⟨W.heap.size, 0, none⟩) 1 1]).run Tryz.prog (W.alloc (.cells #[.int .i64 x.kind, .int .i64 x.int, .int .i64 x.im, .string x.text, s] 25)) = .ok v' w' ∧ RowS lo w' L B n v' (its ++ [x]) ∧ Below L W w' := by
  obtain ⟨i0, hi, hz0, hz1, hz2⟩ := info_partsV infoVal
  obtain ⟨ss, hl, hr, hc⟩ := h
  obtain ⟨sa, sc, rfl, _⟩ := hx.len
  have hbA : Below W.heap.size W (W.alloc (.cells #[.int .i64 x.kind, .int .i64 x.int, .int .i64 x.im, .string x.text, .slice sa x.items.length sc] 25)) := alloc_v (Below.refl _ _) _
  have eA := World.alloc_heap_new W (.cells #[.int .i64 x.kind, .int .i64 x.int, .int .i64 x.im, .string x.text, .slice sa x.items.length sc] 25)
  have hrA : (W.alloc (.cells #[.int .i64 x.kind, .int .i64 x.int, .int .i64 x.im, .string x.text, .slice sa x.items.length sc] 25)).ownsRow L 25 5 v its.length (rowC its ss) := hr.kept (grown_of_below (r := none) hbA) (by cases v.ownBlock <;> simp)
  obtain ⟨g, cap, w', hrun, A1, A2, A3, A4⟩ := run_append_lies (P := Tryz.prog) (W.alloc (.cells #[.int .i64 x.kind, .int .i64 x.int, .int .i64 x.im, .string x.text, .slice sa x.items.length sc] 25)) 23 ty L 25 i0 _ 5 64 Tryz.underlying23 hi hz0 hz1 hz2 rfl (by decide) v its.length (rowC its ss) hrA ⟨W.heap.size, 0, none⟩ 1 1 (cells5 x (.slice sa x.items.length sc)) rfl (fun j u hj => by
      rw [Addr.add_lit, Nat.zero_add]
      exact cells_at eA j u (by simpa [cells5] using hj)) (fun u hu => by simp [cells5] at hu; rcases hu with rfl | rfl | rfl | rfl | rfl <;> rfl) (by omega) (by unfold maxLen; omega) (by omega) (by rw [World.size_alloc]; omega) (W.heap.size + 1) (by rw [World.size_alloc])
  have hvl := hr.lt
  have bL : Below L W w' := (hbA.mono hL).grown A2 (by rw [World.size_alloc]; omega) (fun k hk => (hvl k hk).1)
  refine ⟨_, w', hrun, ⟨ss ++ [.slice sa x.items.length sc], by simp [hl], ?_, fun j hj => ?_⟩, bL⟩
  · rw [rowC_snoc _ _ hl, List.length_append]
    exact A1
  · by_cases e : j < its.length
    · obtain ⟨h1, h2⟩ := hc j e
      rw [List.getElem_append_left (by omega), List.getElem_append_left e]
      exact ⟨h1.below (bL.mono hB), h2⟩
    · have ej : j = its.length := by rw [List.length_append, List.length_singleton] at hj; omega
      subst ej
      rw [List.getElem_append_right (by omega), List.getElem_append_right (by omega)]
      simp only [hl, Nat.sub_self, List.getElem_singleton]
      exact ⟨hx.below (bL.mono hB), ht⟩
end Go.Proofs.YtagolpdhjkcoeaaGreatDoor

/- The set of some items: one strictly rising row. -/
namespace Go.Proofs.YtagolpdhjkcoeaaGreatDoor

/-- The set of some items. -/
def setV (its : List Vl) : List Vl := dd likeV (srt its)
theorem likeV_iff {x y : Vl} : likeV x y = true ↔ x = y := by
  unfold likeV
  rw [beq_iff_eq]
  exact ⟨ordV_zero, fun h => by rw [h]; exact ordV_self y⟩
theorem ordV_irr {x : Vl} : ¬ ordV x x < 0 := by rw [ordV_self]; omega
/-- Strictly rising. -/
abbrev Rises (l : List Vl) : Prop := l.Pairwise (fun x y => ordV x y < 0)
theorem lt_of_le_ne {x y : Vl} (h : ordV x y ≤ 0) (hn : likeV x y = false) : ordV x y < 0 := by
  rcases Int.lt_or_eq_of_le h with h | h
  · exact h
  · rw [likeV_iff.2 (ordV_zero h)] at hn
    cases hn
theorem ddGo_facts : ∀ (l : List Vl) (p : Vl), (p :: l).Pairwise (fun x y => ordV x y ≤ 0) → Rises (p :: ddGo likeV p l) ∧ ∀ x, x ∈ p :: ddGo likeV p l ↔ x ∈ p :: l
  | [], p, _ => by simp [ddGo]
  | a :: l, p, h => by
    have hpa : ordV p a ≤ 0 := (List.pairwise_cons.1 h).1 a (by simp)
    have hal := (List.pairwise_cons.1 h).2
    have hpl : (p :: l).Pairwise (fun x y => ordV x y ≤ 0) := List.pairwise_cons.2 ⟨fun y hy => (List.pairwise_cons.1 h).1 y (by simp [hy]), (List.pairwise_cons.1 hal).2⟩
    rw [ddGo]
    cases he : likeV a p
    · have ih := ddGo_facts l a hal
      have he' : likeV p a = false := by
        cases h' : likeV p a with
        | false => rfl
        | true => rw [likeV_iff.2 (likeV_iff.1 h').symm] at he; cases he
      have hlt := lt_of_le_ne hpa he'
      simp only [Bool.false_eq_true, if_false]
      refine ⟨List.pairwise_cons.2 ⟨fun y hy => ?_, ih.1⟩, fun x => ?_⟩
      · rcases List.mem_cons.1 hy with rfl | hy
        · exact hlt
        · exact ordV_trans hlt ((List.pairwise_cons.1 ih.1).1 y hy)
      · have := ih.2 x
        simp only [List.mem_cons] at this ⊢
        rw [this]
    · obtain rfl := likeV_iff.1 he
      have ih := ddGo_facts l _ hpl
      simp only [if_true]
      refine ⟨ih.1, fun x => ?_⟩
      have := ih.2 x
      simp only [List.mem_cons] at this ⊢
      rw [this]
      simp
theorem setV_rises (its : List Vl) : Rises (setV its) := by
  unfold setV
  have h := srt_pair its
  cases hs : srt its with
  | nil => simp [dd]
  | cons a l => rw [hs] at h; rw [dd]; exact (ddGo_facts l a h).1
theorem setV_mem (its : List Vl) (x : Vl) : x ∈ setV its ↔ x ∈ its := by
  unfold setV
  have h := srt_pair its
  have hp := (srt_perm its).mem_iff (a := x)
  cases hs : srt its with
  | nil => rw [hs] at hp; simpa [dd] using hp
  | cons a l => rw [hs] at h hp; rw [dd, (ddGo_facts l a h).2 x]; exact hp
theorem rises_only : ∀ {l r : List Vl}, Rises l → Rises r → (∀ x, x ∈ l ↔ x ∈ r) → l = r
  | [], [], _, _, _ => rfl
  | [], b :: r, _, _, h => by have := (h b).2 (by simp); simp at this
  | a :: l, [], _, _, h => by have := (h a).1 (by simp); simp at this
  | a :: l, b :: r, hl, hr, h => by
    have hl' := List.pairwise_cons.1 hl
    have hr' := List.pairwise_cons.1 hr
    have hab : a = b := by
      rcases List.mem_cons.1 ((h a).1 (by simp)) with e | ha
      · exact e
      · rcases List.mem_cons.1 ((h b).2 (by simp)) with e | hb
        · exact e.symm
        · exact absurd (ordV_trans (hr'.1 a ha) (hl'.1 b hb)) ordV_irr
    subst hab
    rw [rises_only hl'.2 hr'.2 fun x => ⟨fun hx => ?_, fun hx => ?_⟩]
    · rcases List.mem_cons.1 ((h x).1 (by simp [hx])) with rfl | e
      · exact absurd (hl'.1 x hx) ordV_irr
      · exact e
    · rcases List.mem_cons.1 ((h x).2 (by simp [hx])) with rfl | e
      · exact absurd (hr'.1 x hx) ordV_irr
      · exact e
/-- A strictly rising row of just these items is their set. -/
theorem setV_only {l its : List Vl} (hl : Rises l) (hm : ∀ x, x ∈ l ↔ x ∈ its) : l = setV its := rises_only hl (setV_rises its) fun x => (hm x).trans (setV_mem its x).symm
theorem setV_self {l : List Vl} (hl : Rises l) : setV l = l := (setV_only hl fun _ => Iff.rfl).symm
/-- Two strictly rising rows put together, of like ones one alone; f bounds how many. -/
def mrg : Nat → List Vl → List Vl → List Vl
  | 0, _, _ => []
  | f + 1, a, b => match a, b with
    | [], [] => []
    | x :: a, [] => x :: mrg f a []
    | [], y :: b => y :: mrg f [] b
    | x :: a, y :: b => if ordV x y < 0 then x :: mrg f a (y :: b) else if ordV x y = 0 then x :: mrg f a b else y :: mrg f (x :: a) b
theorem mrg_facts : ∀ (f : Nat) (a b : List Vl), a.length + b.length ≤ f → Rises a → Rises b → Rises (mrg f a b) ∧ ∀ x, x ∈ mrg f a b ↔ x ∈ a ∨ x ∈ b
  | 0, a, b, h, _, _ => by
    obtain rfl : a = [] := List.length_eq_zero_iff.1 (by omega)
    obtain rfl : b = [] := List.length_eq_zero_iff.1 (by omega)
    simp [mrg]
  | f + 1, [], [], _, _, _ => by simp [mrg]
  | f + 1, x :: a, [], h, ha, hb => by
    have ha' := List.pairwise_cons.1 ha
    have ih := mrg_facts f a [] (by simp at h ⊢; omega) ha'.2 hb
    rw [mrg]
    refine ⟨List.pairwise_cons.2 ⟨fun y hy => ?_, ih.1⟩, fun y => ?_⟩
    · have := (ih.2 y).1 hy
      simp only [List.not_mem_nil, or_false] at this
      exact ha'.1 y this
    · simp only [List.mem_cons, ih.2 y, List.not_mem_nil, or_false]
  | f + 1, [], y :: b, h, ha, hb => by
    have hb' := List.pairwise_cons.1 hb
    have ih := mrg_facts f [] b (by simp at h ⊢; omega) ha hb'.2
    rw [mrg]
    refine ⟨List.pairwise_cons.2 ⟨fun x hx => ?_, ih.1⟩, fun x => ?_⟩
    · have := (ih.2 x).1 hx
      simp only [List.not_mem_nil, false_or] at this
      exact hb'.1 x this
    · simp only [List.mem_cons, ih.2 x, List.not_mem_nil, false_or]
  | f + 1, x :: a, y :: b, h, ha, hb => by
    have ha' := List.pairwise_cons.1 ha
    have hb' := List.pairwise_cons.1 hb
    rw [mrg]
    by_cases h1 : ordV x y < 0
    · rw [if_pos h1]
      have ih := mrg_facts f a (y :: b) (by simp at h ⊢; omega) ha'.2 hb
      refine ⟨List.pairwise_cons.2 ⟨fun z hz => ?_, ih.1⟩, fun z => ?_⟩
      · rcases (ih.2 z).1 hz with hz | hz
        · exact ha'.1 z hz
        · rcases List.mem_cons.1 hz with rfl | hz
          · exact h1
          · exact ordV_trans h1 (hb'.1 z hz)
      · simp only [List.mem_cons, ih.2 z, or_assoc]
    · rw [if_neg h1]
      by_cases h2 : ordV x y = 0
      · rw [if_pos h2]
        obtain rfl := ordV_zero h2
        have ih := mrg_facts f a b (by simp at h ⊢; omega) ha'.2 hb'.2
        refine ⟨List.pairwise_cons.2 ⟨fun z hz => ?_, ih.1⟩, fun z => ?_⟩
        · rcases (ih.2 z).1 hz with hz | hz
          · exact ha'.1 z hz
          · exact hb'.1 z hz
        · simp only [List.mem_cons, ih.2 z]
          constructor
          · rintro (e | e | e)
            · exact .inl (.inl e)
            · exact .inl (.inr e)
            · exact .inr (.inr e)
          · rintro ((e | e) | (e | e))
            · exact .inl e
            · exact .inr (.inl e)
            · exact .inl e
            · exact .inr (.inr e)
      · rw [if_neg h2]
        have hyx : ordV y x < 0 := by rw [ordV_anti x y]; omega
        have ih := mrg_facts f (x :: a) b (by simp at h ⊢; omega) ha hb'.2
        refine ⟨List.pairwise_cons.2 ⟨fun z hz => ?_, ih.1⟩, fun z => ?_⟩
        · rcases (ih.2 z).1 hz with hz | hz
          · rcases List.mem_cons.1 hz with rfl | hz
            · exact hyx
            · exact ordV_trans hyx (ha'.1 z hz)
          · exact hb'.1 z hz
        · simp only [List.mem_cons, ih.2 z]
          constructor
          · rintro (e | (e | e) | e)
            · exact .inr (.inl e)
            · exact .inl (.inl e)
            · exact .inl (.inr e)
            · exact .inr (.inr e)
          · rintro ((e | e) | (e | e))
            · exact .inr (.inl (.inl e))
            · exact .inr (.inl (.inr e))
            · exact .inl e
            · exact .inr (.inr e)
/-- Two sets put together are the set of all their items. -/
theorem mrg_set {f : Nat} {l r : List Vl} (h : (setV l).length + (setV r).length ≤ f) : mrg f (setV l) (setV r) = setV (l ++ r) := by
  have := mrg_facts f _ _ h (setV_rises l) (setV_rises r)
  exact setV_only this.1 fun x => by rw [this.2 x, setV_mem, setV_mem, List.mem_append]
end Go.Proofs.YtagolpdhjkcoeaaGreatDoor
