/- The set of some items: one strictly rising row. -/
import Derived.Test.YtgglommnipbagaaGreatDoorZVSrt
import Derived.Test.YtgglommnipbagaaGreatDoorZVTotal
import Derived.Test.YtgglommnipbagaaGreatDoorZVClone
import Derived.Test.YtgglommnipbagaaGreatDoorZVCopied
import Derived.Test.YtgglommnipbagaaGreatDoorZVRefForm
namespace Go.Proofs.YtgglommnipbagaaGreatDoor

/-- The set of some items. -/
def setV (its : List Vl) : List Vl := dd likeV (srt its)
theorem likeV_iff {x y : Vl} : likeV x y = true ↔ x = y := by
  unfold likeV
  rw [beq_iff_eq]
  exact ⟨ordV_zero, fun h => by rw [h]; exact ordV_self y⟩
theorem ordV_irr {x : Vl} : ¬ ordV x x < 0 := by rw [ordV_self]; omega
/-- Strictly rising. -/
abbrev Rises (l : List Vl) : Prop := l.Pairwise (fun x y => ordV x y < 0)
theorem lt_of_le_ne {x y : Vl} (h : ordV x y ≤ 0) (hn : likeV x y = false) : ordV x y < 0 := by
  rcases Int.lt_or_eq_of_le h with h | h
  · exact h
  · rw [likeV_iff.2 (ordV_zero h)] at hn
    cases hn
theorem ddGo_facts : ∀ (l : List Vl) (p : Vl), (p :: l).Pairwise (fun x y => ordV x y ≤ 0) → Rises (p :: ddGo likeV p l) ∧ ∀ x, x ∈ p :: ddGo likeV p l ↔ x ∈ p :: l
  | [], p, _ => by simp [ddGo]
  | a :: l, p, h => by
    have hpa : ordV p a ≤ 0 := (List.pairwise_cons.1 h).1 a (by simp)
    have hal := (List.pairwise_cons.1 h).2
    have hpl : (p :: l).Pairwise (fun x y => ordV x y ≤ 0) := List.pairwise_cons.2 ⟨fun y hy => (List.pairwise_cons.1 h).1 y (by simp [hy]), (List.pairwise_cons.1 hal).2⟩
    rw [ddGo]
    cases he : likeV a p
    · have ih := ddGo_facts l a hal
      have he' : likeV p a = false := by
        cases h' : likeV p a with
        | false => rfl
        | true => rw [likeV_iff.2 (likeV_iff.1 h').symm] at he; cases he
      have hlt := lt_of_le_ne hpa he'
      simp only [Bool.false_eq_true, if_false]
      refine ⟨List.pairwise_cons.2 ⟨fun y hy => ?_, ih.1⟩, fun x => ?_⟩
      · rcases List.mem_cons.1 hy with rfl | hy
        · exact hlt
        · exact ordV_trans hlt ((List.pairwise_cons.1 ih.1).1 y hy)
      · have := ih.2 x
        simp only [List.mem_cons] at this ⊢
        rw [this]
    · obtain rfl := likeV_iff.1 he
      have ih := ddGo_facts l _ hpl
      simp only [if_true]
      refine ⟨ih.1, fun x => ?_⟩
      have := ih.2 x
      simp only [List.mem_cons] at this ⊢
      rw [this]
      simp
theorem setV_rises (its : List Vl) : Rises (setV its) := by
  unfold setV
  have h := srt_pair its
  cases hs : srt its with
  | nil => simp [dd]
  | cons a l => rw [hs] at h; rw [dd]; exact (ddGo_facts l a h).1
theorem setV_mem (its : List Vl) (x : Vl) : x ∈ setV its ↔ x ∈ its := by
  unfold setV
  have h := srt_pair its
  have hp := (srt_perm its).mem_iff (a := x)
  cases hs : srt its with
  | nil => rw [hs] at hp; simpa [dd] using hp
  | cons a l => rw [hs] at h hp; rw [dd, (ddGo_facts l a h).2 x]; exact hp
theorem rises_only : ∀ {l r : List Vl}, Rises l → Rises r → (∀ x, x ∈ l ↔ x ∈ r) → l = r
  | [], [], _, _, _ => rfl
  | [], b :: r, _, _, h => by have := (h b).2 (by simp); simp at this
  | a :: l, [], _, _, h => by have := (h a).1 (by simp); simp at this
  | a :: l, b :: r, hl, hr, h => by
    have hl' := List.pairwise_cons.1 hl
    have hr' := List.pairwise_cons.1 hr
    have hab : a = b := by
      rcases List.mem_cons.1 ((h a).1 (by simp)) with e | ha
      · exact e
      · rcases List.mem_cons.1 ((h b).2 (by simp)) with e | hb
        · exact e.symm
        · exact absurd (ordV_trans (hr'.1 a ha) (hl'.1 b hb)) ordV_irr
    subst hab
    rw [rises_only hl'.2 hr'.2 fun x => ⟨fun hx => ?_, fun hx => ?_⟩]
    · rcases List.mem_cons.1 ((h x).1 (by simp [hx])) with rfl | e
      · exact absurd (hl'.1 x hx) ordV_irr
      · exact e
    · rcases List.mem_cons.1 ((h x).2 (by simp [hx])) with rfl | e
      · exact absurd (hr'.1 x hx) ordV_irr
      · exact e
/-- A strictly rising row of just these items is their set. -/
theorem setV_only {l its : List Vl} (hl : Rises l) (hm : ∀ x, x ∈ l ↔ x ∈ its) : l = setV its := rises_only hl (setV_rises its) fun x => (hm x).trans (setV_mem its x).symm
theorem setV_self {l : List Vl} (hl : Rises l) : setV l = l := (setV_only hl fun _ => Iff.rfl).symm
/-- Two strictly rising rows put together, of like ones one alone; f bounds how many. -/
def mrg : Nat → List Vl → List Vl → List Vl
  | 0, _, _ => []
  | f + 1, a, b => match a, b with
    | [], [] => []
    | x :: a, [] => x :: mrg f a []
    | [], y :: b => y :: mrg f [] b
    | x :: a, y :: b => if ordV x y < 0 then x :: mrg f a (y :: b) else if ordV x y = 0 then x :: mrg f a b else y :: mrg f (x :: a) b
theorem mrg_facts : ∀ (f : Nat) (a b : List Vl), a.length + b.length ≤ f → Rises a → Rises b → Rises (mrg f a b) ∧ ∀ x, x ∈ mrg f a b ↔ x ∈ a ∨ x ∈ b
  | 0, a, b, h, _, _ => by
    obtain rfl : a = [] := List.length_eq_zero_iff.1 (by omega)
    obtain rfl : b = [] := List.length_eq_zero_iff.1 (by omega)
    simp [mrg]
  | f + 1, [], [], _, _, _ => by simp [mrg]
  | f + 1, x :: a, [], h, ha, hb => by
    have ha' := List.pairwise_cons.1 ha
    have ih := mrg_facts f a [] (by simp at h ⊢; omega) ha'.2 hb
    rw [mrg]
    refine ⟨List.pairwise_cons.2 ⟨fun y hy => ?_, ih.1⟩, fun y => ?_⟩
    · have := (ih.2 y).1 hy
      simp only [List.not_mem_nil, or_false] at this
      exact ha'.1 y this
    · simp only [List.mem_cons, ih.2 y, List.not_mem_nil, or_false]
  | f + 1, [], y :: b, h, ha, hb => by
    have hb' := List.pairwise_cons.1 hb
    have ih := mrg_facts f [] b (by simp at h ⊢; omega) ha hb'.2
    rw [mrg]
    refine ⟨List.pairwise_cons.2 ⟨fun x hx => ?_, ih.1⟩, fun x => ?_⟩
    · have := (ih.2 x).1 hx
      simp only [List.not_mem_nil, false_or] at this
      exact hb'.1 x this
    · simp only [List.mem_cons, ih.2 x, List.not_mem_nil, false_or]
  | f + 1, x :: a, y :: b, h, ha, hb => by
    have ha' := List.pairwise_cons.1 ha
    have hb' := List.pairwise_cons.1 hb
    rw [mrg]
    by_cases h1 : ordV x y < 0
    · rw [if_pos h1]
      have ih := mrg_facts f a (y :: b) (by simp at h ⊢; omega) ha'.2 hb
      refine ⟨List.pairwise_cons.2 ⟨fun z hz => ?_, ih.1⟩, fun z => ?_⟩
      · rcases (ih.2 z).1 hz with hz | hz
        · exact ha'.1 z hz
        · rcases List.mem_cons.1 hz with rfl | hz
          · exact h1
          · exact ordV_trans h1 (hb'.1 z hz)
      · simp only [List.mem_cons, ih.2 z, or_assoc]
    · rw [if_neg h1]
      by_cases h2 : ordV x y = 0
      · rw [if_pos h2]
        obtain rfl := ordV_zero h2
        have ih := mrg_facts f a b (by simp at h ⊢; omega) ha'.2 hb'.2
        refine ⟨List.pairwise_cons.2 ⟨fun z hz => ?_, ih.1⟩, fun z => ?_⟩
        · rcases (ih.2 z).1 hz with hz | hz
          · exact ha'.1 z hz
          · exact hb'.1 z hz
        · simp only [List.mem_cons, ih.2 z]
          constructor
          · rintro (e | e | e)
            · exact .inl (.inl e)
            · exact .inl (.inr e)
            · exact .inr (.inr e)
          · rintro ((e | e) | (e | e))
            · exact .inl e
            · exact .inr (.inl e)
            · exact .inl e
            · exact .inr (.inr e)
      · rw [if_neg h2]
        have hyx : ordV y x < 0 := by rw [ordV_anti x y]; omega
        have ih := mrg_facts f (x :: a) b (by simp at h ⊢; omega) ha hb'.2
        refine ⟨List.pairwise_cons.2 ⟨fun z hz => ?_, ih.1⟩, fun z => ?_⟩
        · rcases (ih.2 z).1 hz with hz | hz
          · rcases List.mem_cons.1 hz with rfl | hz
            · exact hyx
            · exact ordV_trans hyx (ha'.1 z hz)
          · exact hb'.1 z hz
        · simp only [List.mem_cons, ih.2 z]
          constructor
          · rintro (e | (e | e) | e)
            · exact .inr (.inl e)
            · exact .inl (.inl e)
            · exact .inl (.inr e)
            · exact .inr (.inr e)
          · rintro ((e | e) | (e | e))
            · exact .inr (.inl (.inl e))
            · exact .inr (.inl (.inr e))
            · exact .inl e
            · exact .inr (.inr e)
/-- Two sets put together are the set of all their items. -/
theorem mrg_set {f : Nat} {l r : List Vl} (h : (setV l).length + (setV r).length ≤ f) : mrg f (setV l) (setV r) = setV (l ++ r) := by
  have := mrg_facts f _ _ h (setV_rises l) (setV_rises r)
  exact setV_only this.1 fun x => by rw [this.2 x, setV_mem, setV_mem, List.mem_append]
end Go.Proofs.YtgglommnipbagaaGreatDoor

/- Rows of values that a call has made, whose items lie where they lay. -/
namespace Go.Proofs.YtgglommnipbagaaGreatDoor
open Go.RowKit

/-- Items in blocks from lo on and below B. -/
def ItemsLo (lo : Nat) (w : World) (B n : Nat) (sl : Value) (its : List Vl) : Prop := ItemsIn w (fun b => lo ≤ b ∧ b < B) n sl its
theorem ItemsLo.below {lo : Nat} {w w' : World} {B n : Nat} {sl : Value} {its : List Vl} (h : ItemsLo lo w B n sl its) (hb : Below B w w') : ItemsLo lo w' B n sl its :=
  ItemsIn.kept (fun b o hB => hb.cell (p := ⟨b, o, none⟩) hB.2) (fun _ h => h) h
theorem ItemsLo.up {lo : Nat} {w : World} {B B' n : Nat} {sl : Value} {its : List Vl} (h : ItemsLo lo w B n sl its) (hB : B ≤ B') : ItemsLo lo w B' n sl its :=
  ItemsIn.kept (fun _ _ _ => rfl) (fun _ h => ⟨h.1, Nat.lt_of_lt_of_le h.2 hB⟩) h
theorem ItemsLo.at {lo : Nat} {w : World} {B n : Nat} {sl : Value} {its : List Vl} (h : ItemsLo lo w B n sl its) : ItemsAt w B n sl its := ItemsIn.at (fun _ h => h.2) h
theorem ItemsLo.len {lo : Nat} {w : World} {B n : Nat} {sl : Value} {its : List Vl} (h : ItemsLo lo w B n sl its) : ∃ a c, sl = .slice a its.length c ∧ its.length ≤ maxLen := ItemsIn.len h
theorem ItemsAt.lo {w : World} {B : Nat} : ∀ {n : Nat} {sl : Value} {its : List Vl}, ItemsAt w B n sl its → ItemsLo 0 w B n sl its
  | 0, _, _, h => h.elim
  | n + 1, _, its, h => by
    obtain ⟨a, c, e, hl, hc⟩ := h
    refine ⟨a, c, e, hl, fun j hj => ?_⟩
    obtain ⟨b, off, s', e, hb, h0, h1, h2, h3, h4, h5, h6⟩ := hc j hj
    exact ⟨b, off, s', e, ⟨Nat.zero_le _, hb⟩, h0, h1, h2, h3, h4, ItemsAt.lo h5, h6⟩
theorem ItemsLo.item {lo : Nat} {w : World} {B n : Nat} {a : Option Addr} {l c : Nat} {its : List Vl} (h : ItemsLo lo w B (n + 1) (.slice a l c) its) (j : Nat) (hj : j < its.length) : ∃ b off s', a = some ⟨b, off, none⟩ ∧ (lo ≤ b ∧ b < B) ∧
      w.cell? ⟨b, off + j * 5, none⟩ = some (.int .i64 its[j].kind) ∧ w.cell? ⟨b, off + j * 5 + 1, none⟩ = some (.int .i64 its[j].int) ∧ w.cell? ⟨b, off + j * 5 + 2, none⟩ = some (.int .i64 its[j].im) ∧
      w.cell? ⟨b, off + j * 5 + 3, none⟩ = some (.string its[j].text) ∧ w.cell? ⟨b, off + j * 5 + 4, none⟩ = some s' ∧ ItemsLo lo w B n s' its[j].items ∧ its[j].ok := by
  obtain ⟨a', c', e, _, hc⟩ := h
  cases e
  exact hc j hj
/-- A row of the call's own, from block L on; its items' own items lie below B. -/
def RowS (lo : Nat) (w : World) (L B n : Nat) (v : Value) (its : List Vl) : Prop := ∃ ss : List Value, ∃ hl : ss.length = its.length, w.ownsRow L 25 5 v its.length (rowC its ss) ∧
  ∀ j (h : j < its.length), ItemsLo lo w B n (ss[j]'(by omega)) its[j].items ∧ its[j].ok
theorem RowS.nil (lo : Nat) (w : World) (L B n : Nat) : RowS lo w L B n (.slice none 0 0) [] := ⟨[], rfl, ⟨rfl, .inl ⟨rfl, rfl⟩⟩, fun j h => by simp at h⟩
theorem RowS.below {lo : Nat} {w w' : World} {L B n : Nat} {v : Value} {its : List Vl} (h : RowS lo w L B n v its) (hB : B ≤ w.heap.size) (hb : Below w.heap.size w w') : RowS lo w' L B n v its := by
  obtain ⟨ss, hl, hr, hc⟩ := h
  exact ⟨ss, hl, hr.kept (grown_of_below (r := none) hb) (by cases v.ownBlock <;> simp), fun j hj => ⟨(hc j hj).1.below (hb.mono hB), (hc j hj).2⟩⟩
theorem RowS.len {lo : Nat} {w : World} {L B n : Nat} {v : Value} {its : List Vl} (h : RowS lo w L B n v its) : ∃ a c, v = .slice a its.length c := by
  obtain ⟨ss, hl, hr, hc⟩ := h
  rcases hr.2 with ⟨hv, h0⟩ | ⟨g, cap, cur, hv, _⟩
  · exact ⟨none, 0, by rw [hv, h0]⟩
  · exact ⟨_, _, hv⟩
/-- Such a row as items. -/
theorem RowS.items {lo : Nat} {w : World} {L B n : Nat} {v : Value} {its : List Vl} (h : RowS lo w L B n v its) (hB : B ≤ w.heap.size) (hm : its.length ≤ maxLen) (hlo : lo ≤ L) : ItemsLo lo w w.heap.size (n + 1) v its := by
  obtain ⟨ss, hl, hr, hc⟩ := h
  have hlt := hr.lt
  rcases hr.2 with ⟨hv, h0⟩ | ⟨g, cap, cur, hv, _⟩
  · refine ⟨none, 0, by rw [hv, h0], hm, fun j hj => by omega⟩
  · subst hv
    refine ⟨some ⟨g, 0, none⟩, cap, rfl, hm, fun j hj => ?_⟩
    obtain ⟨h1, h2⟩ := hc j hj
    have hg := hlt g rfl
    have ce : ∀ i, i < 5 → w.cell? ⟨g, 0 + j * 5 + i, none⟩ = (cells5 its[j] (ss[j]'(by omega)))[i]? := fun i hi => by
      rw [Nat.zero_add, hr.cellAt (j * 5 + i) (by have := Nat.mul_le_mul_right 5 (show j + 1 ≤ its.length by omega); omega), rowC_get hl j hj i hi]
    exact ⟨g, 0, ss[j]'(by omega), rfl, ⟨Nat.le_trans hlo hg.1, hg.2⟩, ce 0 (by omega), ce 1 (by omega), ce 2 (by omega), ce 3 (by omega), ce 4 (by omega), h1.up hB, h2⟩
/-- One value more is laid behind. -/
theorem RowS.push {lo : Nat} {W : World} {L B n : Nat} {v s : Value} {its : List Vl} {x : Vl} (h : RowS lo W L B n v its) (hL : L ≤ W.heap.size) (hB : B ≤ L) (hx : ItemsLo lo W B n s x.items) (ht : x.ok) (hn : its.length + 1 ≤ 1000000000) (ty : TypeId) :
    ∃ v' w', (Builtin.append_ #[22, 22] ty #[v, .slice (some ⟨W.heap.size, 0, none⟩) 1 1]).run Tryz.prog (W.alloc (.cells #[.int .i64 x.kind, .int .i64 x.int, .int .i64 x.im, .string x.text, s] 25)) = .ok v' w' ∧ RowS lo w' L B n v' (its ++ [x]) ∧ Below L W w' := by
  obtain ⟨i0, hi, hz0, hz1, hz2⟩ := info_partsV infoVal
  obtain ⟨ss, hl, hr, hc⟩ := h
  obtain ⟨sa, sc, rfl, _⟩ := hx.len
  have hbA : Below W.heap.size W (W.alloc (.cells #[.int .i64 x.kind, .int .i64 x.int, .int .i64 x.im, .string x.text, .slice sa x.items.length sc] 25)) := alloc_v (Below.refl _ _) _
  have eA := World.alloc_heap_new W (.cells #[.int .i64 x.kind, .int .i64 x.int, .int .i64 x.im, .string x.text, .slice sa x.items.length sc] 25)
  have hrA : (W.alloc (.cells #[.int .i64 x.kind, .int .i64 x.int, .int .i64 x.im, .string x.text, .slice sa x.items.length sc] 25)).ownsRow L 25 5 v its.length (rowC its ss) := hr.kept (grown_of_below (r := none) hbA) (by cases v.ownBlock <;> simp)
  obtain ⟨g, cap, w', hrun, A1, A2, A3, A4⟩ := run_append_lies (P := Tryz.prog) (W.alloc (.cells #[.int .i64 x.kind, .int .i64 x.int, .int .i64 x.im, .string x.text, .slice sa x.items.length sc] 25)) 22 ty L 25 i0 _ 5 64 Tryz.underlying22 hi hz0 hz1 hz2 rfl (by decide) v its.length (rowC its ss) hrA ⟨W.heap.size, 0, none⟩ 1 1 (cells5 x (.slice sa x.items.length sc)) rfl (fun j u hj => by
      rw [Addr.add_lit, Nat.zero_add]
      exact cells_at eA j u (by simpa [cells5] using hj)) (fun u hu => by simp [cells5] at hu; rcases hu with rfl | rfl | rfl | rfl | rfl <;> rfl) (by omega) (by unfold maxLen; omega) (by omega) (by rw [World.size_alloc]; omega) (W.heap.size + 1) (by rw [World.size_alloc])
  have hvl := hr.lt
  have bL : Below L W w' := (hbA.mono hL).grown A2 (by rw [World.size_alloc]; omega) (fun k hk => (hvl k hk).1)
  refine ⟨_, w', hrun, ⟨ss ++ [.slice sa x.items.length sc], by simp [hl], ?_, fun j hj => ?_⟩, bL⟩
  · rw [rowC_snoc _ _ hl, List.length_append]
    exact A1
  · by_cases e : j < its.length
    · obtain ⟨h1, h2⟩ := hc j e
      rw [List.getElem_append_left (by omega), List.getElem_append_left e]
      exact ⟨h1.below (bL.mono hB), h2⟩
    · have ej : j = its.length := by rw [List.length_append, List.length_singleton] at hj; omega
      subst ej
      rw [List.getElem_append_right (by omega), List.getElem_append_right (by omega)]
      simp only [hl, Nat.sub_self, List.getElem_singleton]
      exact ⟨hx.below (bL.mono hB), ht⟩
end Go.Proofs.YtgglommnipbagaaGreatDoor

/- The reference's sorted: the set of some items. -/
namespace Go.Proofs.YtgglommnipbagaaGreatDoor
open Go.RowKit

/-- A part of a row. -/
theorem ItemsLo.part {lo0 : Nat} {w : World} {B n l c : Nat} {a : Option Addr} {its : List Vl} (h : ItemsLo lo0 w B (n + 1) (.slice a l c) its) (lo hi : Nat) (h1 : lo ≤ hi) (h2 : hi ≤ its.length) (hc : its.length ≤ c) :
    ItemsLo lo0 w B (n + 1) (.slice (if c = lo then a else a.map (·.add (lo * 5))) (hi - lo) (c - lo)) ((its.drop lo).take (hi - lo)) := by
  obtain ⟨a', c', e, hl, hcell⟩ := h
  cases e
  have hlen : ((its.drop lo).take (hi - lo)).length = hi - lo := by rw [List.length_take, List.length_drop]; omega
  refine ⟨_, c - lo, by rw [hlen], by rw [hlen]; omega, fun j hj => ?_⟩
  rw [hlen] at hj
  obtain ⟨b, off, s', ea, hb, q0, q1, q2, q3, q4, q5, q6⟩ := hcell (lo + j) (by omega)
  subst ea
  have e5 : off + lo * 5 + j * 5 = off + (lo + j) * 5 := by rw [Nat.add_mul]; omega
  have eg : ((its.drop lo).take (hi - lo))[j]'(by rw [hlen]; omega) = its[lo + j]'(by omega) := by rw [List.getElem_take, List.getElem_drop]
  rw [if_neg (by omega)]
  refine ⟨b, off + lo * 5, s', by rw [Option.map_some, Addr.add_lit], hb, ?_⟩
  rw [e5, eg]
  exact ⟨q0, q1, q2, q3, q4, q5, q6⟩
theorem setV_len (its : List Vl) : (setV its).length ≤ its.length := by
  unfold setV
  have h := (srt_perm its).length_eq
  cases hs : srt its with
  | nil => simp [dd]
  | cons a l => rw [hs] at h; rw [dd]; have := ddGo_len likeV l a; simp only [List.length_cons] at h ⊢; omega
theorem setV_short : ∀ {its : List Vl}, its.length < 2 → setV its = its
  | [], _ => setV_self List.Pairwise.nil
  | [a], _ => setV_self (List.pairwise_singleton _ _)
  | a :: b :: l, h => by simp only [List.length_cons] at h; omega
def slLen : Value → Nat
  | .slice _ l _ => l
  | _ => 0
def Roomy (lo : Nat) (w : World) (B n : Nat) (v : Value) (its : List Vl) : Prop := ∃ a c, v = .slice a its.length c ∧ its.length ≤ c ∧ ItemsLo lo w B (n + 1) v its
theorem Roomy.below {lo : Nat} {w w' : World} {B n : Nat} {v : Value} {its : List Vl} (h : Roomy lo w B n v its) (hb : Below B w w') : Roomy lo w' B n v its := by
  obtain ⟨a, c, e, hc, hi⟩ := h
  exact ⟨a, c, e, hc, hi.below hb⟩
theorem Roomy.up {lo : Nat} {w : World} {B B' n : Nat} {v : Value} {its : List Vl} (h : Roomy lo w B n v its) (hB : B ≤ B') : Roomy lo w B' n v its := by
  obtain ⟨a, c, e, hc, hi⟩ := h
  exact ⟨a, c, e, hc, hi.up hB⟩
theorem Roomy.nil {lo : Nat} {w : World} {B n : Nat} {v : Value} (h : Roomy lo w B n v []) : ∃ a c, v = .slice a 0 c := by
  obtain ⟨a, c, e, hc, hi⟩ := h
  exact ⟨a, c, e⟩
theorem Roomy.head {lo : Nat} {w : World} {B n : Nat} {v : Value} {x : Vl} {l : List Vl} (h : Roomy lo w B n v (x :: l)) : ∃ b off c s, v = .slice (some ⟨b, off, none⟩) (l.length + 1) c ∧ l.length + 1 ≤ c ∧ (lo ≤ b ∧ b < B) ∧
    w.cell? ⟨b, off, none⟩ = some (.int .i64 x.kind) ∧ w.cell? ⟨b, off + 1, none⟩ = some (.int .i64 x.int) ∧ w.cell? ⟨b, off + 2, none⟩ = some (.int .i64 x.im) ∧ w.cell? ⟨b, off + 3, none⟩ = some (.string x.text) ∧ w.cell? ⟨b, off + 4, none⟩ = some s ∧
    ItemsLo lo w B n s x.items ∧ x.ok ∧ Roomy lo w B n (.slice (if c = 1 then some ⟨b, off, none⟩ else some ⟨b, off + 5, none⟩) l.length (c - 1)) l := by
  obtain ⟨a, c, rfl, hc, hi⟩ := h
  obtain ⟨b, off, s, rfl, hb, q0, q1, q2, q3, q4, q5, q6⟩ := hi.item 0 (by simp)
  have hp := hi.part 1 (l.length + 1) (by omega) (by simp) hc
  simp only [List.drop_succ_cons, List.drop_zero, Nat.add_sub_cancel, List.take_length, Option.map_some, Addr.add_lit, Nat.one_mul] at hp
  simp only [Nat.zero_mul, Nat.add_zero] at q0 q1 q2 q3 q4
  exact ⟨b, off, c, s, rfl, hc, hb, q0, q1, q2, q3, q4, q5, q6, _, _, rfl, by simp only [List.length_cons] at hc; omega, hp⟩
theorem lexSorted : (Tryz.f98.body.bind (regOps 10)).map (Region.lexB .any) = some true := by kernel_rfl
theorem RowS.roomy {lo : Nat} {w : World} {L B n : Nat} {v : Value} {its : List Vl} (h : RowS lo w L B n v its) (hB : B ≤ w.heap.size) (hm : its.length ≤ maxLen) (hlo : lo ≤ L) : Roomy lo w w.heap.size n v its := by
  have hit := h.items hB hm hlo
  obtain ⟨ss, hss, how, _⟩ := h
  rcases how.2 with ⟨e, h0⟩ | ⟨g, cap, cur, e, _, _, h1, _⟩
  · exact ⟨none, 0, by rw [e, h0], by omega, hit⟩
  · exact ⟨_, cap, e, h1, hit⟩
def SortC (m : Nat) : Prop := ∀ (its : List Vl) (lo : Nat) (w : World) (B n : Nat) (v : Value), lo ≤ w.heap.size → its.length ≤ m → its.length ≤ 1000000000 → B ≤ w.heap.size → Roomy lo w B n v its →
  Calls Tryz.prog 98 #[v] w fun e w' => ∃ v', e = .returned v' ∧ Roomy lo w' w'.heap.size n v' (setV its) ∧ Below w.heap.size w w'
set_option maxRecDepth 100000 in
set_option maxHeartbeats 1000000 in
theorem sorted_short (its : List Vl) (lo : Nat) (w : World) (B n : Nat) (v : Value) (hs : its.length < 2) (hB : B ≤ w.heap.size) (h : Roomy lo w B n v its) :
    Calls Tryz.prog 98 #[v] w fun e w' => ∃ v', e = .returned v' ∧ Roomy lo w' w'.heap.size n v' (setV its) ∧ Below w.heap.size w w' := by
  obtain ⟨a, c, rfl, hc, hi⟩ := h
  have HI := hide hi
  have hs' : (its.length : Int) < 2 := by omega
  clear hi
  go_enter Tryz.func98, Tryz.ntmps98
  go_wp2
  go_ret
  exact ⟨_, rfl, by rw [setV_short hs]; exact ⟨a, c, rfl, hc, HI.out.up hB⟩, Below.refl _ _⟩
set_option maxRecDepth 100000 in
set_option maxHeartbeats 4000000 in
theorem sorted_step {m : Nat} (hC : SortC m) (its : List Vl) (lo : Nat) (w : World) (B n : Nat) (v : Value) (hlo : lo ≤ w.heap.size) (hm : its.length ≤ m + 1) (hl : its.length ≤ 1000000000) (hs : ¬ its.length < 2) (hB : B ≤ w.heap.size) (h : Roomy lo w B n v its) :
    Calls Tryz.prog 98 #[v] w fun e w' => ∃ v', e = .returned v' ∧ Roomy lo w' w'.heap.size n v' (setV its) ∧ Below w.heap.size w w' := by
  obtain ⟨a, c, rfl, hc, hi⟩ := h
  have hs' : ¬ (its.length : Int) < 2 := by omega
  obtain ⟨k, hk⟩ : ∃ k, its.length / 2 = k := ⟨_, rfl⟩
  have hkt : Int.tdiv (its.length : Int) 2 = (k : Int) := by rw [Int.tdiv_eq_ediv_of_nonneg (by omega)]; omega
  have hkw : IntKind.wrap .i64 (k : Int) = (k : Int) := by rw [IntKind.wrap_i64]; omega
  have hk0 : (0 : Int) ≤ (k : Int) := by omega
  have hk1 : (k : Int) ≤ (c : Int) := by omega
  have hk2 : (k : Int) ≤ (its.length : Int) := by omega
  have hk3 : ¬ c = k := by omega
  have hpa := hi.part 0 k (by omega) (by omega) hc
  have hpb := hi.part k its.length (by omega) (Nat.le_refl _) hc
  rw [if_neg hk3] at hpb
  rw [List.take_of_length_le (by rw [List.length_drop]; exact Nat.le_refl _)] at hpb
  have hz : (if c = 0 then a else a.map (·.add (0 * 5))) = a := by
    obtain ⟨b0, o0, _, ea, _⟩ := hi.item 0 (by omega)
    subst ea
    simp [Addr.add_lit]
  rw [hz, Nat.sub_zero, Nat.sub_zero, List.drop_zero] at hpa
  have HA := hide (fun (U : World) (b : Below w.heap.size w U) => hC (its.take k) lo U B n (.slice a k c) (Nat.le_trans hlo b.size) (by rw [List.length_take]; omega) (by rw [List.length_take]; omega) (by have := b.size; omega) ⟨a, c, by rw [List.length_take, Nat.min_eq_left (by omega)], by rw [List.length_take]; omega, hpa.below (b.mono hB)⟩)
  have HB := hide (fun (U : World) (b : Below w.heap.size w U) => hC (its.drop k) lo U B n (.slice (a.map (·.add (k * 5))) (its.length - k) (c - k)) (Nat.le_trans hlo b.size) (by rw [List.length_drop]; omega) (by rw [List.length_drop]; omega) (by have := b.size; omega) ⟨_, _, by rw [List.length_drop], by rw [List.length_drop]; omega, hpb.below (b.mono hB)⟩)
  clear hi hpa hpb hz
  have bd : Below w.heap.size w w.drew := below_drawn w
  go_enter Tryz.func98, Tryz.ntmps98
  go_wp2
  go_region_law
    (first
      | (go_simp; go_at_call 98; with_reducible refine (HA.out _ bd).mono ?_; clear HA; rintro e w1 ⟨v1, rfl, r1, b1⟩; have b1' := trans_v bd b1)
      | (go_simp; go_at_call 98; with_reducible refine (HB.out _ b1').mono ?_; clear HB; rintro e W ⟨v2, rfl, r2, b2⟩))
  have RA := (r1.below b2).up b2.size
  have bW : Below w.heap.size w W := trans_v b1' b2
  clear r1 b1 b1' b2 hkt hkw hk0 hk1 hk2 hk3 hs'
  obtain ⟨A, hA⟩ : ∃ A, setV (its.take k) = A := ⟨_, rfl⟩
  obtain ⟨D, hD⟩ : ∃ D, setV (its.drop k) = D := ⟨_, rfl⟩
  rw [hA] at RA
  rw [hD] at r2
  obtain ⟨S, hS⟩ : ∃ S, setV its = S := ⟨_, rfl⟩
  have HM : Hid (mrg (A.length + D.length) A D = S) := hide (by rw [← hS, ← hA, ← hD, mrg_set (Nat.le_refl _), List.take_append_drop])
  have HL : Hid (S.length ≤ its.length) := hide (by rw [← hS]; exact setV_len its)
  clear hA hD
  go_wp2
  go_loopw [3, 4, 5] (fun x3 x4 x5 wr => ∃ (la lb dn : List Vl) (f : Nat), la.length + lb.length ≤ f ∧ Roomy lo wr W.heap.size n x3 la ∧ Roomy lo wr W.heap.size n x4 lb ∧ RowS lo wr W.heap.size W.heap.size n x5 dn ∧ dn ++ mrg f la lb = S ∧ Below W.heap.size W wr) (fun x3 x4 _ _ => slLen x3 + slLen x4)
  case atStart => exact ⟨A, D, [], _, Nat.le_refl _, RA, r2, RowS.nil _ _ _ _ _, HM.out, Below.refl _ _⟩
  case round =>
    obtain ⟨la, lb, dn, f, hf, ra, rb, hrow, heq, hbel⟩ := hrel
    cases la with
    | nil =>
      cases lb with
      | nil =>
        obtain ⟨aa, ca, rfl⟩ := ra.nil
        obtain ⟨ab, cb, rfl⟩ := rb.nil
        have hdn : dn = S := by rw [← heq]; cases f <;> simp [mrg]
        subst hdn
        have HR := hide (hrow.roomy hbel.size (by have := HL.out; unfold maxLen; omega) (Nat.le_trans hlo bW.size))
        have HB2 := hide hbel
        clear hrow heq hbel ra rb
        go_wp2
        go_ret
        exact ⟨_, rfl, by rw [hS]; exact HR.out, trans_v bW HB2.out⟩
      | cons y lb =>
        obtain ⟨f, rfl⟩ : ∃ g, f = g + 1 := ⟨f - 1, by simp only [List.length_cons] at hf; omega⟩
        have heq' : (dn ++ [y]) ++ mrg f [] lb = S := by rw [← heq, mrg]; simp
        have hdl : dn.length + 1 ≤ 1000000000 := by have := HL.out; rw [← heq', List.length_append, List.length_append, List.length_singleton] at this; omega
        have hf' : ([] : List Vl).length + lb.length ≤ f := by simp only [List.length_cons] at hf; omega
        obtain ⟨b1, o1, c1, s1, rfl, hc1, hb1, q0, q1, q2, q3, q4, q5, q6, rt⟩ := rb.head
        obtain ⟨sa, sc, rfl, _⟩ := q5.len
        obtain ⟨v5, w5, hrun, O5, B5⟩ := hrow.push hbel.size (Nat.le_refl _) q5 q6 hdl 22
        have HRN := hide hrun
        have HO := hide O5
        have HT := hide (rt.below B5)
        have HA2 := hide (ra.below B5)
        have HB5 := hide (hbel.trans B5)
        have HF := hide hf'
        have HE := hide heq'
        obtain ⟨aa, ca, rfl⟩ := ra.nil
        have hn1 : (0 : Int) < ((lb.length + 1 : Nat) : Int) := by omega
        have hn2 : ¬ ((lb.length + 1 : Nat) : Int) = 0 := by omega
        have hn3 : (1 : Int) ≤ ((lb.length + 1 : Nat) : Int) := by omega
        clear hrun O5 B5 rt ra rb hrow heq heq' hf hf' hbel q5 q6
        generalize y.items.length = yl at *
        go_wp2_with (at_builtin; refine Lib.wpList_append_run _ rfl (.tmp 60) (.tmp 64) 22 22 rfl _ _ rfl rfl _ _ HRN.out ?_; clear HRN)
        go_roundw
        case rel => exact ⟨[], lb, _, f, HF.out, HA2.out, HT.out, HO.out, HE.out, HB5.out⟩
        case measure => simp [slLen]
    | cons x la =>
      obtain ⟨f, rfl⟩ : ∃ g, f = g + 1 := ⟨f - 1, by simp only [List.length_cons] at hf; omega⟩
      have hm1 : (0 : Int) < ((la.length + 1 : Nat) : Int) := by omega
      have hm2 : ¬ ((la.length + 1 : Nat) : Int) = 0 := by omega
      have hm3 : (1 : Int) ≤ ((la.length + 1 : Nat) : Int) := by omega
      cases lb with
      | nil =>
        have heq' : (dn ++ [x]) ++ mrg f la [] = S := by rw [← heq, mrg]; simp
        have hdl : dn.length + 1 ≤ 1000000000 := by have := HL.out; rw [← heq', List.length_append, List.length_append, List.length_singleton] at this; omega
        have hf' : la.length + ([] : List Vl).length ≤ f := by simp only [List.length_cons] at hf; omega
        obtain ⟨b1, o1, c1, s1, rfl, hc1, hb1, q0, q1, q2, q3, q4, q5, q6, rt⟩ := ra.head
        obtain ⟨sa, sc, rfl, _⟩ := q5.len
        obtain ⟨v5, w5, hrun, O5, B5⟩ := hrow.push hbel.size (Nat.le_refl _) q5 q6 hdl 22
        have HRN := hide hrun
        have HO := hide O5
        have HT := hide (rt.below B5)
        have HA2 := hide (rb.below B5)
        have HB5 := hide (hbel.trans B5)
        have HF := hide hf'
        have HE := hide heq'
        obtain ⟨aa, ca, rfl⟩ := rb.nil
        clear hrun O5 B5 rt ra rb hrow heq heq' hf hf' hbel q5 q6
        generalize x.items.length = yl at *
        go_wp2_with (at_builtin; refine Lib.wpList_append_run _ rfl (.tmp 48) (.tmp 52) 22 22 rfl _ _ rfl rfl _ _ HRN.out ?_; clear HRN)
        go_roundw
        case rel => exact ⟨la, [], _, f, HF.out, HT.out, HA2.out, HO.out, HE.out, HB5.out⟩
        case measure => simp [slLen]
      | cons y lb =>
        have hn1 : (0 : Int) < ((lb.length + 1 : Nat) : Int) := by omega
        have hn2 : ¬ ((lb.length + 1 : Nat) : Int) = 0 := by omega
        have hn3 : (1 : Int) ≤ ((lb.length + 1 : Nat) : Int) := by omega
        have HRA := hide ra
        have HRB := hide rb
        obtain ⟨b1, o1, c1, s1, rfl, hc1, hb1, q0, q1, q2, q3, q4, q5, q6, rt⟩ := ra.head
        obtain ⟨b2, o2, c2, s2, rfl, hc2, hb2, p0, p1, p2, p3, p4, p5, p6, st⟩ := rb.head
        obtain ⟨sa, sc, rfl, _⟩ := q5.len
        obtain ⟨sa2, sc2, rfl, _⟩ := p5.len
        have v0 := fun q : Wv wr => q.cell q0
        have v1 := fun q : Wv wr => q.cell q1
        have v2 := fun q : Wv wr => q.cell q2
        have v3 := fun q : Wv wr => q.cell q3
        have v4 := fun q : Wv wr => q.cell q4
        have u0 := fun q : Wv wr => q.cell p0
        have u1 := fun q : Wv wr => q.cell p1
        have u2 := fun q : Wv wr => q.cell p2
        have u3 := fun q : Wv wr => q.cell p3
        have u4 := fun q : Wv wr => q.cell p4
        have hsz := hbel.size
        have HQ := hide (fun q : Wv wr => refOrder_k n x y q.val W.heap.size n _ _ (by have := q.below.size; omega) (q5.at.below (q.below.mono hsz)) (p5.at.below (q.below.mono hsz)))
        have HX := hide (And.intro q5 q6)
        have HY := hide (And.intro p5 p6)
        have HTA := hide rt
        have HTB := hide st
        have HROW := hide hrow
        have HBEL := hide hbel
        have HEQ := hide heq
        have HF := hide hf
        have hany := Wv.any wr
        clear q0 q1 q2 q3 q4 q5 q6 p0 p1 p2 p3 p4 p5 p6 rt st hrow hbel heq hf ra rb
        generalize hxi : x.items.length = xl at *
        generalize hyi : y.items.length = yl at *
        go_wp2
        refine wp_region_grown (by kernel_rfl) (lex_of lexSorted (by kernel_rfl)) ?_
        repeat (go_big_quiet_step ((go_at_call 84; exact Wv.calls _ (HQ.out _))))
        refine wpQuiet_nil ?_
        intro w1 hw'
        obtain ⟨q, rfl⟩ := hw'
        have hqb := (q.below.mono hsz)
        rcases Int.lt_trichotomy (ordV x y) 0 with ho | ho | ho
        · have heq' : (dn ++ [x]) ++ mrg f la (y :: lb) = S := by rw [← HEQ.out, mrg, if_pos ho]; simp
          have hdl : dn.length + 1 ≤ 1000000000 := by have := HL.out; rw [← heq', List.length_append, List.length_append, List.length_singleton] at this; omega
          have hf' : la.length + (y :: lb).length ≤ f := by have := HF.out; simp only [List.length_cons] at this ⊢; omega
          subst hxi
          obtain ⟨v5, w5, hrun, O5, B5⟩ := (HROW.out.below hsz q.below).push (trans_v HBEL.out q.below).size (Nat.le_refl _) (HX.out.1.below hqb) HX.out.2 hdl 22
          have HRN := hide hrun
          have HO := hide O5
          have HT := hide ((HTA.out.below hqb).below B5)
          have HU := hide ((HRB.out.below hqb).below B5)
          have HB5 := hide ((HBEL.out.trans hqb).trans B5)
          have HF2 := hide hf'
          have HE := hide heq'
          have o1' : ordV x y ≤ 0 := by omega
          have o2' : ¬ 0 ≤ ordV x y := by omega
          clear hrun O5 B5 heq' hf' HTA HTB HRA HRB HROW HBEL HEQ HF HX HY HQ
          generalize x.items.length = xl at *
          generalize ordV x y = oo at *
          have v0' := v0 q
          have v1' := v1 q
          have v2' := v2 q
          have v3' := v3 q
          have v4' := v4 q
          go_wp2_with (at_builtin; refine Lib.wpList_append_run _ rfl (.tmp 48) (.tmp 52) 22 22 rfl _ _ rfl rfl _ _ HRN.out ?_; clear HRN)
          go_roundw
          case rel => exact ⟨la, y :: lb, _, f, HF2.out, HT.out, HU.out, HO.out, HE.out, HB5.out⟩
          case measure => simp [slLen]
        · have heq' : (dn ++ [x]) ++ mrg f la lb = S := by rw [← HEQ.out, mrg, if_neg (by omega), if_pos ho]; simp
          have hdl : dn.length + 1 ≤ 1000000000 := by have := HL.out; rw [← heq', List.length_append, List.length_append, List.length_singleton] at this; omega
          have hf' : la.length + lb.length ≤ f := by have := HF.out; simp only [List.length_cons] at this ⊢; omega
          subst hxi
          obtain ⟨v5, w5, hrun, O5, B5⟩ := (HROW.out.below hsz q.below).push (trans_v HBEL.out q.below).size (Nat.le_refl _) (HX.out.1.below hqb) HX.out.2 hdl 22
          have HRN := hide hrun
          have HO := hide O5
          have HT := hide ((HTA.out.below hqb).below B5)
          have HU := hide ((HTB.out.below hqb).below B5)
          have HB5 := hide ((HBEL.out.trans hqb).trans B5)
          have HF2 := hide hf'
          have HE := hide heq'
          clear hrun O5 B5 heq' hf' HTA HTB HRA HRB HROW HBEL HEQ HF HX HY HQ
          generalize x.items.length = xl at *
          generalize ordV x y = oo at *
          subst ho
          go_wp2_with (at_builtin; refine Lib.wpList_append_run _ rfl (.tmp 48) (.tmp 52) 22 22 rfl _ _ rfl rfl _ _ HRN.out ?_; clear HRN)
          go_roundw
          case rel => exact ⟨la, lb, _, f, HF2.out, HT.out, HU.out, HO.out, HE.out, HB5.out⟩
          case measure => simp [slLen]; omega
        · have heq' : (dn ++ [y]) ++ mrg f (x :: la) lb = S := by rw [← HEQ.out, mrg, if_neg (by omega), if_neg (by omega)]; simp
          have hdl : dn.length + 1 ≤ 1000000000 := by have := HL.out; rw [← heq', List.length_append, List.length_append, List.length_singleton] at this; omega
          have hf' : (x :: la).length + lb.length ≤ f := by have := HF.out; simp only [List.length_cons] at this ⊢; omega
          subst hyi
          obtain ⟨v5, w5, hrun, O5, B5⟩ := (HROW.out.below hsz q.below).push (trans_v HBEL.out q.below).size (Nat.le_refl _) (HY.out.1.below hqb) HY.out.2 hdl 22
          have HRN := hide hrun
          have HO := hide O5
          have HT := hide ((HRA.out.below hqb).below B5)
          have HU := hide ((HTB.out.below hqb).below B5)
          have HB5 := hide ((HBEL.out.trans hqb).trans B5)
          have HF2 := hide hf'
          have HE := hide heq'
          have o1' : ¬ ordV x y ≤ 0 := by omega
          have o2' : 0 ≤ ordV x y := by omega
          have o3' : 0 < ordV x y := by omega
          clear hrun O5 B5 heq' hf' HTA HTB HRA HRB HROW HBEL HEQ HF HX HY HQ
          generalize y.items.length = yl at *
          generalize ordV x y = oo at *
          go_wp2_with (at_builtin; refine Lib.wpList_append_run _ rfl (.tmp 60) (.tmp 64) 22 22 rfl _ _ rfl rfl _ _ HRN.out ?_; clear HRN)
          go_roundw
          case rel => exact ⟨x :: la, lb, _, f, HF2.out, HT.out, HU.out, HO.out, HE.out, HB5.out⟩
          case measure => simp [slLen]
/-- The reference's sorted answers the set of the items. -/
theorem sorted_k : ∀ m, SortC m
  | 0 => fun its lo w B n v _ h0 _ hB h => sorted_short its lo w B n v (by omega) hB h
  | m + 1 => fun its lo w B n v hlo h0 hl hB h => by
    by_cases hs : its.length < 2
    · exact sorted_short its lo w B n v hs hB h
    · exact sorted_step (sorted_k m) its lo w B n v hlo h0 hl hs hB h
end Go.Proofs.YtgglommnipbagaaGreatDoor
