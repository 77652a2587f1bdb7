/- The set of some items: one strictly rising row. -/
import Derived.Test.YthmhcpghfbifiaaGreatDoorGE6
import Derived.Test.YthmhcpghfbifiaaGreatDoorGTot
namespace Go.Proofs.YthmhcpghfbifiaaGreatDoor

/-- The set of some items. -/
def setV (its : List Vl) : List Vl := dd likeV (srt its)
theorem likeV_iff {x y : Vl} : likeV x y = true ↔ x = y := by
  unfold likeV
  rw [beq_iff_eq]
  exact ⟨ordV_zero, fun h => by rw [h]; exact ordV_self y⟩
theorem ordV_irr {x : Vl} : ¬ ordV x x < 0 := by rw [ordV_self]; omega
/-- Strictly rising. -/
abbrev Rises (l : List Vl) : Prop := l.Pairwise (fun x y => ordV x y < 0)
theorem lt_of_le_ne {x y : Vl} (h : ordV x y ≤ 0) (hn : likeV x y = false) : ordV x y < 0 := by
  rcases Int.lt_or_eq_of_le h with h | h
  · exact h
  · rw [likeV_iff.2 (ordV_zero h)] at hn
    cases hn
theorem ddGo_facts : ∀ (l : List Vl) (p : Vl), (p :: l).Pairwise (fun x y => ordV x y ≤ 0) → Rises (p :: ddGo likeV p l) ∧ ∀ x, x ∈ p :: ddGo likeV p l ↔ x ∈ p :: l
  | [], p, _ => by simp [ddGo]
  | a :: l, p, h => by
    have hpa : ordV p a ≤ 0 := (List.pairwise_cons.1 h).1 a (by simp)
    have hal := (List.pairwise_cons.1 h).2
    have hpl : (p :: l).Pairwise (fun x y => ordV x y ≤ 0) := List.pairwise_cons.2 ⟨fun y hy => (List.pairwise_cons.1 h).1 y (by simp [hy]), (List.pairwise_cons.1 hal).2⟩
    rw [ddGo]
    cases he : likeV a p
    · have ih := ddGo_facts l a hal
      have he' : likeV p a = false := by
        cases h' : likeV p a with
        | false => rfl
        | true => rw [likeV_iff.2 (likeV_iff.1 h').symm] at he; cases he
      have hlt := lt_of_le_ne hpa he'
      simp only [Bool.false_eq_true, if_false]
      refine ⟨List.pairwise_cons.2 ⟨fun y hy => ?_, ih.1⟩, fun x => ?_⟩
      · rcases List.mem_cons.1 hy with rfl | hy
        · exact hlt
        · exact ordV_trans hlt ((List.pairwise_cons.1 ih.1).1 y hy)
      · have := ih.2 x
        simp only [List.mem_cons] at this ⊢
        rw [this]
    · obtain rfl := likeV_iff.1 he
      have ih := ddGo_facts l _ hpl
      simp only [if_true]
      refine ⟨ih.1, fun x => ?_⟩
      have := ih.2 x
      simp only [List.mem_cons] at this ⊢
      rw [this]
      simp
theorem setV_rises (its : List Vl) : Rises (setV its) := by
  unfold setV
  have h := srt_pair its
  cases hs : srt its with
  | nil => simp [dd]
  | cons a l => rw [hs] at h; rw [dd]; exact (ddGo_facts l a h).1
theorem setV_mem (its : List Vl) (x : Vl) : x ∈ setV its ↔ x ∈ its := by
  unfold setV
  have h := srt_pair its
  have hp := (srt_perm its).mem_iff (a := x)
  cases hs : srt its with
  | nil => rw [hs] at hp; simpa [dd] using hp
  | cons a l => rw [hs] at h hp; rw [dd, (ddGo_facts l a h).2 x]; exact hp
theorem rises_only : ∀ {l r : List Vl}, Rises l → Rises r → (∀ x, x ∈ l ↔ x ∈ r) → l = r
  | [], [], _, _, _ => rfl
  | [], b :: r, _, _, h => by have := (h b).2 (by simp); simp at this
  | a :: l, [], _, _, h => by have := (h a).1 (by simp); simp at this
  | a :: l, b :: r, hl, hr, h => by
    have hl' := List.pairwise_cons.1 hl
    have hr' := List.pairwise_cons.1 hr
    have hab : a = b := by
      rcases List.mem_cons.1 ((h a).1 (by simp)) with e | ha
      · exact e
      · rcases List.mem_cons.1 ((h b).2 (by simp)) with e | hb
        · exact e.symm
        · exact absurd (ordV_trans (hr'.1 a ha) (hl'.1 b hb)) ordV_irr
    subst hab
    rw [rises_only hl'.2 hr'.2 fun x => ⟨fun hx => ?_, fun hx => ?_⟩]
    · rcases List.mem_cons.1 ((h x).1 (by simp [hx])) with rfl | e
      · exact absurd (hl'.1 x hx) ordV_irr
      · exact e
    · rcases List.mem_cons.1 ((h x).2 (by simp [hx])) with rfl | e
      · exact absurd (hr'.1 x hx) ordV_irr
      · exact e
/-- A strictly rising row of just these items is their set. -/
theorem setV_only {l its : List Vl} (hl : Rises l) (hm : ∀ x, x ∈ l ↔ x ∈ its) : l = setV its := rises_only hl (setV_rises its) fun x => (hm x).trans (setV_mem its x).symm
theorem setV_self {l : List Vl} (hl : Rises l) : setV l = l := (setV_only hl fun _ => Iff.rfl).symm
/-- Two strictly rising rows put together, of like ones one alone; f bounds how many. -/
def mrg : Nat → List Vl → List Vl → List Vl
  | 0, _, _ => []
  | f + 1, a, b => match a, b with
    | [], [] => []
    | x :: a, [] => x :: mrg f a []
    | [], y :: b => y :: mrg f [] b
    | x :: a, y :: b => if ordV x y < 0 then x :: mrg f a (y :: b) else if ordV x y = 0 then x :: mrg f a b else y :: mrg f (x :: a) b
theorem mrg_facts : ∀ (f : Nat) (a b : List Vl), a.length + b.length ≤ f → Rises a → Rises b → Rises (mrg f a b) ∧ ∀ x, x ∈ mrg f a b ↔ x ∈ a ∨ x ∈ b
  | 0, a, b, h, _, _ => by
    obtain rfl : a = [] := List.length_eq_zero_iff.1 (by omega)
    obtain rfl : b = [] := List.length_eq_zero_iff.1 (by omega)
    simp [mrg]
  | f + 1, [], [], _, _, _ => by simp [mrg]
  | f + 1, x :: a, [], h, ha, hb => by
    have ha' := List.pairwise_cons.1 ha
    have ih := mrg_facts f a [] (by simp at h ⊢; omega) ha'.2 hb
    rw [mrg]
    refine ⟨List.pairwise_cons.2 ⟨fun y hy => ?_, ih.1⟩, fun y => ?_⟩
    · have := (ih.2 y).1 hy
      simp only [List.not_mem_nil, or_false] at this
      exact ha'.1 y this
    · simp only [List.mem_cons, ih.2 y, List.not_mem_nil, or_false]
  | f + 1, [], y :: b, h, ha, hb => by
    have hb' := List.pairwise_cons.1 hb
    have ih := mrg_facts f [] b (by simp at h ⊢; omega) ha hb'.2
    rw [mrg]
    refine ⟨List.pairwise_cons.2 ⟨fun x hx => ?_, ih.1⟩, fun x => ?_⟩
    · have := (ih.2 x).1 hx
      simp only [List.not_mem_nil, false_or] at this
      exact hb'.1 x this
    · simp only [List.mem_cons, ih.2 x, List.not_mem_nil, false_or]
  | f + 1, x :: a, y :: b, h, ha, hb => by
    have ha' := List.pairwise_cons.1 ha
    have hb' := List.pairwise_cons.1 hb
    rw [mrg]
    by_cases h1 : ordV x y < 0
    · rw [if_pos h1]
      have ih := mrg_facts f a (y :: b) (by simp at h ⊢; omega) ha'.2 hb
      refine ⟨List.pairwise_cons.2 ⟨fun z hz => ?_, ih.1⟩, fun z => ?_⟩
      · rcases (ih.2 z).1 hz with hz | hz
        · exact ha'.1 z hz
        · rcases List.mem_cons.1 hz with rfl | hz
          · exact h1
          · exact ordV_trans h1 (hb'.1 z hz)
      · simp only [List.mem_cons, ih.2 z, or_assoc]
    · rw [if_neg h1]
      by_cases h2 : ordV x y = 0
      · rw [if_pos h2]
        obtain rfl := ordV_zero h2
        have ih := mrg_facts f a b (by simp at h ⊢; omega) ha'.2 hb'.2
        refine ⟨List.pairwise_cons.2 ⟨fun z hz => ?_, ih.1⟩, fun z => ?_⟩
        · rcases (ih.2 z).1 hz with hz | hz
          · exact ha'.1 z hz
          · exact hb'.1 z hz
        · simp only [List.mem_cons, ih.2 z]
          constructor
          · rintro (e | e | e)
            · exact .inl (.inl e)
            · exact .inl (.inr e)
            · exact .inr (.inr e)
          · rintro ((e | e) | (e | e))
            · exact .inl e
            · exact .inr (.inl e)
            · exact .inl e
            · exact .inr (.inr e)
      · rw [if_neg h2]
        have hyx : ordV y x < 0 := by rw [ordV_anti x y]; omega
        have ih := mrg_facts f (x :: a) b (by simp at h ⊢; omega) ha hb'.2
        refine ⟨List.pairwise_cons.2 ⟨fun z hz => ?_, ih.1⟩, fun z => ?_⟩
        · rcases (ih.2 z).1 hz with hz | hz
          · rcases List.mem_cons.1 hz with rfl | hz
            · exact hyx
            · exact ordV_trans hyx (ha'.1 z hz)
          · exact hb'.1 z hz
        · simp only [List.mem_cons, ih.2 z]
          constructor
          · rintro (e | (e | e) | e)
            · exact .inr (.inl e)
            · exact .inl (.inl e)
            · exact .inl (.inr e)
            · exact .inr (.inr e)
          · rintro ((e | e) | (e | e))
            · exact .inr (.inl (.inl e))
            · exact .inr (.inl (.inr e))
            · exact .inl e
            · exact .inr (.inr e)
/-- Two sets put together are the set of all their items. -/
theorem mrg_set {f : Nat} {l r : List Vl} (h : (setV l).length + (setV r).length ≤ f) : mrg f (setV l) (setV r) = setV (l ++ r) := by
  have := mrg_facts f _ _ h (setV_rises l) (setV_rises r)
  exact setV_only this.1 fun x => by rw [this.2 x, setV_mem, setV_mem, List.mem_append]
end Go.Proofs.YthmhcpghfbifiaaGreatDoor
