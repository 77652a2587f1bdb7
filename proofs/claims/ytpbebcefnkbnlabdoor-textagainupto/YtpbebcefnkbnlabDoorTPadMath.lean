/- Runes of a text with blanks behind it. -/
import Derived.Test.YtpbebcefnkbnlabDoorTRefRunes
namespace Go.Proofs.YtpbebcefnkbnlabDoor
open Go.RowKit

/-- Decoding looks at a byte behind the first only if it is there and goes on a rune. -/
theorem decodeN_alike {n m b0 b1 b2 b3 c1 c2 c3 : Nat} (h1 : (1 < n ∧ b1 / 64 = 2 ∧ 1 < m ∧ c1 = b1) ∨ (¬ (1 < n ∧ b1 / 64 = 2) ∧ ¬ (1 < m ∧ c1 / 64 = 2)))
    (h2 : (2 < n ∧ b2 / 64 = 2 ∧ 2 < m ∧ c2 = b2) ∨ (¬ (2 < n ∧ b2 / 64 = 2) ∧ ¬ (2 < m ∧ c2 / 64 = 2)))
    (h3 : (3 < n ∧ b3 / 64 = 2 ∧ 3 < m ∧ c3 = b3) ∨ (¬ (3 < n ∧ b3 / 64 = 2) ∧ ¬ (3 < m ∧ c3 / 64 = 2))) : Lib.decodeN n b0 b1 b2 b3 = Lib.decodeN m b0 c1 c2 c3 := by
  unfold Lib.decodeN
  rcases h1 with ⟨a1, a2, a3, rfl⟩ | ⟨a1, a2⟩
  · rcases h2 with ⟨d1, d2, d3, rfl⟩ | ⟨d1, d2⟩
    · rcases h3 with ⟨e1, e2, e3, rfl⟩ | ⟨e1, e2⟩
      · simp only [a1, a2, a3, d1, d2, d3, e1, e2, e3]
      · simp only [a1, a2, a3, d1, d2, d3, e1, e2, and_false, if_false]
    · simp only [a1, a2, a3, d1, d2, false_and, and_false, if_false]
  · simp only [a1, a2, false_and, and_false, if_false]

theorem getD_app (l t : List UInt8) (j : Nat) : (l ++ t).getD j 0 = if j < l.length then l.getD j 0 else t.getD (j - l.length) 0 := by
  rw [List.getD_eq_getElem?_getD, List.getD_eq_getElem?_getD, List.getD_eq_getElem?_getD, List.getElem?_append]
  split <;> rfl
/-- What stands behind a text and goes on none of its runes changes none of them. -/
theorem dec_app (l t : List UInt8) (hl : l ≠ []) (ht : ∀ j, (t.getD j 0).toNat / 64 ≠ 2) : Lib.decodeL (l ++ t) = Lib.decodeL l := by
  have hp : 0 < l.length := List.length_pos_iff.2 hl
  rw [Lib.decodeL_N, Lib.decodeL_N, getD_app l t 0, if_pos hp]
  have key : ∀ j, (j < l.length ∧ (l.getD j 0).toNat / 64 = 2 ∧ j < (l ++ t).length ∧ ((l ++ t).getD j 0).toNat = (l.getD j 0).toNat) ∨ (¬ (j < l.length ∧ (l.getD j 0).toNat / 64 = 2) ∧ ¬ (j < (l ++ t).length ∧ ((l ++ t).getD j 0).toNat / 64 = 2)) := by
    intro j
    rw [getD_app]
    by_cases hj : j < l.length
    · rw [if_pos hj]
      by_cases hq : (l.getD j 0).toNat / 64 = 2
      · exact .inl ⟨hj, hq, by rw [List.length_append]; omega, rfl⟩
      · exact .inr ⟨fun h => hq h.2, fun h => hq h.2⟩
    · rw [if_neg hj]
      exact .inr ⟨fun h => hj h.1, fun h => ht _ h.2⟩
  exact (decodeN_alike (key 1) (key 2) (key 3)).symm
theorem ru_app (t : List UInt8) (ht : ∀ j, (t.getD j 0).toNat / 64 ≠ 2) : ∀ l : List UInt8, ru (l ++ t) = ru l ++ ru t := by
  refine ru_ind (by simp [ru_nil]) ?_
  intro l hl ih
  have hd := dec_app l t hl ht
  have e1 : rv (l ++ t) = rv l := by unfold rv; rw [hd]
  have e2 : wd (l ++ t) = wd l := by unfold wd; rw [hd]
  have hw := wd_le l hl
  rw [ru_step (l ++ t) (by simp [hl]), ru_step l hl, e1, e2, List.drop_append_of_le_length hw, ih]
  rfl
theorem rep_getD (m j : Nat) : ((List.replicate m (32 : UInt8)).getD j 0).toNat / 64 ≠ 2 := by
  rw [List.getD_eq_getElem?_getD, List.getElem?_replicate]
  split <;> decide
theorem ru_rep : ∀ m : Nat, ru (List.replicate m (32 : UInt8)) = List.replicate m (32, 1)
  | 0 => rfl
  | m + 1 => by
    have h := rv_ascii 32 (List.replicate m (32 : UInt8)) (by decide)
    rw [List.replicate_succ, ru_step _ (by simp), h.1, h.2, List.drop_one, List.tail_cons, ru_rep m, List.replicate_succ]
    rfl
theorem ru_pad (l : List UInt8) (m : Nat) : (ru (l ++ List.replicate m 32)).length = (ru l).length + m := by
  rw [ru_app _ (rep_getD m), ru_rep, List.length_append, List.length_replicate]

set_option maxRecDepth 100000 in
theorem refWidth_k (s : ByteArray) (hs : s.size ≤ 1048576) (w : World) :
    Calls Tryd.prog 27 #[.string s] w fun e w' => e = .returned (.int .i64 (ru s.data.toList).length) ∧ Below w.heap.size w w' := by
  have h := refRunes_k s hs w
  rw [rs_length] at h
  go_enter Tryd.func27, Tryd.ntmps27
  go_wp2_with (go_at_call 30; refine h.mono ?_; rintro e w1 ⟨v, rfl, h1, hb⟩; obtain ⟨a, c, rfl⟩ := row_slice h1)
  go_ret
  exact ⟨rfl, hb⟩
end Go.Proofs.YtpbebcefnkbnlabDoor
