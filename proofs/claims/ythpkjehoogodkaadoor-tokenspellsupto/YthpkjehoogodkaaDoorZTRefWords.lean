/- The document's words of a line. -/
import Derived.Test.YthpkjehoogodkaaDoorGAt
import Derived.Test.YthpkjehoogodkaaDoorZTCutWalk
namespace Go.Proofs.YthpkjehoogodkaaDoor
open Go.RowKit

def rwCells (l : List Wd) : List Value := l.flatMap fun x => [.string (str x.text), .int .i64 x.off, .int .i64 x.col]
theorem rwCells_snoc (l : List Wd) (x : Wd) : rwCells (l ++ [x]) = rwCells l ++ [.string (str x.text), .int .i64 x.off, .int .i64 x.col] := by simp [rwCells]
/-- Where one is: at the rune number i, which begins at k. -/
def At (L : List UInt8) (i k : Nat) : Prop := (rs L).drop i = rsT k (ru (L.drop k)) ∧ k ≤ L.length
theorem At.start (L : List UInt8) : At L 0 0 := ⟨rfl, Nat.zero_le _⟩
theorem At.get {L : List UInt8} {i k : Nat} (h : At L i k) (hi : i < (rs L).length) : k < L.length ∧ (rs L)[i] = (rv (L.drop k), k, wd (L.drop k)) ∧ At L (i + 1) (k + wd (L.drop k)) := by
  have hd := h.1
  rw [List.drop_eq_getElem_cons hi] at hd
  have hne : L.drop k ≠ [] := by
    intro e
    rw [e, ru_nil, rsT] at hd
    cases hd
  have hw := wd_le _ hne
  rw [List.length_drop] at hw
  have hp := wd_pos (L.drop k)
  rw [ru_step _ hne, rsT] at hd
  obtain ⟨h1, h2⟩ := List.cons.inj hd
  rw [List.drop_drop] at h2
  exact ⟨by omega, h1, h2, by omega⟩
theorem At.done {L : List UInt8} {i k : Nat} (h : At L i k) (hi : ¬ i < (rs L).length) : k = L.length := by
  have hd := h.1
  rw [List.drop_of_length_le (by omega)] at hd
  by_cases hk : k < L.length
  · have hne : L.drop k ≠ [] := by
      intro e
      have := congrArg List.length e
      rw [List.length_drop] at this
      simp at this
      omega
    rw [ru_step _ hne, rsT] at hd
    cases hd
  · have := h.2
    omega
theorem wds_word (off col : Nat) (l : List UInt8) (hl : l ≠ []) (hb : isBlank (rv l) = false) (h35 : rv l ≠ 35) : wds off col false l = ⟨tw l, off, col + 1⟩ :: wds off col true l := by
  rw [wds_step off col false l hl, wds_step off col true l hl, hb]
  simp [h35]
theorem wds_blank (off col : Nat) (l : List UInt8) (h : l = [] ∨ isBlank (rv l) = true) : wds off col true l = wds off col false l := by
  by_cases hl : l = []
  · subst hl
    rw [wds_nil, wds_nil]
  · have hb : isBlank (rv l) = true := h.resolve_left hl
    rw [wds_step off col true l hl, wds_step off col false l hl, hb]
    rfl
theorem tw_blank (l : List UInt8) (h : l = [] ∨ isBlank (rv l) = true) : tw l = [] := by
  by_cases hl : l = []
  · subst hl
    rfl
  · exact (blank_head l hl (h.resolve_left hl)).2.1
theorem wds_go (off col : Nat) (l : List UInt8) (hl : l ≠ []) (hb : isBlank (rv l) = false) : wds off col true l = wds (off + wd l) (col + 1) true (l.drop (wd l)) := by
  rw [wds_step off col true l hl, hb]
  rfl
theorem tw_head (l : List UInt8) (hl : l ≠ []) (hb : isBlank (rv l) = false) : 0 < (tw l).length ∧ (tw l).getD 0 0 = l.getD 0 0 ∧ (rv l = 35 ↔ (l.getD 0 0).toNat = 35) := by
  have htw := tw_rune l hl hb
  have hw := wd_pos l
  have hw2 := wd_le l hl
  have h0 : 0 < (tw l).length := by
    rw [htw, List.length_append, List.length_take]
    omega
  have hpre : (tw l) = l.take (tw l).length := (List.prefix_iff_eq_take.1 (List.takeWhile_prefix _))
  refine ⟨h0, ?_, ?_⟩
  · rw [hpre, List.getD_eq_getElem?_getD, List.getElem?_take, if_pos h0, ← List.getD_eq_getElem?_getD]
  · obtain ⟨d, t', rfl⟩ : ∃ c t', l = c :: t' := by cases l with | nil => exact absurd rfl hl | cons c t' => exact ⟨c, t', rfl⟩
    exact rv_low_iff d t' 35 (by decide)
theorem take_more2 (l : List UInt8) (k p n : Nat) (hk : k ≤ p) : (l.drop k).take (p + n - k) = (l.drop k).take (p - k) ++ (l.drop p).take n := by
  have e : p + n - k = (p - k) + n := by omega
  rw [e, List.take_add, List.drop_drop]
  have e2 : k + (p - k) = p := by omega
  rw [e2]

end Go.Proofs.YthpkjehoogodkaaDoor
