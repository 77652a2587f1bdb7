/- Where words stand: between them blanks alone, behind the last up to a remark. -/
import Derived.Test.YthpkjehoogodkaaDoorZTRefRune
namespace Go.Proofs.YthpkjehoogodkaaDoor
open Go.RowKit

/-- Is the byte at a place a blank? -/
def bl (s : ByteArray) (k : Nat) : Prop := bt s k = 32 ∨ bt s k = 9 ∨ bt s k = 13

def CutOK (s : ByteArray) : Nat → List Wd → Prop
  | a, [] => ∃ m, a ≤ m ∧ m ≤ s.size ∧ (∀ k, a ≤ k → k < m → bl s k) ∧ (m = s.size ∨ (m < s.size ∧ bt s m = 35 ∧ (m = 0 ∨ bl s (m - 1))))
  | a, w :: ws => a ≤ w.off ∧ (∀ k, a ≤ k → k < w.off → bl s k) ∧ 0 < w.text.length ∧ (w.text.getD 0 0).toNat ≠ 35 ∧ w.off + w.text.length ≤ s.size ∧ (s.data.toList.drop w.off).take w.text.length = w.text ∧ CutOK s (w.off + w.text.length) ws

theorem rv_bt (s : ByteArray) (k c : Nat) (h : k < s.size) (hc : c < 128) : rv (s.data.toList.drop k) = (c : Int) ↔ bt s k = c := by
  rw [drop_byte s k h]
  exact rv_low_iff _ _ c hc

theorem cut_ok (s : ByteArray) : ∀ (t : List UInt8) (off col : Nat), s.data.toList.drop off = t → off ≤ s.size →
    (∀ a, a ≤ off → (∀ k, a ≤ k → k < off → bl s k) → (off = 0 ∨ bl s (off - 1)) → CutOK s a (wds off col false t)) ∧ CutOK s (off + (tw t).length) (wds off col true t) := by
  have hlen : s.data.toList.length = s.size := by rw [Array.length_toList]; rfl
  refine ru_ind ?_ ?_
  · intro off col hd ho
    have he : off = s.size := by
      have := congrArg List.length hd
      rw [List.length_drop, hlen] at this
      simp at this
      omega
    refine ⟨fun a ha hb _ => ?_, ?_⟩
    · rw [wds_nil]
      exact ⟨off, ha, ho, hb, .inl he⟩
    · rw [wds_nil]
      exact ⟨off, by simp [tw], ho, fun k h1 h2 => by simp [tw] at h1; omega, .inl he⟩
  · intro t ht ih off col hd ho
    have hlt : off < s.size := by
      have h1 : 0 < t.length := List.length_pos_iff.2 ht
      rw [← hd, List.length_drop, hlen] at h1
      omega
    have hw1 := wd_pos t
    have hw2 := wd_le t ht
    have htl : t.length = s.size - off := by rw [← hd, List.length_drop, hlen]
    obtain ⟨i1, i2⟩ := ih (off + wd t) (col + 1) (by rw [← List.drop_drop, hd]) (by omega)
    rw [wds_step off col false t ht, wds_step off col true t ht]
    cases hbl : isBlank (rv t) with
    | true =>
      obtain ⟨e1, e2, e3⟩ := blank_head t ht hbl
      have hb : bl s off := by
        rw [← hd] at e3
        rcases e3 with e | e | e
        · exact .inl ((rv_bt s off 32 hlt (by decide)).1 e)
        · exact .inr (.inl ((rv_bt s off 9 hlt (by decide)).1 e))
        · exact .inr (.inr ((rv_bt s off 13 hlt (by decide)).1 e))
      rw [if_pos rfl, if_pos rfl, e2]
      rw [e1] at i1 ⊢
      refine ⟨fun a ha hk _ => i1 a (by omega) (fun k h1 h2 => ?_) (.inr (by simpa using hb)), ?_⟩
      · by_cases e : k = off
        · rw [e]; exact hb
        · exact hk k h1 (by omega)
      · exact i1 _ (by simp) (fun k h1 h2 => by
          have : k = off := by simp at h1; omega
          rw [this]; exact hb) (.inr (by simpa using hb))
    | false =>
      have htw := tw_rune t ht hbl
      have hl2 : off + (tw t).length = off + wd t + (tw (t.drop (wd t))).length := by
        rw [htw, List.length_append, List.length_take]
        omega
      simp only [Bool.false_eq_true, if_false, if_true, hl2]
      refine ⟨fun a ha hk hp => ?_, i2⟩
      by_cases h35 : rv t = 35
      · rw [if_pos h35]
        rw [← hd] at h35
        exact ⟨off, ha, ho, hk, .inr ⟨hlt, (rv_bt s off 35 hlt (by decide)).1 h35, hp⟩⟩
      · rw [if_neg h35]
        obtain ⟨d, t', rfl⟩ : ∃ c t', t = c :: t' := by cases t with | nil => exact absurd rfl ht | cons c t' => exact ⟨c, t', rfl⟩
        have htl2 : (tw (d :: t')).length ≤ (d :: t').length := by
          unfold tw
          exact (List.takeWhile_sublist _).length_le
        have hpre : (tw (d :: t')) = (d :: t').take (tw (d :: t')).length := (List.prefix_iff_eq_take.1 (List.takeWhile_prefix _))
        have hne0 : 0 < (tw (d :: t')).length := by
          rw [htw, List.length_append, List.length_take]
          omega
        have hd0 : (tw (d :: t')).getD 0 0 = d := by
          rw [hpre, List.getD_eq_getElem?_getD, List.getElem?_take, if_pos hne0]
          rfl
        refine ⟨ha, hk, hne0, ?_, ?_, ?_, ?_⟩
        · rw [hd0]
          intro e
          exact h35 ((rv_low_iff d t' 35 (by decide)).2 e)
        · rw [htl] at htl2
          simp only
          omega
        · rw [hd]
          exact hpre.symm
        · simp only
          rw [hl2]
          exact i2
theorem cut_all (s : ByteArray) : CutOK s 0 (wds 0 0 false s.data.toList) :=
  (cut_ok s s.data.toList 0 0 (by simp) (Nat.zero_le _)).1 0 (Nat.le_refl _) (fun k _ h => by omega) (.inl rfl)
end Go.Proofs.YthpkjehoogodkaaDoor
