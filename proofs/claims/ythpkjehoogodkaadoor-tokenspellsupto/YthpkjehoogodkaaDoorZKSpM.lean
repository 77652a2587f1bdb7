/- A token can be spelt just if the document says so. -/
import Derived.Test.YthpkjehoogodkaaDoorZKBackM
import Derived.Test.YthpkjehoogodkaaDoorZKR7
namespace Go.Proofs.YthpkjehoogodkaaDoor
open Go.RowKit

/-- A token's text is what was cut off. -/
theorem cut_wr (l : List UInt8) (h : l ≠ []) (hc : (cutC l).code = 0) (hk : (cutC l).tk.kind ≠ 0) : wrT (cutC l).tk = l.take (cutC l).size := by
  unfold cutC at hc hk ⊢
  rw [if_neg h] at hc hk ⊢
  split at hk
  · exact absurd rfl hk
  rename_i b1
  rw [if_neg b1] at hc ⊢
  split at hk
  · exact absurd rfl hk
  rename_i b2
  rw [if_neg b2] at hc ⊢
  split at hk
  · rename_i b3
    rw [if_pos b3] at hc ⊢
    rw [(nameC_ok _ hc).1]
    rfl
  rename_i b3
  rw [if_neg b3] at hc ⊢
  split at hk
  · rename_i b4
    rw [if_pos b4] at hc ⊢
    unfold numC at hc ⊢
    by_cases hn : numE (l.take (rowL isNm l)) = 0
    · rw [if_pos hn] at hc ⊢
      unfold wrT
      dsimp only
      rw [if_neg (by decide), if_pos rfl, num_text _ hn]
    · rw [if_neg hn] at hc
      exact absurd hc (by decide)
  rename_i b4
  rw [if_neg b4] at hc ⊢
  split at hk
  · rename_i b5
    rw [if_pos b5] at hc ⊢
    obtain ⟨t, rfl⟩ := prefix_app b5
    unfold symC at hc ⊢
    have e1 : ([35] ++ t).drop 1 = t := rfl
    rw [e1] at hc ⊢
    by_cases h6 : rowL isLetter t = 0
    · rw [if_pos h6] at hc
      exact absurd hc (by decide)
    · rw [if_neg h6] at hc ⊢
      by_cases h7 : (nameC t).code = 0 ∧ isTruth (nameC t).tk.text = false
      · rw [if_pos h7, (nameC_ok t h7.1).1]
        unfold wrT
        dsimp only
        rw [if_neg (by decide), if_neg (by decide), if_pos rfl, Nat.add_comm]
        rfl
      · rw [if_neg h7] at hc
        exact absurd hc (by decide)
  rename_i b5
  rw [if_neg b5] at hc ⊢
  unfold markC at hc ⊢
  split
  · rename_i m hm
    have hp := List.find?_some hm
    obtain ⟨t, e⟩ := prefix_app hp
    unfold wrT
    dsimp only
    rw [if_pos (.inr rfl)]
    conv => rhs; rw [e]
    rw [List.take_left]
  · rename_i hm
    rw [hm] at hc
    exact absurd hc (by decide)
theorem first_tok : ∀ (n : Nat) (L : List UInt8) (k : Nat) (x : Tkn) (p : Nat) (r : List (Tkn × Nat)), (scF n L k).1 = (x, p) :: r → x.kind ≠ 0 → L.drop p ≠ [] ∧ (cutC (L.drop p)).code = 0 ∧ (cutC (L.drop p)).tk = x
  | 0, L, k, x, p, r, h, hk => by
    rw [scF] at h
    have := (List.cons.inj h).1
    rw [← (Prod.mk.inj this).1] at hk
    exact absurd rfl hk
  | n + 1, L, k, x, p, r, h, hk => by
    rw [scF] at h
    by_cases e : L.drop k = []
    · rw [if_pos e] at h
      have := (List.cons.inj h).1
      rw [← (Prod.mk.inj this).1] at hk
      exact absurd rfl hk
    · rw [if_neg e] at h
      by_cases hc : (cutC (L.drop k)).code = 0
      · rw [if_pos hc] at h
        dsimp only at h
        by_cases h0 : (cutC (L.drop k)).tk.kind = 0
        · rw [if_pos h0] at h
          exact first_tok n L _ x p r h hk
        · rw [if_neg h0] at h
          have := (List.cons.inj h).1
          obtain ⟨e1, e2⟩ := Prod.mk.inj this
          subst e2
          exact ⟨e, hc, e1⟩
      · rw [if_neg hc] at h
        cases h
theorem sc_some : ∀ (n : Nat) (L : List UInt8) (k : Nat), (scF n L k).2 = Option.none → 0 < (scF n L k).1.length
  | 0, _, _, _ => by simp [scF]
  | n + 1, L, k, h => by
    rw [scF] at h ⊢
    by_cases e : L.drop k = []
    · rw [if_pos e]
      simp
    · rw [if_neg e] at h ⊢
      by_cases hc : (cutC (L.drop k)).code = 0
      · rw [if_pos hc] at h ⊢
        dsimp only at h ⊢
        split
        · exact sc_some n L _ h
        · simp
      · rw [if_neg hc] at h
        cases h
theorem cut_codes : ∀ (n : Nat) (L : List UInt8) (k : Nat) (c : Int) (p : Nat), (scF n L k).2 = some (c, p) → c ≠ 0
  | 0, _, _, _, _, h => by cases h
  | n + 1, L, k, c, p, h => by
    rw [scF] at h
    by_cases e : L.drop k = []
    · rw [if_pos e] at h
      cases h
    · rw [if_neg e] at h
      by_cases hc : (cutC (L.drop k)).code = 0
      · rw [if_pos hc] at h
        exact cut_codes n L _ c p h
      · rw [if_neg hc] at h
        have := Option.some.inj h
        rw [← (Prod.mk.inj this).1]
        exact hc
/-- Scan of a token's own text. -/
theorem sp_yes (t : Tkn) (h : spOK t = true) : (sc (wrT t) 0).2 = Option.none ∧ (sc (wrT t) 0).1.length ≤ 2 ∧ ∃ p r, (sc (wrT t) 0).1 = (t, p) :: r := by
  by_cases hk : t.kind = 0
  · have e := sp_end t h hk
    subst e
    exact ⟨rfl, by decide, 0, [], rfl⟩
  · obtain ⟨hc, hw⟩ := cut_app t [] (.inl rfl) h hk
    rw [List.append_nil] at hc
    have hd : (wrT t).drop 0 = wrT t := rfl
    have hs := sc_step (wrT t) 0 (by rw [hd]; exact hw) (by rw [hd, hc])
    rw [hd, hc] at hs
    dsimp only at hs
    rw [if_neg hk, Nat.zero_add, sc_end _ _ List.drop_length] at hs
    rw [hs]
    exact ⟨rfl, by simp, 0, _, rfl⟩
theorem sp_no (t : Tkn) (_h : (sc (wrT t) 0).2 = Option.none) (p : Nat) (r : List (Tkn × Nat)) (hr : (sc (wrT t) 0).1 = (t, p) :: r) : spOK t = true := by
  by_cases hk : t.kind = 0
  · have hw : wrT t = [] := by
      unfold wrT
      rw [hk]
      rfl
    rw [hw] at hr
    have : (t, p) = (Tkn.none, 0) := (List.cons.inj hr).1.symm
    rw [(Prod.mk.inj this).1]
    rfl
  · obtain ⟨h1, h2, h3⟩ := first_tok _ _ _ t p r hr hk
    have h4 := cut_wr _ h1 h2 (by rw [h3]; exact hk)
    rw [h3] at h4
    have hl := congrArg List.length h4
    rw [List.length_take, List.length_drop] at hl
    have hpos : 0 < (wrT t).length := by
      by_cases q : 0 < (wrT t).length
      · exact q
      · exact absurd (List.drop_eq_nil_of_le (by omega)) h1
    have hp0 : p = 0 := by omega
    subst hp0
    unfold spOK
    rw [List.drop_zero] at h3
    rw [h3]
    exact tkEq_self t
end Go.Proofs.YthpkjehoogodkaaDoor
