/- What is joined is cut again; blanks and comments are nothing. -/
import Derived.Test.YthpkjehoogodkaaDoorZKAppM
import Derived.Test.YthpkjehoogodkaaDoorZKJoin
namespace Go.Proofs.YthpkjehoogodkaaDoor
open Go.RowKit

/-- The tokens of a text without their places, and the first fault's number. -/
def tsF : Nat → List UInt8 → List Tkn × Option Int
  | 0, _ => ([Tkn.none], Option.none)
  | f + 1, l =>
    if l = [] then ([Tkn.none], Option.none)
    else if (cutC l).code = 0 then (if (cutC l).tk.kind = 0 then (tsF f (l.drop (cutC l).size)).1 else (cutC l).tk :: (tsF f (l.drop (cutC l).size)).1, (tsF f (l.drop (cutC l).size)).2)
    else ([], some (cutC l).code)
def ts (l : List UInt8) : List Tkn × Option Int := tsF l.length l
theorem tsF_nil : ∀ n, tsF n [] = ([Tkn.none], Option.none)
  | 0 => rfl
  | _ + 1 => by rw [tsF, if_pos rfl]
theorem tsF_fuel : ∀ (n m : Nat) (l : List UInt8), l.length ≤ n → l.length ≤ m → tsF n l = tsF m l
  | 0, m, l, hn, _ => by
    have : l = [] := List.eq_nil_of_length_eq_zero (by omega)
    subst this
    rw [tsF_nil, tsF_nil]
  | n + 1, 0, l, _, hm => by
    have : l = [] := List.eq_nil_of_length_eq_zero (by omega)
    subst this
    rw [tsF_nil, tsF_nil]
  | n + 1, m + 1, l, hn, hm => by
    by_cases e : l = []
    · subst e
      rw [tsF_nil, tsF_nil]
    · rw [tsF, tsF, if_neg e, if_neg e]
      by_cases hc : (cutC l).code = 0
      · have hp := (cut_bd _ e hc).2
        have hl : 0 < l.length := List.length_pos_iff.2 e
        rw [if_pos hc, if_pos hc, tsF_fuel n m _ (by rw [List.length_drop]; omega) (by rw [List.length_drop]; omega)]
      · rw [if_neg hc, if_neg hc]
theorem ts_nil : ts [] = ([Tkn.none], Option.none) := rfl
theorem ts_step (l : List UInt8) (hl : l ≠ []) (hc : (cutC l).code = 0) : ts l = (if (cutC l).tk.kind = 0 then (ts (l.drop (cutC l).size)).1 else (cutC l).tk :: (ts (l.drop (cutC l).size)).1, (ts (l.drop (cutC l).size)).2) := by
  have hp := (cut_bd _ hl hc).2
  have hlen : 0 < l.length := List.length_pos_iff.2 hl
  unfold ts
  obtain ⟨n, hn⟩ : ∃ n, l.length = n + 1 := ⟨l.length - 1, by omega⟩
  rw [hn, tsF, if_neg hl, if_pos hc, tsF_fuel n (l.drop (cutC l).size).length _ (by rw [List.length_drop]; omega) (Nat.le_refl _)]
/-- Scan's tokens are these. -/
theorem scF_ts : ∀ (n : Nat) (L : List UInt8) (k : Nat), ((scF n L k).1.map Prod.fst, (scF n L k).2.map Prod.fst) = tsF n (L.drop k)
  | 0, L, k => rfl
  | n + 1, L, k => by
    rw [scF, tsF]
    by_cases e : L.drop k = []
    · rw [if_pos e, if_pos e]
      rfl
    · rw [if_neg e, if_neg e]
      by_cases hc : (cutC (L.drop k)).code = 0
      · have ih := scF_ts n L (k + (cutC (L.drop k)).size)
        rw [← List.drop_drop] at ih
        rw [if_pos hc, if_pos hc, ← ih]
        by_cases hk : (cutC (L.drop k)).tk.kind = 0
        · simp only [if_pos hk]
        · simp only [if_neg hk, List.map_cons]
      · rw [if_neg hc, if_neg hc]
        rfl
theorem sc_ts (L : List UInt8) : ((sc L 0).1.map Prod.fst, (sc L 0).2.map Prod.fst) = ts L := by
  have := scF_ts (L.length - 0) L 0
  rw [List.drop_zero] at this
  exact this

theorem isBl_byte (b : UInt8) (h : b = 32 ∨ b = 9 ∨ b = 10 ∨ b = 13) : b.toNat < 128 ∧ isBl (b.toNat : Int) = true := by
  rcases h with rfl | rfl | rfl | rfl <;> decide
theorem ts_blank (b : UInt8) (R : List UInt8) (h : b = 32 ∨ b = 9 ∨ b = 10 ∨ b = 13) : ts (b :: R) = ts R := by
  obtain ⟨h1, h2⟩ := isBl_byte b h
  have hc : cutC (b :: R) = ⟨Tkn.none, 1, 0⟩ := by
    unfold cutC
    rw [if_neg (by simp), raw_ascii b R h1, if_pos h2]
  rw [ts_step _ (by simp) (by rw [hc]), hc]
  rfl
theorem ts_tok (t : Tkn) (G : List UInt8) (hG : GB G) (h : spOK t = true) (hk : t.kind ≠ 0) : ts (wrT t ++ G) = (t :: (ts G).1, (ts G).2) := by
  obtain ⟨hc, hw⟩ := cut_app t G hG h hk
  rw [ts_step _ (by simp [hw]) (by rw [hc]), hc]
  dsimp only
  rw [if_neg hk, List.drop_left]
theorem sp_end (t : Tkn) (h : spOK t = true) (hk : t.kind = 0) : t = Tkn.none := by
  have ht : (cutC (wrT t)).tk = t := tkEq_yes h
  have : wrT t = [] := by
    unfold wrT
    rw [hk]
    rfl
  rw [this] at ht
  rw [← ht]
  rfl
/-- The tokens with an end behind, if there is none. -/
def endd : List Tkn → List Tkn
  | [] => [Tkn.none]
  | t :: r => if t.kind = 0 then [Tkn.none] else t :: endd r
theorem okJ_cons {t : Tkn} {r : List Tkn} (h : okJ (t :: r) = true) : spOK t = true ∧ (t.kind = 0 → r = []) ∧ okJ r = true := by
  rw [okJ] at h
  simp only [Bool.and_eq_true] at h
  refine ⟨h.1.1, fun h0 => ?_, h.2⟩
  have := h.1.2
  rw [h0] at this
  simpa using this
theorem jnF_gb : ∀ l : List Tkn, GB (jnF false l)
  | [] => .inl rfl
  | t :: r => .inr ⟨32, wrT t ++ jnF false r, by simp [jnF], .inl rfl⟩
theorem ts_jnF : ∀ l : List Tkn, okJ l = true → ts (jnF false l) = (endd l, Option.none)
  | [], _ => rfl
  | t :: r, h => by
    obtain ⟨h1, h2, h3⟩ := okJ_cons h
    have e : jnF false (t :: r) = 32 :: (wrT t ++ jnF false r) := by simp [jnF]
    rw [e, ts_blank 32 _ (.inl rfl), endd]
    by_cases hk : t.kind = 0
    · rw [if_pos hk, h2 hk, sp_end t h1 hk]
      rfl
    · rw [if_neg hk, ts_tok t _ (jnF_gb r) h1 hk, ts_jnF r h3]
/-- What is joined is cut again. -/
theorem ts_jn (l : List Tkn) (h : okJ l = true) : ts (jn l) = (endd l, Option.none) := by
  match l, h with
  | [], _ => rfl
  | t :: r, h =>
    obtain ⟨h1, h2, h3⟩ := okJ_cons h
    have e : jn (t :: r) = wrT t ++ jnF false r := by simp [jn, jnF]
    rw [e, endd]
    by_cases hk : t.kind = 0
    · rw [if_pos hk, h2 hk, sp_end t h1 hk]
      rfl
    · rw [if_neg hk, ts_tok t _ (jnF_gb r) h1 hk, ts_jnF r h3]

/-! ### gaps -/
/-- What stands between: begins with a blank, and is nothing. -/
structure Gap (g : List UInt8) : Prop where
  blank : ∃ b R, g = b :: R ∧ (b = 32 ∨ b = 9 ∨ b = 10 ∨ b = 13)
  none : ∀ R, ts (g ++ R) = ts R
theorem gap0 : Gap [32] := ⟨⟨32, [], rfl, .inl rfl⟩, fun R => ts_blank 32 R (.inl rfl)⟩
theorem gap1 : Gap [9, 32] := ⟨⟨9, [32], rfl, .inr (.inl rfl)⟩, fun R => (ts_blank 9 (32 :: R) (.inr (.inl rfl))).trans (ts_blank 32 R (.inl rfl))⟩
theorem gap3 : Gap [13, 10] := ⟨⟨13, [10], rfl, .inr (.inr (.inr rfl))⟩, fun R => (ts_blank 13 (10 :: R) (.inr (.inr (.inr rfl)))).trans (ts_blank 10 R (.inr (.inr (.inl rfl))))⟩
def cmt : List UInt8 := [47, 47, 32, 35, 32, 33, 32, 195, 169]
theorem cmt_row : rowL isLn cmt = cmt.length := by kernel_rfl
theorem cmt_ru : ru cmt = [(47, 1), (47, 1), (32, 1), (35, 1), (32, 1), (33, 1), (32, 1), (233, 2)] := by kernel_rfl
theorem ts_cmt (R : List UInt8) : ts (cmt ++ 10 :: R) = ts R := by
  have hr : rowL isLn (cmt ++ 10 :: R) = 9 := by
    rw [row_app isLn (10 :: R) cmt (by rw [cmt_ru]; decide) cmt_row]
    have : rowL isLn (10 :: R) = 0 := by
      rw [rowL_zero]
      right
      rw [raw_ascii 10 R (by decide)]
      decide
    rw [this]
    rfl
  have hc : cutC (cmt ++ 10 :: R) = ⟨Tkn.none, 9, 0⟩ := by
    unfold cutC
    have e : cmt ++ 10 :: R = 47 :: (47 :: 32 :: 35 :: 32 :: 33 :: 32 :: 195 :: 169 :: 10 :: R) := rfl
    rw [if_neg (by rw [e]; simp)]
    have e1 : raw (rv (cmt ++ 10 :: R)) = 47 := by rw [e, raw_ascii 47 _ (by decide)]; rfl
    rw [e1, if_neg (by decide), if_pos (by rw [e]; simp [Lib.hasPrefix, List.isPrefixOf]), hr]
  rw [ts_step _ (by simp [cmt]) (by rw [hc]), hc]
  have e2 : (cmt ++ 10 :: R).drop 9 = 10 :: R := rfl
  dsimp only
  rw [if_pos (show Tkn.none.kind = 0 from rfl), e2, ts_blank 10 R (.inr (.inr (.inl rfl)))]
theorem gap2 : Gap (32 :: cmt ++ [10]) := ⟨⟨32, cmt ++ [10], rfl, .inl rfl⟩, fun R => by
  have e : 32 :: cmt ++ [10] ++ R = 32 :: (cmt ++ 10 :: R) := by simp
  rw [e, ts_blank 32 _ (.inl rfl), ts_cmt]⟩
/-- Texts with gaps behind. -/
def gapsF (f : Nat → List UInt8) : Nat → List Tkn → List UInt8
  | _, [] => []
  | j, t :: r => wrT t ++ f j ++ gapsF f (j + 1) r
theorem gapsF_snoc (f : Nat → List UInt8) (t : Tkn) : ∀ (l : List Tkn) (j : Nat), gapsF f j (l ++ [t]) = gapsF f j l ++ wrT t ++ f (j + l.length)
  | [], j => by simp [gapsF]
  | x :: l, j => by
    rw [List.cons_append, gapsF, gapsF_snoc f t l (j + 1), gapsF]
    simp [Nat.add_comm, Nat.add_left_comm, List.append_assoc]
theorem ts_gaps (f : Nat → List UInt8) (hf : ∀ j, Gap (f j)) : ∀ (l : List Tkn) (j : Nat), okJ l = true → ts (gapsF f j l) = (endd l, Option.none)
  | [], _, _ => rfl
  | t :: r, j, h => by
    obtain ⟨h1, h2, h3⟩ := okJ_cons h
    rw [gapsF, endd]
    by_cases hk : t.kind = 0
    · rw [if_pos hk, h2 hk, sp_end t h1 hk]
      have e : wrT Tkn.none ++ f j ++ gapsF f (j + 1) [] = f j ++ [] := rfl
      rw [e, (hf j).none []]
      rfl
    · rw [if_neg hk, List.append_assoc]
      have hG : GB (f j ++ gapsF f (j + 1) r) := by
        obtain ⟨b, R, e, hb⟩ := (hf j).blank
        exact .inr ⟨b, R ++ gapsF f (j + 1) r, by rw [e]; rfl, hb⟩
      rw [ts_tok t _ hG h1 hk, (hf j).none, ts_gaps f hf r (j + 1) h3]
end Go.Proofs.YthpkjehoogodkaaDoor
