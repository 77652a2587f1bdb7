/- Tokens: what a text is cut into, as rows of bytes. -/
import Derived.Test.YthpkjehoogodkaaDoorGText
namespace Go.Proofs.YthpkjehoogodkaaDoor
open Go.RowKit

/-- A token without its place. -/
structure Tkn where
  kind : Int
  text : List UInt8
  int : Int
def Tkn.none : Tkn := ⟨0, [], 0⟩

/-- How many bytes the runes of one sort have with which a row of runes begins. -/
def rowN (p : Int → Bool) : List (Int × Nat) → Nat
  | [] => 0
  | x :: t => if p (raw x.1) = true then x.2 + rowN p t else 0
def rowL (p : Int → Bool) (l : List UInt8) : Nat := rowN p (ru l)

def isBl (r : Int) : Bool := r == 32 || r == 9 || r == 10 || r == 13
def isLn (r : Int) : Bool := r != 10
def isDg (r : Int) : Bool := decide (48 ≤ r) && decide (r ≤ 57)
def isNm (r : Int) : Bool := isLetter r || isDg r || r == 39

/-- What cut answers: a token, how many bytes it has, an error's number. -/
structure Ct where
  tk : Tkn
  size : Nat
  code : Int

def nameC (l : List UInt8) : Ct := if nameE (l.take (rowL isNm l)) = 0 then ⟨⟨1, l.take (rowL isNm l), 0⟩, rowL isNm l, 0⟩ else ⟨Tkn.none, 0, 21⟩
def numC (l : List UInt8) : Ct := if numE (l.take (rowL isNm l)) = 0 then ⟨⟨2, [], numV (l.take (rowL isNm l))⟩, rowL isNm l, 0⟩ else ⟨Tkn.none, 0, 22⟩
def isTruth (l : List UInt8) : Bool := l == [116, 114, 117, 101] || l == [102, 97, 108, 115, 101]
def symC (l : List UInt8) : Ct :=
  if rowL isLetter (l.drop 1) = 0 then ⟨Tkn.none, 0, 90⟩
  else if (nameC (l.drop 1)).code = 0 ∧ isTruth (nameC (l.drop 1)).tk.text = false then ⟨⟨3, (nameC (l.drop 1)).tk.text, 0⟩, 1 + (nameC (l.drop 1)).size, 0⟩
  else ⟨Tkn.none, 0, 21⟩
def marksL : List (List UInt8) := [[61, 61], [33, 61], [60, 61], [62, 61], [40], [41], [91], [93], [123], [125], [44], [59], [46], [43], [45], [42], [47], [37], [124], [38], [92], [60], [62], [61]]
def markC (l : List UInt8) : Ct :=
  match marksL.find? fun m => Lib.hasPrefix l m with
  | some m => ⟨⟨4, m, 0⟩, m.length, 0⟩
  | Option.none => ⟨Tkn.none, 0, 90⟩
/-- The token with which a text begins. -/
def cutC (l : List UInt8) : Ct :=
  if l = [] then ⟨Tkn.none, 0, 0⟩
  else if isBl (raw (rv l)) = true then ⟨Tkn.none, 1, 0⟩
  else if Lib.hasPrefix l [47, 47] = true then ⟨Tkn.none, rowL isLn l, 0⟩
  else if isLetter (raw (rv l)) = true then nameC l
  else if isDg (raw (rv l)) = true then numC l
  else if Lib.hasPrefix l [35] = true then symC l
  else markC l

/-! ### where runes end -/
/-- The first s bytes are whole runes. -/
def bdN : List (Int × Nat) → Nat → Prop
  | [], s => s = 0
  | x :: t, s => s = 0 ∨ (x.2 ≤ s ∧ bdN t (s - x.2))
def Bd (l : List UInt8) (s : Nat) : Prop := bdN (ru l) s
theorem bdN_zero : ∀ t, bdN t 0
  | [] => rfl
  | _ :: _ => .inl rfl
theorem Bd.zero (l : List UInt8) : Bd l 0 := bdN_zero _
theorem Bd.nil {s : Nat} (h : Bd [] s) : s = 0 := by unfold Bd at h; rw [ru_nil] at h; exact h
theorem Bd.next {l : List UInt8} {s : Nat} (h : Bd l s) (hl : l ≠ []) (hs : s ≠ 0) : wd l ≤ s ∧ Bd (l.drop (wd l)) (s - wd l) := by
  unfold Bd at h
  rw [ru_step l hl, bdN] at h
  rcases h with h | h
  · exact absurd h hs
  · exact h
theorem Bd.step {l : List UInt8} {s : Nat} (hl : l ≠ []) (h : Bd (l.drop (wd l)) s) : Bd l (wd l + s) := by
  unfold Bd
  rw [ru_step l hl, bdN]
  exact .inr ⟨by dsimp only; omega, by dsimp only; rw [Nat.add_sub_cancel_left]; exact h⟩
theorem bdN_row (p : Int → Bool) : ∀ t, bdN t (rowN p t)
  | [] => rfl
  | x :: t => by
    rw [rowN]
    split
    · exact .inr ⟨by omega, by rw [Nat.add_sub_cancel_left]; exact bdN_row p t⟩
    · exact .inl rfl
theorem Bd.row (p : Int → Bool) (l : List UInt8) : Bd l (rowL p l) := bdN_row p _
theorem bdN_le : ∀ (t : List (Int × Nat)) (s : Nat), bdN t s → s ≤ (t.map Prod.snd).sum
  | [], s, h => by rw [bdN] at h; omega
  | x :: t, s, h => by
    rw [bdN] at h
    rw [List.map_cons, List.sum_cons]
    rcases h with h | ⟨h1, h2⟩
    · omega
    · have := bdN_le t _ h2
      omega
theorem Bd.le {l : List UInt8} {s : Nat} (h : Bd l s) : s ≤ l.length := by
  have := bdN_le _ _ h
  rw [ru_sum] at this
  exact this
theorem rowL_le (p : Int → Bool) (l : List UInt8) : rowL p l ≤ l.length := (Bd.row p l).le
theorem rowL_nil (p : Int → Bool) : rowL p [] = 0 := rfl
theorem rowL_step (p : Int → Bool) (l : List UInt8) (hl : l ≠ []) : rowL p l = if p (raw (rv l)) = true then wd l + rowL p (l.drop (wd l)) else 0 := by
  unfold rowL
  rw [ru_step l hl, rowN]
theorem rowL_pos (p : Int → Bool) (l : List UInt8) (hl : l ≠ []) (h : p (raw (rv l)) = true) : 0 < rowL p l := by
  rw [rowL_step p l hl, if_pos h]
  have := wd_pos l
  omega
theorem rowL_zero (p : Int → Bool) (l : List UInt8) : rowL p l = 0 ↔ (l = [] ∨ p (raw (rv l)) = false) := by
  by_cases hl : l = []
  · subst hl
    simp [rowL_nil]
  · have := wd_pos l
    rw [rowL_step p l hl]
    cases hp : p (raw (rv l)) with
    | true => simp [hl]; omega
    | false => simp

/-! ### bytes below 128 -/
theorem raw_ge (r : Int) (h : 0 ≤ r) : raw r = r := by unfold raw; rw [if_neg (by omega)]
theorem raw_ascii (b : UInt8) (t : List UInt8) (h : b.toNat < 128) : raw (rv (b :: t)) = (b.toNat : Int) := by
  rw [(rv_ascii b t h).1]
  exact raw_ge _ (by omega)
theorem raw_high (b : UInt8) (t : List UInt8) (h : 128 ≤ b.toNat) : 128 ≤ raw (rv (b :: t)) := by
  rcases rv_high b t h with e | e
  · rw [e]; decide
  · rw [raw_ge _ (by omega)]; exact e
theorem Bd.ascii {b : UInt8} {t : List UInt8} (h : b.toNat < 128) {s : Nat} (hb : Bd t s) : Bd (b :: t) (1 + s) := by
  have e := (rv_ascii b t h).2
  have := Bd.step (l := b :: t) (by simp) (s := s) (by rw [e]; exact hb)
  rw [e] at this
  exact this
theorem low_head (l : List UInt8) (hl : l ≠ []) (h : raw (rv l) < 128) : ∃ b t, l = b :: t ∧ b.toNat < 128 ∧ raw (rv l) = (b.toNat : Int) := by
  obtain ⟨b, t, rfl⟩ : ∃ c t, l = c :: t := by cases l with | nil => exact absurd rfl hl | cons c t => exact ⟨c, t, rfl⟩
  by_cases hb : b.toNat < 128
  · exact ⟨b, t, rfl, hb, raw_ascii b t hb⟩
  · have := raw_high b t (by omega)
    omega

/-! ### cut takes whole runes, at least one -/
theorem marks_low : ∀ m ∈ marksL, m ≠ [] ∧ ∀ b ∈ m, b.toNat < 128 := by decide
theorem Bd.low : ∀ (m t : List UInt8), (∀ b ∈ m, b.toNat < 128) → Bd (m ++ t) m.length
  | [], t, _ => Bd.zero _
  | b :: m, t, h => by
    have := Bd.ascii (h b (by simp)) (Bd.low m t fun c hc => h c (by simp [hc]))
    rw [List.length_cons, Nat.add_comm]
    exact this
theorem prefix_app {l m : List UInt8} (h : Lib.hasPrefix l m = true) : ∃ t, l = m ++ t := by
  unfold Lib.hasPrefix at h
  obtain ⟨t, e⟩ := List.isPrefixOf_iff_prefix.1 h
  exact ⟨t, e.symm⟩
theorem app_prefix (m t : List UInt8) : Lib.hasPrefix (m ++ t) m = true := by
  unfold Lib.hasPrefix
  exact List.isPrefixOf_iff_prefix.2 ⟨t, rfl⟩

theorem nameC_ok (l : List UInt8) : (nameC l).code = 0 → nameC l = ⟨⟨1, l.take (rowL isNm l), 0⟩, rowL isNm l, 0⟩ ∧ nameE (l.take (rowL isNm l)) = 0 := by
  unfold nameC
  split
  · rename_i h
    exact fun _ => ⟨rfl, h⟩
  · intro h
    exact absurd h (by decide)
theorem nameC_no (l : List UInt8) : (nameC l).code ≠ 0 → nameC l = ⟨Tkn.none, 0, 21⟩ := by
  unfold nameC
  split
  · intro h
    exact absurd rfl h
  · exact fun _ => rfl
theorem cut_bd (l : List UInt8) (hl : l ≠ []) (hc : (cutC l).code = 0) : Bd l (cutC l).size ∧ 0 < (cutC l).size := by
  unfold cutC at hc ⊢
  rw [if_neg hl] at hc ⊢
  split at hc
  · rename_i h
    rw [if_pos h]
    have hlow : raw (rv l) < 128 := by
      unfold isBl at h
      simp at h
      omega
    obtain ⟨b, t, rfl, hb, _⟩ := low_head l hl hlow
    exact ⟨Bd.ascii hb (Bd.zero t), by decide⟩
  · rename_i hbl
    rw [if_neg hbl]
    split at hc
    · rename_i h
      rw [if_pos h]
      refine ⟨Bd.row _ _, rowL_pos _ _ hl ?_⟩
      unfold isLn
      unfold isBl at hbl
      simp at hbl ⊢
      exact hbl.1.2
    · rename_i h2
      rw [if_neg h2]
      split at hc
      · rename_i h3
        rw [if_pos h3, (nameC_ok l hc).1]
        exact ⟨Bd.row _ _, rowL_pos _ _ hl (by unfold isNm; rw [h3]; rfl)⟩
      · rename_i h3
        rw [if_neg h3]
        split at hc
        · rename_i h4
          rw [if_pos h4]
          unfold numC at hc ⊢
          split at hc
          · rename_i h5
            rw [if_pos h5]
            refine ⟨Bd.row _ _, rowL_pos _ _ hl ?_⟩
            unfold isNm
            rw [h4]
            simp
          · exact absurd hc (by decide)
        · rename_i h4
          rw [if_neg h4]
          split at hc
          · rename_i h5
            rw [if_pos h5]
            obtain ⟨t, rfl⟩ := prefix_app h5
            unfold symC at hc ⊢
            have e1 : ([35] ++ t).drop 1 = t := rfl
            rw [e1] at hc ⊢
            split at hc
            · exact absurd hc (by decide)
            · rename_i h6
              rw [if_neg h6]
              split at hc
              · rename_i h7
                rw [if_pos h7, (nameC_ok t h7.1).1]
                exact ⟨Bd.ascii (by decide) (Bd.row _ _), by dsimp only; omega⟩
              · exact absurd hc (by decide)
          · rename_i h5
            rw [if_neg h5]
            unfold markC at hc ⊢
            split
            · rename_i m hm
              have hmem := List.mem_of_find?_eq_some hm
              have hp := List.find?_some hm
              obtain ⟨t, rfl⟩ := prefix_app hp
              obtain ⟨m1, m2⟩ := marks_low m hmem
              exact ⟨Bd.low m t m2, List.length_pos_iff.2 m1⟩
            · rename_i hm
              rw [hm] at hc
              exact absurd hc (by decide)

/-! ### the whole text -/
/-- Tokens with the places at which they begin, and the first fault: its number and its place. -/
def scF : Nat → List UInt8 → Nat → List (Tkn × Nat) × Option (Int × Nat)
  | 0, L, _ => ([(Tkn.none, L.length)], Option.none)
  | f + 1, L, k =>
    if L.drop k = [] then ([(Tkn.none, L.length)], Option.none)
    else if (cutC (L.drop k)).code = 0 then
      (if (cutC (L.drop k)).tk.kind = 0 then (scF f L (k + (cutC (L.drop k)).size)).1 else ((cutC (L.drop k)).tk, k) :: (scF f L (k + (cutC (L.drop k)).size)).1,
        (scF f L (k + (cutC (L.drop k)).size)).2)
    else ([], some ((cutC (L.drop k)).code, k))
def sc (L : List UInt8) (k : Nat) : List (Tkn × Nat) × Option (Int × Nat) := scF (L.length - k) L k
theorem scF_end : ∀ (n : Nat) (L : List UInt8) (k : Nat), L.drop k = [] → scF n L k = ([(Tkn.none, L.length)], Option.none)
  | 0, _, _, _ => rfl
  | _ + 1, _, _, h => by rw [scF, if_pos h]
theorem scF_fuel : ∀ (n m : Nat) (L : List UInt8) (k : Nat), L.length ≤ n + k → L.length ≤ m + k → scF n L k = scF m L k
  | 0, m, L, k, hn, _ => by
    have e : L.drop k = [] := List.drop_eq_nil_of_le (by omega)
    rw [scF_end _ _ _ e, scF_end _ _ _ e]
  | n + 1, 0, L, k, _, hm => by
    have e : L.drop k = [] := List.drop_eq_nil_of_le (by omega)
    rw [scF_end _ _ _ e, scF_end _ _ _ e]
  | n + 1, m + 1, L, k, hn, hm => by
    by_cases e : L.drop k = []
    · rw [scF_end _ _ _ e, scF_end _ _ _ e]
    · rw [scF, scF, if_neg e, if_neg e]
      by_cases hc : (cutC (L.drop k)).code = 0
      · have := (cut_bd _ e hc).2
        rw [if_pos hc, if_pos hc, scF_fuel n m L _ (by omega) (by omega)]
      · rw [if_neg hc, if_neg hc]
theorem sc_end (L : List UInt8) (k : Nat) (h : L.drop k = []) : sc L k = ([(Tkn.none, L.length)], Option.none) := scF_end _ _ _ h
theorem sc_bad (L : List UInt8) (k : Nat) (h : L.drop k ≠ []) (hc : (cutC (L.drop k)).code ≠ 0) : sc L k = ([], some ((cutC (L.drop k)).code, k)) := by
  unfold sc
  have hk : k < L.length := by
    by_cases hk : k < L.length
    · exact hk
    · exact absurd (List.drop_eq_nil_of_le (by omega)) h
  obtain ⟨n, hn⟩ : ∃ n, L.length - k = n + 1 := ⟨L.length - k - 1, by omega⟩
  rw [hn, scF, if_neg h, if_neg hc]
theorem sc_step (L : List UInt8) (k : Nat) (h : L.drop k ≠ []) (hc : (cutC (L.drop k)).code = 0) :
    sc L k = (if (cutC (L.drop k)).tk.kind = 0 then (sc L (k + (cutC (L.drop k)).size)).1 else ((cutC (L.drop k)).tk, k) :: (sc L (k + (cutC (L.drop k)).size)).1, (sc L (k + (cutC (L.drop k)).size)).2) := by
  have hk : k < L.length := by
    by_cases hk : k < L.length
    · exact hk
    · exact absurd (List.drop_eq_nil_of_le (by omega)) h
  have hp := (cut_bd _ h hc).2
  unfold sc
  obtain ⟨n, hn⟩ : ∃ n, L.length - k = n + 1 := ⟨L.length - k - 1, by omega⟩
  rw [hn, scF, if_neg h, if_pos hc, scF_fuel n (L.length - (k + (cutC (L.drop k)).size)) L _ (by omega) (by omega)]
end Go.Proofs.YthpkjehoogodkaaDoor
