/- The runes of a text, as rows of bytes: by the model's own decoding. -/
import Derived.Lib.MapLaws
namespace Go.Proofs.YtpbebcefnkbnlabDoor

/-- A fact that the walk must not use. -/
def Hid (p : Prop) : Prop := p
theorem hide {p : Prop} (h : p) : Hid p := h
theorem Hid.out {p : Prop} (h : Hid p) : p := h

/-- How many bytes the first rune has. -/
def wd (l : List UInt8) : Nat := (Lib.decodeL l).2
/-- The first rune; -1: a broken one. -/
def rv (l : List UInt8) : Int := if (Lib.decodeL l).1 = 65533 ∧ (Lib.decodeL l).2 = 1 then -1 else ((Lib.decodeL l).1 : Int)

theorem wd_pos (l : List UInt8) : 1 ≤ wd l := Lib.decodeL_width l
theorem wd_le (l : List UInt8) (h : l ≠ []) : wd l ≤ l.length := Lib.decodeL_le l h
theorem wd_le4 (l : List UInt8) : wd l ≤ 4 := by
  unfold wd
  rw [Lib.decodeL_N]
  rcases Lib.decodeN_shape l.length (l.getD 0 0).toNat (l.getD 1 0).toNat (l.getD 2 0).toNat (l.getD 3 0).toNat with ⟨c, e⟩ | ⟨c1, c2, c3, cv, e⟩ | ⟨c1, c2, c3, c4, cv, cs, e⟩ | ⟨c1, c2, c3, c4, c5, cv, cw, e⟩ | e
  all_goals (rw [e]; dsimp only; omega)
theorem rv_lo (l : List UInt8) : -1 ≤ rv l := by
  unfold rv
  split <;> omega
theorem rv_hi (l : List UInt8) : rv l ≤ 1114111 := by
  have := Lib.decodeL_rune l
  unfold rv
  split <;> omega
theorem rv_ascii (b : UInt8) (t : List UInt8) (h : b.toNat < 128) : rv (b :: t) = (b.toNat : Int) ∧ wd (b :: t) = 1 := by
  have e : Lib.decodeL (b :: t) = (b.toNat, 1) := by
    rw [Lib.decodeL_N, Lib.decodeN_ascii _ _ _ _ _ (by simpa using h)]
    simp
  unfold rv wd
  rw [e]
  dsimp only
  refine ⟨?_, rfl⟩
  rw [if_neg (by omega)]
theorem rv_high (b : UInt8) (t : List UInt8) (h : 128 ≤ b.toNat) : rv (b :: t) = -1 ∨ 128 ≤ rv (b :: t) := by
  unfold rv
  split
  · exact .inl rfl
  · right
    rename_i hn
    rw [Lib.decodeL_N] at hn ⊢
    have k : ((b :: t).getD 0 0) = b := by simp
    rw [k] at hn ⊢
    rcases Lib.decodeN_shape (b :: t).length b.toNat ((b :: t).getD 1 0).toNat ((b :: t).getD 2 0).toNat ((b :: t).getD 3 0).toNat with ⟨c, e⟩ | ⟨c1, c2, c3, cv, e⟩ | ⟨c1, c2, c3, c4, cv, cs, e⟩ | ⟨c1, c2, c3, c4, c5, cv, cw, e⟩ | e
    all_goals (rw [e] at hn ⊢; dsimp only at hn ⊢; omega)
theorem rv_low_iff (b : UInt8) (t : List UInt8) (c : Nat) (hc : c < 128) : rv (b :: t) = (c : Int) ↔ b.toNat = c := by
  by_cases h : b.toNat < 128
  · rw [(rv_ascii b t h).1]
    omega
  · have := rv_high b t (by omega)
    omega
theorem rv_neg_wd (l : List UInt8) (h : rv l < 0) : wd l = 1 := by
  unfold rv at h
  unfold wd
  split at h
  · rename_i hc
    exact hc.2
  · omega
theorem rv_encode (l : List UInt8) (hl : l ≠ []) (h : 0 ≤ rv l) : Lib.encodeRune (rv l) = l.take (wd l) := by
  have hn : ¬ ((Lib.decodeL l).1 = 65533 ∧ (Lib.decodeL l).2 = 1) := fun hc => by
    unfold rv at h
    rw [if_pos hc] at h
    omega
  have e := Lib.encode_decode l hl hn
  unfold rv wd
  rw [if_neg hn]
  exact e

theorem pre3 (l : List UInt8) : Lib.hasPrefix l [239, 191, 189] = true ↔ 3 ≤ l.length ∧ (l.getD 0 0).toNat = 239 ∧ (l.getD 1 0).toNat = 191 ∧ (l.getD 2 0).toNat = 189 := by
  unfold Lib.hasPrefix
  match l with
  | [] => simp
  | [a] => simp [List.isPrefixOf]
  | [a, b] => simp [List.isPrefixOf]
  | a :: b :: c :: t =>
    simp only [List.isPrefixOf, Bool.and_eq_true, beq_iff_eq, and_true]
    simp only [List.length_cons, List.getD_cons_zero, List.getD_cons_succ]
    constructor
    · rintro ⟨rfl, rfl, rfl⟩
      exact ⟨by omega, rfl, rfl, rfl⟩
    · rintro ⟨_, h1, h2, h3⟩
      exact ⟨(UInt8.toNat_inj.1 (by rw [h1]; rfl)), (UInt8.toNat_inj.1 (by rw [h2]; rfl)), (UInt8.toNat_inj.1 (by rw [h3]; rfl))⟩

/-- How a broken rune is told by a text's beginning. -/
theorem rv_told (l : List UInt8) : rv l = if (Lib.decodeL l).1 = 65533 ∧ Lib.hasPrefix l [239, 191, 189] = false then -1 else ((Lib.decodeL l).1 : Int) := by
  have hp := pre3 l
  unfold rv
  have k0 := (l.getD 0 0).toNat_lt
  have k1 := (l.getD 1 0).toNat_lt
  have k2 := (l.getD 2 0).toNat_lt
  rw [Lib.decodeL_N]
  by_cases hq : Lib.hasPrefix l [239, 191, 189] = true
  · rw [hq]
    obtain ⟨hl, h0, h1, h2⟩ := hp.1 hq
    rw [h0, h1, h2]
    have e : Lib.decodeN l.length 239 191 189 (l.getD 3 0).toNat = (65533, 3) := by
      unfold Lib.decodeN
      simp
      omega
    rw [e]
    simp
  · have hf : Lib.hasPrefix l [239, 191, 189] = false := by simpa using hq
    rw [hf]
    have hn : ¬ (3 ≤ l.length ∧ (l.getD 0 0).toNat = 239 ∧ (l.getD 1 0).toNat = 191 ∧ (l.getD 2 0).toNat = 189) := fun h => hq (hp.2 h)
    rcases Lib.decodeN_shape l.length (l.getD 0 0).toNat (l.getD 1 0).toNat (l.getD 2 0).toNat (l.getD 3 0).toNat with ⟨c, e⟩ | ⟨c1, c2, c3, cv, e⟩ | ⟨c1, c2, c3, c4, cv, cs, e⟩ | ⟨c1, c2, c3, c4, c5, cv, cw, e⟩ | e
    · rw [e]; dsimp only; rw [if_neg (by omega), if_neg (by omega)]
    · rw [e]; dsimp only; rw [if_neg (by omega), if_neg (by omega)]
    · rw [e]; dsimp only; rw [if_neg (by omega), if_neg (by omega)]
    · rw [e]; dsimp only; rw [if_neg (by omega), if_neg (by omega)]
    · rw [e]; simp

/-! ### all runes -/
def ruF : Nat → List UInt8 → List (Int × Nat)
  | 0, _ => []
  | f + 1, l => if l = [] then [] else (rv l, wd l) :: ruF f (l.drop (wd l))
/-- A text's runes, each with how many bytes it has. -/
def ru (l : List UInt8) : List (Int × Nat) := ruF l.length l
theorem ruF_nil : ∀ n, ruF n [] = []
  | 0 => rfl
  | _ + 1 => by simp [ruF]
theorem ruF_fuel : ∀ (n m : Nat) (l : List UInt8), l.length ≤ n → l.length ≤ m → ruF n l = ruF m l
  | 0, m, l, hn, _ => by
    have : l = [] := List.eq_nil_of_length_eq_zero (by omega)
    subst this
    rw [ruF_nil, ruF_nil]
  | n + 1, 0, l, _, hm => by
    have : l = [] := List.eq_nil_of_length_eq_zero (by omega)
    subst this
    rw [ruF_nil, ruF_nil]
  | n + 1, m + 1, l, hn, hm => by
    by_cases hne : l = []
    · subst hne
      rw [ruF_nil, ruF_nil]
    · have hw := wd_pos l
      have hl : 0 < l.length := List.length_pos_iff.2 hne
      simp only [ruF, if_neg hne]
      rw [ruF_fuel n m _ (by rw [List.length_drop]; omega) (by rw [List.length_drop]; omega)]
theorem ru_nil : ru [] = [] := rfl
theorem ru_step (l : List UInt8) (h : l ≠ []) : ru l = (rv l, wd l) :: ru (l.drop (wd l)) := by
  have hw := wd_pos l
  have hl : 0 < l.length := List.length_pos_iff.2 h
  unfold ru
  obtain ⟨n, hn⟩ : ∃ n, l.length = n + 1 := ⟨l.length - 1, by omega⟩
  rw [hn]
  simp only [ruF, if_neg h]
  rw [ruF_fuel n _ _ (by rw [List.length_drop]; omega) (Nat.le_refl _)]
/-- One goes through a text rune by rune. -/
theorem ru_ind {C : List UInt8 → Prop} (h0 : C []) (h1 : ∀ l, l ≠ [] → C (l.drop (wd l)) → C l) : ∀ l, C l := by
  intro l
  generalize hn : l.length = n
  induction n using Nat.strongRecOn generalizing l with
  | _ n ih =>
    by_cases hl : l = []
    · subst hl
      exact h0
    · refine h1 l hl (ih _ ?_ _ rfl)
      have := wd_pos l
      have hp : 0 < l.length := List.length_pos_iff.2 hl
      rw [List.length_drop]
      omega
theorem ru_length_le : ∀ l : List UInt8, (ru l).length ≤ l.length := by
  refine ru_ind (by simp [ru_nil]) ?_
  intro l hl ih
  rw [ru_step l hl, List.length_cons]
  have := wd_pos l
  have hp : 0 < l.length := List.length_pos_iff.2 hl
  rw [List.length_drop] at ih
  omega
theorem ru_sum : ∀ l : List UInt8, ((ru l).map Prod.snd).sum = l.length := by
  refine ru_ind (by simp [ru_nil]) ?_
  intro l hl ih
  rw [ru_step l hl, List.map_cons, List.sum_cons, ih, List.length_drop]
  have := wd_le l hl
  omega

/-- A rune with its spot. -/
structure El where
  off : Nat
  line : Nat
  col : Nat
  r : Int

def elS : Nat → Nat → Nat → List (Int × Nat) → List El
  | _, _, _, [] => []
  | off, line, col, (r, k) :: t => ⟨off, line, col, r⟩ :: (if r = 10 then elS (off + k) (line + 1) 1 t else elS (off + k) line (col + 1) t)
/-- A text's runes with their spots. -/
def els (l : List UInt8) : List El := elS 0 1 1 (ru l)
theorem elS_length : ∀ (t : List (Int × Nat)) (off line col : Nat), (elS off line col t).length = t.length
  | [], _, _, _ => rfl
  | (r, k) :: t, off, line, col => by
    unfold elS
    split
    · rw [List.length_cons, elS_length t, List.length_cons]
    · rw [List.length_cons, elS_length t, List.length_cons]
theorem els_length (l : List UInt8) : (els l).length = (ru l).length := elS_length _ _ _ _
end Go.Proofs.YtpbebcefnkbnlabDoor
