/- What is quoted is read again. -/
import Derived.Test.YtpbebcefnkbnlabDoorTRefLines
namespace Go.Proofs.YtpbebcefnkbnlabDoor
open Go.RowKit

theorem take_getD (l t : List UInt8) (k j : Nat) (hj : j < k) (hk : k ≤ l.length) : (l.take k ++ t).getD j 0 = l.getD j 0 := by
  rw [List.getD_eq_getElem?_getD, List.getD_eq_getElem?_getD, List.getElem?_append_left (by rw [List.length_take]; omega), List.getElem?_take, if_pos hj]
/-- A whole rune is the same, whatever stands behind it. -/
theorem dec_take (l t : List UInt8) (hl : l ≠ []) (h : 0 ≤ rv l) : rv (l.take (wd l) ++ t) = rv l ∧ wd (l.take (wd l) ++ t) = wd l := by
  have hw := wd_le l hl
  have key : Lib.decodeL (l.take (wd l) ++ t) = Lib.decodeL l := by
    have hlen : (l.take (wd l) ++ t).length = wd l + t.length := by rw [List.length_append, List.length_take, Nat.min_eq_left hw]
    rcases Lib.decodeN_shape l.length (l.getD 0 0).toNat (l.getD 1 0).toNat (l.getD 2 0).toNat (l.getD 3 0).toNat with ⟨c, e⟩ | ⟨c1, c2, c3, cv, e⟩ | ⟨c1, c2, c3, c4, cv, cs, e⟩ | ⟨c1, c2, c3, c4, c5, cv, cw, e⟩ | e
    all_goals rw [← Lib.decodeL_N] at e
    · have hk : wd l = 1 := by unfold wd; rw [e]
      rw [e, Lib.decodeL_N, take_getD l t _ 0 (by omega) hw, Lib.decodeN_ascii _ _ _ _ _ c]
    · have hk : wd l = 2 := by unfold wd; rw [e]
      rw [e, Lib.decodeL_N, take_getD l t _ 0 (by omega) hw, take_getD l t _ 1 (by omega) hw]
      unfold Lib.decodeN
      rw [if_neg (by omega), if_pos ⟨by omega, by omega, by omega⟩, if_pos (by omega)]
    · have hk : wd l = 3 := by unfold wd; rw [e]
      rw [e, Lib.decodeL_N, take_getD l t _ 0 (by omega) hw, take_getD l t _ 1 (by omega) hw, take_getD l t _ 2 (by omega) hw]
      unfold Lib.decodeN
      rw [if_neg (by omega), if_neg (by omega), if_pos ⟨by omega, ⟨by omega, by omega⟩, ⟨by omega, by omega⟩⟩, if_pos (by omega)]
    · have hk : wd l = 4 := by unfold wd; rw [e]
      rw [e, Lib.decodeL_N, take_getD l t _ 0 (by omega) hw, take_getD l t _ 1 (by omega) hw, take_getD l t _ 2 (by omega) hw, take_getD l t _ 3 (by omega) hw]
      unfold Lib.decodeN
      rw [if_neg (by omega), if_neg (by omega), if_neg (by omega), if_pos ⟨by omega, ⟨by omega, by omega⟩, ⟨by omega, by omega⟩, ⟨by omega, by omega⟩⟩, if_pos (by omega)]
    · exfalso
      unfold rv at h
      rw [e] at h
      simp at h
  unfold rv wd
  unfold wd at key
  rw [key]
  exact ⟨rfl, rfl⟩

/-- What is written of the first rune. -/
def pc (l : List UInt8) : List UInt8 :=
  if rv l = 34 ∨ rv l = 92 then [92, l.getD 0 0]
  else if rv l = 10 then [92, 110]
  else if rv l < 32 ∨ rv l = 127 then [92, 120, hexd ((l.getD 0 0).toNat / 16), hexd ((l.getD 0 0).toNat % 16)]
  else l.take (wd l)
def flF : Nat → List UInt8 → List UInt8
  | 0, _ => []
  | f + 1, l => if l = [] then [] else pc l ++ flF f (l.drop (wd l))
theorem flF_nil : ∀ n, flF n [] = []
  | 0 => rfl
  | _ + 1 => by simp [flF]
theorem flF_fuel : ∀ (n m : Nat) (l : List UInt8), l.length ≤ n → l.length ≤ m → flF n l = flF m l
  | 0, m, l, hn, _ => by
    have : l = [] := List.eq_nil_of_length_eq_zero (by omega)
    subst this
    rw [flF_nil, flF_nil]
  | n + 1, 0, l, _, hm => by
    have : l = [] := List.eq_nil_of_length_eq_zero (by omega)
    subst this
    rw [flF_nil, flF_nil]
  | n + 1, m + 1, l, hn, hm => by
    by_cases hne : l = []
    · subst hne
      rw [flF_nil, flF_nil]
    · have hw := wd_pos l
      have hl : 0 < l.length := List.length_pos_iff.2 hne
      simp only [flF, if_neg hne]
      rw [flF_fuel n m _ (by rw [List.length_drop]; omega) (by rw [List.length_drop]; omega)]
/-- What is written of all runes. -/
def fl (l : List UInt8) : List UInt8 := flF l.length l
theorem fl_nil : fl [] = [] := rfl
theorem fl_step (l : List UInt8) (h : l ≠ []) : fl l = pc l ++ fl (l.drop (wd l)) := by
  have hw := wd_pos l
  have hl : 0 < l.length := List.length_pos_iff.2 h
  unfold fl
  obtain ⟨n, hn⟩ : ∃ n, l.length = n + 1 := ⟨l.length - 1, by omega⟩
  rw [hn]
  simp only [flF, if_neg h]
  rw [flF_fuel n _ _ (by rw [List.length_drop]; omega) (Nat.le_refl _)]
theorem low_byte (l : List UInt8) (hl : l ≠ []) (c : Nat) (hc : c < 128) (h : rv l = (c : Int)) : (l.getD 0 0).toNat = c := by
  obtain ⟨d, t, rfl⟩ : ∃ c t, l = c :: t := by cases l with | nil => exact absurd rfl hl | cons c t => exact ⟨c, t, rfl⟩
  exact (rv_low_iff d t c hc).1 h
theorem piece_pc (L : List UInt8) (off line col : Nat) (hl : L.drop off ≠ []) : piece L ⟨off, line, col, rv (L.drop off)⟩ = pc (L.drop off) := by
  have hg : (L.drop off).getD 0 0 = L.getD off 0 := by
    rw [List.getD_eq_getElem?_getD, List.getElem?_drop, ← List.getD_eq_getElem?_getD, Nat.add_zero]
  unfold piece pc
  dsimp only
  rw [hg]
  by_cases h1 : rv (L.drop off) = 34 ∨ rv (L.drop off) = 92
  · rw [if_pos h1, if_pos h1]
    rcases h1 with h1 | h1
    · have := low_byte _ hl 34 (by decide) h1
      rw [h1, ← hg, UInt8.toNat_inj.1 (show ((L.drop off).getD 0 0).toNat = (34 : UInt8).toNat from this)]
      rfl
    · have := low_byte _ hl 92 (by decide) h1
      rw [h1, ← hg, UInt8.toNat_inj.1 (show ((L.drop off).getD 0 0).toNat = (92 : UInt8).toNat from this)]
      rfl
  · rw [if_neg h1, if_neg h1]
    split
    · rfl
    · split
      · rfl
      · rename_i h3
        exact rv_encode _ hl (by omega)
theorem fl_els (L : List UInt8) : ∀ (t : List UInt8) (off line col : Nat), L.drop off = t → (elS off line col (ru t)).flatMap (piece L) = fl t := by
  refine ru_ind (fun off line col _ => by simp [ru_nil, elS, fl_nil]) ?_
  intro t ht ih off line col hd
  rw [ru_step t ht, elS_step, List.flatMap_cons, fl_step t ht, ih (off + wd t) _ _ (by rw [← List.drop_drop, hd])]
  subst hd
  rw [piece_pc L off line col ht]
theorem qt_fl (l : List UInt8) : qt l = 34 :: fl l ++ [34] := by
  unfold qt els
  rw [fl_els l l 0 1 1 (by simp)]
theorem ins_qt (l : List UInt8) : ins (qt l) = fl l := by
  rw [qt_fl]
  unfold ins
  rw [if_neg (by simp)]
  simp
end Go.Proofs.YtpbebcefnkbnlabDoor
