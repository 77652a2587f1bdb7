/- How the document's reading goes on. -/
import Derived.Test.YtpbebcefnkbnlabDoorTRefUnquote
namespace Go.Proofs.YtpbebcefnkbnlabDoor
open Go.RowKit

/-- What was read up to i, and what comes. -/
def RP (I : List UInt8) (i : Nat) (acc : List UInt8) : Prop := rp I = (rp (I.drop i)).map (acc ++ ·) ∧ acc.length ≤ i
theorem RP.start (I : List UInt8) : RP I 0 [] := ⟨by simp, Nat.le_refl _⟩
theorem drop_at (I : List UInt8) (i : Nat) (h : i < I.length) : I.drop i = I.getD i 0 :: I.drop (i + 1) := by
  rw [List.drop_eq_getElem_cons h, List.getD_eq_getElem?_getD, List.getElem?_eq_getElem h]
  rfl
theorem map_on (o : Option (List UInt8)) (acc : List UInt8) (b : UInt8) : (o.map (b :: ·)).map (acc ++ ·) = o.map ((acc ++ [b]) ++ ·) := by
  cases o <;> simp
theorem RP.plain {I : List UInt8} {i : Nat} {acc : List UInt8} (h : RP I i acc) (hi : i < I.length) (hb : I.getD i 0 ≠ 92) : RP I (i + 1) (acc ++ [I.getD i 0]) := by
  refine ⟨?_, by have := h.2; simp; omega⟩
  rw [h.1, drop_at I i hi, rp_plain _ _ hb, map_on]
theorem RP.done {I : List UInt8} {i : Nat} {acc : List UInt8} (h : RP I i acc) (hi : ¬ i < I.length) : rp I = some acc := by
  rw [h.1, List.drop_of_length_le (by omega), rp_nil]
  simp
theorem RP.cut {I : List UInt8} {i : Nat} {acc : List UInt8} (h : RP I i acc) (hi : i < I.length) (hb : I.getD i 0 = 92) (hj : ¬ i + 1 < I.length) : rp I = none := by
  rw [h.1, drop_at I i hi, hb, List.drop_of_length_le (by omega), rp_end]
  rfl
theorem RP.esc {I : List UInt8} {i : Nat} {acc : List UInt8} (h : RP I i acc) (hb : I.getD i 0 = 92) (hj : i + 1 < I.length) :
    rp I = (rp (92 :: I.getD (i + 1) 0 :: I.drop (i + 1 + 1))).map (acc ++ ·) := by
  rw [h.1, drop_at I i (by omega), hb, drop_at I (i + 1) hj]
theorem RP.same {I : List UInt8} {i : Nat} {acc : List UInt8} (h : RP I i acc) (hb : I.getD i 0 = 92) (hj : i + 1 < I.length) (hc : I.getD (i + 1) 0 = 34 ∨ I.getD (i + 1) 0 = 92) : RP I (i + 1 + 1) (acc ++ [I.getD (i + 1) 0]) := by
  refine ⟨?_, by have := h.2; simp; omega⟩
  rw [h.esc hb hj, rp_esc, if_pos hc, map_on]
theorem RP.line {I : List UInt8} {i : Nat} {acc : List UInt8} (h : RP I i acc) (hb : I.getD i 0 = 92) (hj : i + 1 < I.length) (hc : I.getD (i + 1) 0 = 110) : RP I (i + 1 + 1) (acc ++ [10]) := by
  refine ⟨?_, by have := h.2; simp; omega⟩
  rw [h.esc hb hj, rp_esc, hc, if_neg (by decide), if_pos rfl, map_on]
theorem RP.other {I : List UInt8} {i : Nat} {acc : List UInt8} (h : RP I i acc) (hb : I.getD i 0 = 92) (hj : i + 1 < I.length) (c1 : ¬ (I.getD (i + 1) 0 = 34 ∨ I.getD (i + 1) 0 = 92)) (c2 : I.getD (i + 1) 0 ≠ 110) (c3 : I.getD (i + 1) 0 ≠ 120) : rp I = none := by
  rw [h.esc hb hj, rp_esc, if_neg c1, if_neg c2, if_neg c3]
  rfl
theorem RP.short {I : List UInt8} {i : Nat} {acc : List UInt8} (h : RP I i acc) (hb : I.getD i 0 = 92) (hj : i + 1 < I.length) (hc : I.getD (i + 1) 0 = 120) (hk : ¬ i + 1 + 2 < I.length) : rp I = none := by
  rw [h.esc hb hj, rp_esc, hc, if_neg (by decide), if_neg (by decide), if_pos rfl, if_neg (by rw [List.length_drop]; omega)]
  rfl
theorem getD_drop (I : List UInt8) (i j : Nat) : (I.drop i).getD j 0 = I.getD (i + j) 0 := by
  rw [List.getD_eq_getElem?_getD, List.getElem?_drop, ← List.getD_eq_getElem?_getD]
theorem RP.nohex {I : List UInt8} {i : Nat} {acc : List UInt8} (h : RP I i acc) (hb : I.getD i 0 = 92) (hc : I.getD (i + 1) 0 = 120) (hk : i + 1 + 2 < I.length) (hx0 : hx (I.getD (i + 1 + 1) 0) < 0 ∨ hx (I.getD (i + 1 + 2) 0) < 0) : rp I = none := by
  rw [h.esc hb (by omega), rp_esc, hc, if_neg (by decide), if_neg (by decide), if_pos rfl, if_pos (by rw [List.length_drop]; omega), getD_drop, getD_drop, if_pos hx0]
  rfl
theorem RP.hex {I : List UInt8} {i : Nat} {acc : List UInt8} (h : RP I i acc) (hb : I.getD i 0 = 92) (hc : I.getD (i + 1) 0 = 120) (hk : i + 1 + 2 < I.length) (hx0 : ¬ (hx (I.getD (i + 1 + 1) 0) < 0 ∨ hx (I.getD (i + 1 + 2) 0) < 0)) :
    RP I (i + 1 + 2 + 1) (acc ++ [(16 * hx (I.getD (i + 1 + 1) 0) + hx (I.getD (i + 1 + 2) 0)).toNat.toUInt8]) := by
  refine ⟨?_, by have := h.2; simp; omega⟩
  rw [h.esc hb (by omega), rp_esc, hc, if_neg (by decide), if_neg (by decide), if_pos rfl, if_pos (by rw [List.length_drop]; omega), getD_drop, getD_drop, if_neg hx0, map_on, List.drop_drop]
theorem hexbyte (x y : Int) (h0 : 0 ≤ x) (h1 : x < 16) (h2 : 0 ≤ y) (h3 : y < 16) : (((16 * x + y).toNat.toUInt8).toNat : Int) = 16 * x + y := by
  rw [show (16 * x + y).toNat.toUInt8.toNat = (16 * x + y).toNat % 256 from UInt8.toNat_ofNat']
  omega
end Go.Proofs.YtpbebcefnkbnlabDoor
