/- Unlike values have unlike bytes: plain mathematics. -/
import Derived.Test.YthmhcpghfbifiaaGreatDoorGE1
import Derived.Test.YthmhcpghfbifiaaGreatDoorGE2
namespace Go.Proofs.YthmhcpghfbifiaaGreatDoor
open Go.Lib (uvarint uvarint_small uvarint_big)

theorem u8_inj {a b : Nat} (ha : a < 256) (hb : b < 256) (h : a.toUInt8 = b.toUInt8) : a = b := by
  have := congrArg UInt8.toNat h
  simp at this
  omega
theorem uvarint_inj : ∀ (n m : Nat) (x y : List UInt8), uvarint n ++ x = uvarint m ++ y → n = m ∧ x = y := by
  intro n
  induction n using Nat.strongRecOn with
  | ind n ih =>
    intro m x y h
    by_cases hn : n < 128
    · by_cases hm : m < 128
      · rw [uvarint_small hn, uvarint_small hm] at h
        simp only [List.cons_append, List.nil_append, List.cons.injEq] at h
        exact ⟨u8_inj (by omega) (by omega) h.1, h.2⟩
      · rw [uvarint_small hn, uvarint_big (by omega : 128 ≤ m)] at h
        simp only [List.cons_append, List.nil_append, List.cons.injEq] at h
        have := u8_inj (by omega) (by omega) h.1
        omega
    · by_cases hm : m < 128
      · rw [uvarint_big (by omega : 128 ≤ n), uvarint_small hm] at h
        simp only [List.cons_append, List.nil_append, List.cons.injEq] at h
        have := u8_inj (by omega) (by omega) h.1
        omega
      · rw [uvarint_big (by omega : 128 ≤ n), uvarint_big (by omega : 128 ≤ m)] at h
        simp only [List.cons_append, List.cons.injEq] at h
        have h1 := u8_inj (by omega) (by omega) h.1
        obtain ⟨h2, h3⟩ := ih (n / 128) (by omega) (m / 128) x y h.2
        exact ⟨by omega, h3⟩
theorem zz_inj {a b : Int} (h : zz a = zz b) : a = b := by
  unfold zz at h
  split at h <;> split at h <;> omega
theorem txt_inj {s t : ByteArray} {x y : List UInt8} (h : txt s ++ x = txt t ++ y) : s = t ∧ x = y := by
  unfold txt at h
  rw [List.append_assoc, List.append_assoc] at h
  obtain ⟨h1, h2⟩ := uvarint_inj _ _ _ _ h
  have hl : s.data.toList.length = t.data.toList.length := by
    rw [Array.length_toList, Array.length_toList]
    exact h1
  obtain ⟨h3, h4⟩ := List.append_inj h2 hl
  obtain ⟨d⟩ := s
  obtain ⟨d'⟩ := t
  have h5 : d.toList = d'.toList := h3
  exact ⟨by rw [Array.toList_inj.1 h5], h4⟩
theorem form_used {v : Vl} (h : formV v = true) : usedB v = true ∧ goodB v = true := (form_parts h).1
theorem flat_inj {n : Nat} (ih : ∀ (a b : Vl) (x y : List UInt8), a.size ≤ n → formV a = true → formV b = true → encV a ++ x = encV b ++ y → a = b ∧ x = y) :
    ∀ (l r : List Vl) (x y : List UInt8), l.length = r.length → (∀ v ∈ l, v.size ≤ n) → (∀ v ∈ l, formV v = true) → (∀ v ∈ r, formV v = true) → (l.map encV).flatten ++ x = (r.map encV).flatten ++ y → l = r ∧ x = y
  | [], [], x, y, _, _, _, _, h => ⟨rfl, by simpa using h⟩
  | [], _ :: _, _, _, hl, _, _, _, _ => by simp at hl
  | _ :: _, [], _, _, hl, _, _, _, _ => by simp at hl
  | a :: l, b :: r, x, y, hl, hs, h1, h2, h => by
    simp only [List.map_cons, List.flatten_cons, List.append_assoc] at h
    obtain ⟨e, h⟩ := ih a b _ _ (hs a (by simp)) (h1 a (by simp)) (h2 b (by simp)) h
    obtain ⟨e2, h⟩ := flat_inj ih l r x y (by simpa using hl) (fun v hv => hs v (by simp [hv])) (fun v hv => h1 v (by simp [hv])) (fun v hv => h2 v (by simp [hv])) h
    exact ⟨by rw [e, e2], h⟩
theorem good_kind {v : Vl} (h : goodB v = true) : v.kind = 1 ∨ v.kind = 2 ∨ v.kind = 3 ∨ v.kind = 4 ∨ v.kind = 5 ∨ v.kind = 6 ∨ v.kind = 7 := by
  unfold goodB at h
  split at h
  · omega
  · split at h
    · omega
    · split at h
      · omega
      · split at h
        · omega
        · cases h
theorem text_nil {t : ByteArray} (h : t.toList = []) : t = ⟨#[]⟩ := by
  obtain ⟨d⟩ := t
  rw [ByteArray.toList_mk] at h
  rw [Array.toList_inj.1 (show d.toList = (#[] : Array UInt8).toList from h)]
theorem enc_inj : ∀ (n : Nat) (a b : Vl) (x y : List UInt8), a.size ≤ n → formV a = true → formV b = true → encV a ++ x = encV b ++ y → a = b ∧ x = y := by
  intro n
  induction n with
  | zero => intro a b x y h; have := a.size_pos; omega
  | succ n ih =>
    intro a b x y hs ha hb h
    obtain ⟨ua, ga⟩ := form_used ha
    obtain ⟨ub, gb⟩ := form_used hb
    have ka := good_kind ga
    have kb := good_kind gb
    have fa := (form_parts ha).2
    have fb := (form_parts hb).2
    rw [encV_eq a, encV_eq b] at h
    simp only [List.cons_append, List.cons.injEq] at h
    have hk : a.kind = b.kind := by
      have := u8_inj (a := a.kind.toNat) (b := b.kind.toNat) (by omega) (by omega) h.1
      omega
    have hsz : ∀ v ∈ a.items, v.size ≤ n := fun v hv => by have := Vl.size_item hv; omega
    obtain ⟨k, i, m, t, l⟩ := a
    obtain ⟨k', i', m', t', l'⟩ := b
    simp only at *
    subst hk
    have h2 := h.2
    clear h
    unfold usedB at ua ub
    unfold goodB at ga gb
    rcases ka with rfl | rfl | rfl | rfl | rfl | rfl | rfl
    · simp at ua ub ga gb h2
      obtain ⟨⟨rfl, hta⟩, rfl⟩ := ua
      obtain ⟨⟨rfl, htb⟩, rfl⟩ := ub
      rw [text_nil (t := t) (by simpa using hta), text_nil (t := t') (by simpa using htb)]
      have hi := u8_inj (a := i.toNat) (b := i'.toNat) (by omega) (by omega) h2.1
      exact ⟨by rw [show i = i' by omega], h2.2⟩
    · simp at ua ub h2
      obtain ⟨⟨rfl, hta⟩, rfl⟩ := ua
      obtain ⟨⟨rfl, htb⟩, rfl⟩ := ub
      rw [text_nil (t := t) (by simpa using hta), text_nil (t := t') (by simpa using htb)]
      obtain ⟨e, h3⟩ := uvarint_inj _ _ _ _ h2
      exact ⟨by rw [zz_inj e], h3⟩
    · simp at ua ub h2
      obtain ⟨hta, rfl⟩ := ua
      obtain ⟨htb, rfl⟩ := ub
      rw [text_nil (t := t) (by simpa using hta), text_nil (t := t') (by simpa using htb)]
      obtain ⟨e, h3⟩ := uvarint_inj _ _ _ _ h2
      obtain ⟨e2, h4⟩ := uvarint_inj _ _ _ _ h3
      exact ⟨by rw [zz_inj e, zz_inj e2], h4⟩
    · simp at ua ub h2
      obtain ⟨⟨rfl, rfl⟩, rfl⟩ := ua
      obtain ⟨⟨rfl, rfl⟩, rfl⟩ := ub
      obtain ⟨e, h3⟩ := txt_inj h2
      exact ⟨by rw [e], h3⟩
    all_goals
      simp at ua ub h2
      obtain ⟨⟨rfl, rfl⟩, hta⟩ := ua
      obtain ⟨⟨rfl, rfl⟩, htb⟩ := ub
      rw [text_nil (t := t) (by simpa using hta), text_nil (t := t') (by simpa using htb)]
      obtain ⟨e, h3⟩ := uvarint_inj _ _ _ _ h2
      obtain ⟨e2, h4⟩ := flat_inj ih l l' x y e hsz fa fb h3
      exact ⟨by rw [e2], h4⟩
theorem enc_eq {a b : Vl} (ha : formV a = true) (hb : formV b = true) (h : encV a = encV b) : a = b := (enc_inj a.size a b [] [] (Nat.le_refl _) ha hb (by rw [h])).1
end Go.Proofs.YthmhcpghfbifiaaGreatDoor
