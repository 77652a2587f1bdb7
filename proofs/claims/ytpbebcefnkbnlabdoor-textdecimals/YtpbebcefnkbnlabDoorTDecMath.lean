/- Numerals: what is written of a number is read as that number. -/
import Derived.Test.YtpbebcefnkbnlabDoorTRefLines
namespace Go.Proofs.YtpbebcefnkbnlabDoor
open Go.RowKit

theorem ru_ascii : ∀ l : List UInt8, (∀ b ∈ l, b.toNat < 128) → ru l = l.map fun b => ((b.toNat : Int), 1)
  | [], _ => rfl
  | b :: t, h => by
    have hb := rv_ascii b t (h b (by simp))
    rw [ru_step _ (by simp), hb.1, hb.2, List.drop_one, List.tail_cons, ru_ascii t (fun c hc => h c (by simp [hc])), List.map_cons]

def isDig (b : UInt8) : Prop := 48 ≤ b.toNat ∧ b.toNat ≤ 57
/-- The number of a row of digits, others ahead of it. -/
def vd (a : Nat) (l : List UInt8) : Nat := l.foldl (fun n b => 10 * n + (b.toNat - 48)) a
theorem dig_of (d : Nat) (h : d < 10) : (UInt8.ofNat (48 + d)).toNat = 48 + d := by
  rw [UInt8.toNat_ofNat']
  omega
theorem dd_dig (u : Nat) : ∀ b ∈ Lib.decDigits u, isDig b := by
  induction u using Nat.strongRecOn with
  | _ u ih =>
    intro b hb
    by_cases h : u < 10
    · rw [Lib.decDigits_one h] at hb
      have e : b = UInt8.ofNat (48 + u) := by simpa using hb
      rw [e]
      unfold isDig
      rw [dig_of u h]
      omega
    · rw [Lib.decDigits, dif_neg h] at hb
      rcases List.mem_append.1 hb with hb | hb
      · exact ih _ (by omega) b hb
      · have e : b = UInt8.ofNat (48 + u % 10) := by simpa using hb
        rw [e]
        unfold isDig
        rw [dig_of _ (by omega)]
        omega
theorem dd_val (u : Nat) : vd 0 (Lib.decDigits u) = u := by
  induction u using Nat.strongRecOn with
  | _ u ih =>
    by_cases h : u < 10
    · rw [Lib.decDigits_one h]
      unfold vd
      simp only [List.foldl_cons, List.foldl_nil]
      rw [dig_of u h]
      omega
    · rw [Lib.decDigits, dif_neg h]
      have := ih (u / 10) (by omega)
      unfold vd at this ⊢
      rw [List.foldl_append, this]
      simp only [List.foldl_cons, List.foldl_nil]
      rw [dig_of _ (by omega)]
      omega
theorem dd_ne (u : Nat) : Lib.decDigits u ≠ [] := by
  by_cases h : u < 10
  · rw [Lib.decDigits_one h]; simp
  · rw [Lib.decDigits, dif_neg h]; simp
theorem dd_len : ∀ (k u : Nat), u < 10 ^ (k + 1) → (Lib.decDigits u).length ≤ k + 1
  | 0, u, h => by rw [Lib.decDigits_one (by simpa using h)]; simp
  | k + 1, u, h => by
    by_cases h1 : u < 10
    · rw [Lib.decDigits_one h1]; simp
    · rw [Lib.decDigits, dif_neg h1, List.length_append]
      have := dd_len k (u / 10) (by rw [Nat.pow_succ] at h; omega)
      simp
      omega
theorem wv_step (a d : Nat) (_ : d < 10) : wstep (wrap64 (a : Int)) ((48 + d : Nat) : Int) = wrap64 ((10 * a + d : Nat) : Int) := by
  unfold wstep wrap64
  omega
theorem vd_cons (a : Nat) (b : UInt8) (t : List UInt8) : vd a (b :: t) = vd (10 * a + (b.toNat - 48)) t := by
  unfold vd
  rw [List.foldl_cons]
theorem fold_gen (F : Nat → Int) (g : Int → Int → Int) (hg : ∀ a d : Nat, d < 10 → g (F a) ((48 + d : Nat) : Int) = F (10 * a + d)) (l : List UInt8) : ∀ (_ : ∀ b ∈ l, isDig b) (a : Nat), l.foldl (fun n b => g n (b.toNat : Int)) (F a) = F (vd a l) := by
  induction l with
  | nil =>
    intro _ a
    rw [List.foldl_nil]
    unfold vd
    rw [List.foldl_nil]
  | cons b t ihh =>
    intro h a
    obtain ⟨h1, h2⟩ := h b (by simp)
    have ih := ihh (fun c hc => h c (by simp [hc])) (10 * a + (b.toNat - 48))
    have hs := hg a (b.toNat - 48) (by omega)
    have e : 48 + (b.toNat - 48) = b.toNat := by omega
    rw [e] at hs
    rw [List.foldl_cons, hs, ih, vd_cons]
theorem raw_nat (n : Nat) : raw (n : Int) = (n : Int) := by
  unfold raw
  rw [if_neg (by omega)]
theorem wrap_zero : wrap64 ((0 : Nat) : Int) = 0 := by
  unfold wrap64
  omega
theorem wv_digits (l : List UInt8) (h : ∀ b ∈ l, isDig b) : wv l = wrap64 (vd 0 l : Nat) := by
  have h0 := fold_gen (fun a => wrap64 (a : Int)) wstep wv_step l h 0
  rw [wrap_zero] at h0
  unfold wv
  rw [ru_ascii l (fun b hb => by have := h b hb; unfold isDig at this; omega), List.foldl_map]
  simp only [raw_nat]
  exact h0
theorem pre45 (l : List UInt8) : Lib.hasPrefix l [45] = true ↔ 0 < l.length ∧ l.getD 0 0 = 45 := by
  unfold Lib.hasPrefix
  match l with
  | [] => simp
  | a :: t => simp [List.isPrefixOf]; exact ⟨fun h => h.symm, fun h => h.symm⟩
def nOff (l : List UInt8) : Nat := if 0 < l.length ∧ l.getD 0 0 = 45 then 1 else 0
/-- The number that the document reads of a text. -/
def docV (l : List UInt8) : Int := if nOff l = 1 then wrap64 (-(wrap64 (vd 0 (l.drop (nOff l)) : Nat))) else wrap64 (vd 0 (l.drop (nOff l)) : Nat)
/-- What is written of a number. -/
theorem itoa_shape (m : Int) (h0 : -9223372036854775808 ≤ m) (h1 : m ≤ 9223372036854775807) :
    (Lib.itoa m).length ≠ nOff (Lib.itoa m) ∧ (Lib.itoa m).length ≤ nOff (Lib.itoa m) + 19 ∧ (∀ b ∈ (Lib.itoa m).drop (nOff (Lib.itoa m)), isDig b) ∧ docV (Lib.itoa m) = m ∧ wrapd (Lib.itoa m) = m := by
  have hl := dd_len 18 m.natAbs (by omega)
  have hne := List.length_pos_iff.2 (dd_ne m.natAbs)
  have hv := dd_val m.natAbs
  have hd := dd_dig m.natAbs
  by_cases hm : m < 0
  · have e : Lib.itoa m = 45 :: Lib.decDigits m.natAbs := by unfold Lib.itoa; rw [if_pos hm]
    have ho : nOff (Lib.itoa m) = 1 := by unfold nOff; rw [e, if_pos ⟨by simp, by simp⟩]
    have hp : Lib.hasPrefix (Lib.itoa m) [45] = true := (pre45 _).2 (by rw [e]; exact ⟨by simp, by simp⟩)
    have hw : wrapd (Lib.itoa m) = wrap64 (-(wrap64 (vd 0 (Lib.decDigits m.natAbs) : Nat))) := by
      unfold wrapd
      rw [if_pos hp]
      have ht : Lib.trimPrefix (Lib.itoa m) [45] = Lib.decDigits m.natAbs := by
        unfold Lib.trimPrefix
        rw [hp, e]
        rfl
      rw [ht, wv_digits _ hd]
    have hval : wrap64 (-(wrap64 ((m.natAbs : Nat) : Int))) = m := by
      unfold wrap64
      omega
    refine ⟨?_, ?_, ?_, ?_, ?_⟩
    · rw [ho, e, List.length_cons]; omega
    · rw [ho, e, List.length_cons]; omega
    · rw [ho, e]; exact hd
    · unfold docV
      rw [if_pos ho, ho, e, List.drop_one, List.tail_cons, hv, hval]
    · rw [hw, hv, hval]
  · have hN : m.toNat = m.natAbs := by omega
    have e : Lib.itoa m = Lib.decDigits m.natAbs := by unfold Lib.itoa; rw [if_neg hm, hN]
    have h45 : ¬ (0 < (Lib.itoa m).length ∧ (Lib.itoa m).getD 0 0 = 45) := by
      rw [e]
      rintro ⟨a, b⟩
      match hh : Lib.decDigits m.natAbs, b with
      | [], _ => rw [hh] at a; simp at a
      | c :: t, b =>
        have hc : c = 45 := by simpa using b
        have := hd c (by rw [hh]; simp)
        unfold isDig at this
        rw [hc] at this
        exact absurd this.1 (by decide)
    have ho : nOff (Lib.itoa m) = 0 := by unfold nOff; rw [if_neg h45]
    have hp : Lib.hasPrefix (Lib.itoa m) [45] = false := by
      cases hh : Lib.hasPrefix (Lib.itoa m) [45] with
      | false => rfl
      | true => exact absurd ((pre45 _).1 hh) h45
    have hw : wrapd (Lib.itoa m) = wrap64 (vd 0 (Lib.decDigits m.natAbs) : Nat) := by
      unfold wrapd
      rw [if_neg (by rw [hp]; decide)]
      have ht : Lib.trimPrefix (Lib.itoa m) [45] = Lib.decDigits m.natAbs := by
        unfold Lib.trimPrefix
        rw [hp, e]
        rfl
      rw [ht, wv_digits _ hd]
    have hval : wrap64 ((m.natAbs : Nat) : Int) = m := by
      unfold wrap64
      omega
    refine ⟨?_, ?_, ?_, ?_, ?_⟩
    · rw [ho, e]; omega
    · rw [ho, e]; omega
    · rw [ho, e]; exact hd
    · unfold docV
      rw [if_neg (by rw [ho]; decide), ho, e, List.drop_zero, hv, hval]
    · rw [hw, hv, hval]
theorem vd_snoc (a : Nat) (l : List UInt8) (b : UInt8) : vd a (l ++ [b]) = 10 * vd a l + (b.toNat - 48) := by simp [vd]
theorem vd_lt : ∀ (k : Nat) (l : List UInt8), l.length = k → (∀ b ∈ l, isDig b) → vd 0 l < 10 ^ k := by
  intro k
  induction k with
  | zero =>
    intro l hl _
    have : l = [] := List.eq_nil_of_length_eq_zero hl
    subst this
    decide
  | succ k ih =>
    intro l hl hd
    have hne : l ≠ [] := fun e => by rw [e] at hl; simp at hl
    rw [← List.dropLast_concat_getLast hne, vd_snoc]
    have h1 := ih l.dropLast (by rw [List.length_dropLast]; omega) (fun b hb => hd b (List.dropLast_subset l hb))
    have h2 := hd _ (List.getLast_mem hne)
    unfold isDig at h2
    rw [Nat.pow_succ]
    omega
/-- What the document answers of a text is what Number does. -/
theorem num_doc (l : List UInt8) : (Lib.itoa (docV l) = l → numV l = docV l ∧ numE l = 0) ∧ (Lib.itoa (docV l) ≠ l → numV l = 0 ∧ numE l = 22) := by
  have hr : -9223372036854775808 ≤ docV l ∧ docV l ≤ 9223372036854775807 := by
    unfold docV
    split
    · exact ⟨wrap_lo _, wrap_hi _⟩
    · exact ⟨wrap_lo _, wrap_hi _⟩
  refine ⟨fun h => ?_, fun h => ?_⟩
  · have h5 := (itoa_shape (docV l) hr.1 hr.2).2.2.2.2
    rw [h] at h5
    unfold numV numE
    rw [h5, if_pos h, if_pos h]
    exact ⟨rfl, rfl⟩
  · have hw := wrapd_range l
    have hn : Lib.itoa (wrapd l) ≠ l := by
      intro e
      have h4 := (itoa_shape (wrapd l) hw.1 hw.2).2.2.2.1
      rw [e] at h4
      rw [h4] at h
      exact h e
    unfold numV numE
    rw [if_neg hn, if_neg hn]
    exact ⟨rfl, rfl⟩
/-- A text that is not of a numeral's shape is none. -/
theorem num_not (l : List UInt8) (h : l.length = nOff l ∨ nOff l + 19 < l.length ∨ ∃ b ∈ l.drop (nOff l), ¬ isDig b) : numV l = 0 ∧ numE l = 22 := by
  have hw := wrapd_range l
  have hn : Lib.itoa (wrapd l) ≠ l := by
    intro e
    obtain ⟨h1, h2, h3, -, -⟩ := itoa_shape (wrapd l) hw.1 hw.2
    rw [e] at h1 h2 h3
    rcases h with h | h | ⟨b, hb, hnb⟩
    · exact h1 h
    · omega
    · exact hnb (h3 b hb)
  unfold numV numE
  rw [if_neg hn, if_neg hn]
  exact ⟨rfl, rfl⟩
end Go.Proofs.YtpbebcefnkbnlabDoor
