/- Numerals: what is written of a number is read as that number. -/
import Derived.Test.YtmgmndhibcgpdaaGreatDoorGQuote
import Derived.Test.YtmgmndhibcgpdaaGreatDoorGRefText
import Derived.Test.YtmgmndhibcgpdaaGreatDoorZVMake
import Derived.Test.YtmgmndhibcgpdaaGreatDoorZVCompare
import Derived.Test.YtmgmndhibcgpdaaGreatDoorZVEncC
namespace Go.Proofs.YtmgmndhibcgpdaaGreatDoor
open Go.RowKit

theorem ru_ascii : ∀ l : List UInt8, (∀ b ∈ l, b.toNat < 128) → ru l = l.map fun b => ((b.toNat : Int), 1)
  | [], _ => rfl
  | b :: t, h => by
    have hb := rv_ascii b t (h b (by simp))
    rw [ru_step _ (by simp), hb.1, hb.2, List.drop_one, List.tail_cons, ru_ascii t (fun c hc => h c (by simp [hc])), List.map_cons]

def isDig (b : UInt8) : Prop := 48 ≤ b.toNat ∧ b.toNat ≤ 57
/-- The number of a row of digits, others ahead of it. -/
def vd (a : Nat) (l : List UInt8) : Nat := l.foldl (fun n b => 10 * n + (b.toNat - 48)) a
theorem dig_of (d : Nat) (h : d < 10) : (UInt8.ofNat (48 + d)).toNat = 48 + d := by
  rw [UInt8.toNat_ofNat']
  omega
theorem dd_dig (u : Nat) : ∀ b ∈ Lib.decDigits u, isDig b := by
  induction u using Nat.strongRecOn with
  | _ u ih =>
    intro b hb
    by_cases h : u < 10
    · rw [Lib.decDigits_one h] at hb
      have e : b = UInt8.ofNat (48 + u) := by simpa using hb
      rw [e]
      unfold isDig
      rw [dig_of u h]
      omega
    · rw [Lib.decDigits, dif_neg h] at hb
      rcases List.mem_append.1 hb with hb | hb
      · exact ih _ (by omega) b hb
      · have e : b = UInt8.ofNat (48 + u % 10) := by simpa using hb
        rw [e]
        unfold isDig
        rw [dig_of _ (by omega)]
        omega
theorem dd_val (u : Nat) : vd 0 (Lib.decDigits u) = u := by
  induction u using Nat.strongRecOn with
  | _ u ih =>
    by_cases h : u < 10
    · rw [Lib.decDigits_one h]
      unfold vd
      simp only [List.foldl_cons, List.foldl_nil]
      rw [dig_of u h]
      omega
    · rw [Lib.decDigits, dif_neg h]
      have := ih (u / 10) (by omega)
      unfold vd at this ⊢
      rw [List.foldl_append, this]
      simp only [List.foldl_cons, List.foldl_nil]
      rw [dig_of _ (by omega)]
      omega
theorem dd_ne (u : Nat) : Lib.decDigits u ≠ [] := by
  by_cases h : u < 10
  · rw [Lib.decDigits_one h]; simp
  · rw [Lib.decDigits, dif_neg h]; simp
theorem dec_len : ∀ (k u : Nat), u < 10 ^ (k + 1) → (Lib.decDigits u).length ≤ k + 1
  | 0, u, h => by rw [Lib.decDigits_one (by simpa using h)]; simp
  | k + 1, u, h => by
    by_cases h1 : u < 10
    · rw [Lib.decDigits_one h1]; simp
    · rw [Lib.decDigits, dif_neg h1, List.length_append]
      have := dec_len k (u / 10) (by rw [Nat.pow_succ] at h; omega)
      simp
      omega
theorem wv_step (a d : Nat) (_ : d < 10) : wstep (wrap64 (a : Int)) ((48 + d : Nat) : Int) = wrap64 ((10 * a + d : Nat) : Int) := by
  unfold wstep wrap64
  omega
theorem vd_cons (a : Nat) (b : UInt8) (t : List UInt8) : vd a (b :: t) = vd (10 * a + (b.toNat - 48)) t := by
  unfold vd
  rw [List.foldl_cons]
theorem fold_gen (F : Nat → Int) (g : Int → Int → Int) (hg : ∀ a d : Nat, d < 10 → g (F a) ((48 + d : Nat) : Int) = F (10 * a + d)) (l : List UInt8) : ∀ (_ : ∀ b ∈ l, isDig b) (a : Nat), l.foldl (fun n b => g n (b.toNat : Int)) (F a) = F (vd a l) := by
  induction l with
  | nil =>
    intro _ a
    rw [List.foldl_nil]
    unfold vd
    rw [List.foldl_nil]
  | cons b t ihh =>
    intro h a
    obtain ⟨h1, h2⟩ := h b (by simp)
    have ih := ihh (fun c hc => h c (by simp [hc])) (10 * a + (b.toNat - 48))
    have hs := hg a (b.toNat - 48) (by omega)
    have e : 48 + (b.toNat - 48) = b.toNat := by omega
    rw [e] at hs
    rw [List.foldl_cons, hs, ih, vd_cons]
theorem raw_nat (n : Nat) : raw (n : Int) = (n : Int) := by
  unfold raw
  rw [if_neg (by omega)]
theorem wrap_zero : wrap64 ((0 : Nat) : Int) = 0 := by
  unfold wrap64
  omega
theorem wv_digits (l : List UInt8) (h : ∀ b ∈ l, isDig b) : wv l = wrap64 (vd 0 l : Nat) := by
  have h0 := fold_gen (fun a => wrap64 (a : Int)) wstep wv_step l h 0
  rw [wrap_zero] at h0
  unfold wv
  rw [ru_ascii l (fun b hb => by have := h b hb; unfold isDig at this; omega), List.foldl_map]
  simp only [raw_nat]
  exact h0
theorem pre45 (l : List UInt8) : Lib.hasPrefix l [45] = true ↔ 0 < l.length ∧ l.getD 0 0 = 45 := by
  unfold Lib.hasPrefix
  match l with
  | [] => simp
  | a :: t => simp [List.isPrefixOf]; exact ⟨fun h => h.symm, fun h => h.symm⟩
def nOff (l : List UInt8) : Nat := if 0 < l.length ∧ l.getD 0 0 = 45 then 1 else 0
/-- The number that the document reads of a text. -/
def docV (l : List UInt8) : Int := if nOff l = 1 then wrap64 (-(wrap64 (vd 0 (l.drop (nOff l)) : Nat))) else wrap64 (vd 0 (l.drop (nOff l)) : Nat)
/-- What is written of a number. -/
theorem itoa_shape (m : Int) (h0 : -9223372036854775808 ≤ m) (h1 : m ≤ 9223372036854775807) :
    (Lib.itoa m).length ≠ nOff (Lib.itoa m) ∧ (Lib.itoa m).length ≤ nOff (Lib.itoa m) + 19 ∧ (∀ b ∈ (Lib.itoa m).drop (nOff (Lib.itoa m)), isDig b) ∧ docV (Lib.itoa m) = m ∧ wrapd (Lib.itoa m) = m := by
  have hl := dec_len 18 m.natAbs (by omega)
  have hne := List.length_pos_iff.2 (dd_ne m.natAbs)
  have hv := dd_val m.natAbs
  have hd := dd_dig m.natAbs
  by_cases hm : m < 0
  · have e : Lib.itoa m = 45 :: Lib.decDigits m.natAbs := by unfold Lib.itoa; rw [if_pos hm]
    have ho : nOff (Lib.itoa m) = 1 := by unfold nOff; rw [e, if_pos ⟨by simp, by simp⟩]
    have hp : Lib.hasPrefix (Lib.itoa m) [45] = true := (pre45 _).2 (by rw [e]; exact ⟨by simp, by simp⟩)
    have hw : wrapd (Lib.itoa m) = wrap64 (-(wrap64 (vd 0 (Lib.decDigits m.natAbs) : Nat))) := by
      unfold wrapd
      rw [if_pos hp]
      have ht : Lib.trimPrefix (Lib.itoa m) [45] = Lib.decDigits m.natAbs := by
        unfold Lib.trimPrefix
        rw [hp, e]
        rfl
      rw [ht, wv_digits _ hd]
    have hval : wrap64 (-(wrap64 ((m.natAbs : Nat) : Int))) = m := by
      unfold wrap64
      omega
    refine ⟨?_, ?_, ?_, ?_, ?_⟩
    · rw [ho, e, List.length_cons]; omega
    · rw [ho, e, List.length_cons]; omega
    · rw [ho, e]; exact hd
    · unfold docV
      rw [if_pos ho, ho, e, List.drop_one, List.tail_cons, hv, hval]
    · rw [hw, hv, hval]
  · have hN : m.toNat = m.natAbs := by omega
    have e : Lib.itoa m = Lib.decDigits m.natAbs := by unfold Lib.itoa; rw [if_neg hm, hN]
    have h45 : ¬ (0 < (Lib.itoa m).length ∧ (Lib.itoa m).getD 0 0 = 45) := by
      rw [e]
      rintro ⟨a, b⟩
      match hh : Lib.decDigits m.natAbs, b with
      | [], _ => rw [hh] at a; simp at a
      | c :: t, b =>
        have hc : c = 45 := by simpa using b
        have := hd c (by rw [hh]; simp)
        unfold isDig at this
        rw [hc] at this
        exact absurd this.1 (by decide)
    have ho : nOff (Lib.itoa m) = 0 := by unfold nOff; rw [if_neg h45]
    have hp : Lib.hasPrefix (Lib.itoa m) [45] = false := by
      cases hh : Lib.hasPrefix (Lib.itoa m) [45] with
      | false => rfl
      | true => exact absurd ((pre45 _).1 hh) h45
    have hw : wrapd (Lib.itoa m) = wrap64 (vd 0 (Lib.decDigits m.natAbs) : Nat) := by
      unfold wrapd
      rw [if_neg (by rw [hp]; decide)]
      have ht : Lib.trimPrefix (Lib.itoa m) [45] = Lib.decDigits m.natAbs := by
        unfold Lib.trimPrefix
        rw [hp, e]
        rfl
      rw [ht, wv_digits _ hd]
    have hval : wrap64 ((m.natAbs : Nat) : Int) = m := by
      unfold wrap64
      omega
    refine ⟨?_, ?_, ?_, ?_, ?_⟩
    · rw [ho, e]; omega
    · rw [ho, e]; omega
    · rw [ho, e]; exact hd
    · unfold docV
      rw [if_neg (by rw [ho]; decide), ho, e, List.drop_zero, hv, hval]
    · rw [hw, hv, hval]
theorem vd_snoc (a : Nat) (l : List UInt8) (b : UInt8) : vd a (l ++ [b]) = 10 * vd a l + (b.toNat - 48) := by simp [vd]
theorem vd_lt : ∀ (k : Nat) (l : List UInt8), l.length = k → (∀ b ∈ l, isDig b) → vd 0 l < 10 ^ k := by
  intro k
  induction k with
  | zero =>
    intro l hl _
    have : l = [] := List.eq_nil_of_length_eq_zero hl
    subst this
    decide
  | succ k ih =>
    intro l hl hd
    have hne : l ≠ [] := fun e => by rw [e] at hl; simp at hl
    rw [← List.dropLast_concat_getLast hne, vd_snoc]
    have h1 := ih l.dropLast (by rw [List.length_dropLast]; omega) (fun b hb => hd b (List.dropLast_subset l hb))
    have h2 := hd _ (List.getLast_mem hne)
    unfold isDig at h2
    rw [Nat.pow_succ]
    omega
/-- What the document answers of a text is what Number does. -/
theorem num_doc (l : List UInt8) : (Lib.itoa (docV l) = l → numV l = docV l ∧ numE l = 0) ∧ (Lib.itoa (docV l) ≠ l → numV l = 0 ∧ numE l = 22) := by
  have hr : -9223372036854775808 ≤ docV l ∧ docV l ≤ 9223372036854775807 := by
    unfold docV
    split
    · exact ⟨wrap_lo _, wrap_hi _⟩
    · exact ⟨wrap_lo _, wrap_hi _⟩
  refine ⟨fun h => ?_, fun h => ?_⟩
  · have h5 := (itoa_shape (docV l) hr.1 hr.2).2.2.2.2
    rw [h] at h5
    unfold numV numE
    rw [h5, if_pos h, if_pos h]
    exact ⟨rfl, rfl⟩
  · have hw := wrapd_range l
    have hn : Lib.itoa (wrapd l) ≠ l := by
      intro e
      have h4 := (itoa_shape (wrapd l) hw.1 hw.2).2.2.2.1
      rw [e] at h4
      rw [h4] at h
      exact h e
    unfold numV numE
    rw [if_neg hn, if_neg hn]
    exact ⟨rfl, rfl⟩
/-- A text that is not of a numeral's shape is none. -/
theorem num_not (l : List UInt8) (h : l.length = nOff l ∨ nOff l + 19 < l.length ∨ ∃ b ∈ l.drop (nOff l), ¬ isDig b) : numV l = 0 ∧ numE l = 22 := by
  have hw := wrapd_range l
  have hn : Lib.itoa (wrapd l) ≠ l := by
    intro e
    obtain ⟨h1, h2, h3, -, -⟩ := itoa_shape (wrapd l) hw.1 hw.2
    rw [e] at h1 h2 h3
    rcases h with h | h | ⟨b, hb, hnb⟩
    · exact h1 h
    · omega
    · exact hnb (h3 b hb)
  unfold numV numE
  rw [if_neg hn, if_neg hn]
  exact ⟨rfl, rfl⟩
end Go.Proofs.YtmgmndhibcgpdaaGreatDoor

/- The document's numerals. -/
namespace Go.Proofs.YtmgmndhibcgpdaaGreatDoor
open Go.RowKit

set_option maxRecDepth 100000 in
set_option maxHeartbeats 1000000 in
theorem refDigits_k : ∀ (n : Nat) (_ : n < 18446744073709551616) (w : World),
    Calls Tryz.prog 151 #[.int .u64 (n : Int)] w fun e w' => e = .returned (.string (str (Lib.decDigits n))) ∧ Below w.heap.size w w' := by
  intro n
  induction n using Nat.strongRecOn with
  | _ n ih =>
    intro hn w
    by_cases h : n < 10
    · have e : str (Lib.decDigits n) = ⟨#[UInt8.ofNat (48 + n)]⟩ := by rw [Lib.decDigits_one h]; rfl
      have hcv : (convert 45 9 (.slice (some ⟨w.heap.size, 0, none⟩) 1 1)).run Tryz.prog (w.alloc (.cells #[.int .u8 (48 + (n : Int))] 5)) = .ok (.string ⟨#[UInt8.ofNat (48 + n)]⟩) (w.alloc (.cells #[.int .u8 (48 + (n : Int))] 5)) := by
        refine run_convert_bytes_back _ 45 9 5 ⟨w.heap.size, 0, none⟩ 1 [UInt8.ofNat (48 + n)] Tryz.underlying45 Tryz.underlying5 Tryz.underlying9 ?_
        intro j hj
        have hj0 : j = 0 := by simpa using hj
        subst hj0
        simp only [List.getElem_cons_zero]
        rw [dig_of n h]
        simp [Addr.add]
      rw [e]
      clear ih e
      generalize UInt8.ofNat (48 + n) = b at *
      go_enter Tryz.func151, Tryz.ntmps151
      go_wp2
      go_ret
      exact ⟨rfl, (Below.refl _ w).alloc (Nat.le_refl _) _⟩
    · have h1 := ih (n / 10) (by omega) (by omega)
      have h2 := ih (n % 10) (by omega) (by omega)
      have e : Lib.decDigits n = Lib.decDigits (n / 10) ++ Lib.decDigits (n % 10) := by
        conv => lhs; rw [Lib.decDigits, dif_neg h]
        rw [Lib.decDigits_one (by omega : n % 10 < 10)]
      have ec : str (Lib.decDigits (n / 10)) ++ str (Lib.decDigits (n % 10)) = str (Lib.decDigits n) := by
        rw [e, cat_str, bytes_str]
      have hl : (Lib.decDigits n).length ≤ 20 := dec_len 19 n (by omega)
      have hl2 : (str (Lib.decDigits (n / 10))).size + (str (Lib.decDigits (n % 10))).size ≤ 20 := by
        rw [str_size, str_size, ← List.length_append, ← e]
        exact hl
      obtain ⟨q, hq⟩ : ∃ q : Nat, n / 10 = q := ⟨_, rfl⟩
      obtain ⟨r, hr⟩ : ∃ r : Nat, n % 10 = r := ⟨_, rfl⟩
      rw [hq] at h1 ec hl2
      rw [hr] at h2 ec hl2
      have hqi : ((n : Int) / 10) = (q : Int) := by omega
      have hri : ((n : Int) % 10) = (r : Int) := by omega
      have htd : Int.tdiv (n : Int) 10 = (q : Int) := by rw [Int.tdiv_eq_ediv_of_nonneg (by omega)]; exact hqi
      have htm : Int.tmod (n : Int) 10 = (r : Int) := by rw [Int.tmod_eq_emod_of_nonneg (by omega)]; exact hri
      clear ih e hl
      generalize str (Lib.decDigits q) = SA at *
      generalize str (Lib.decDigits r) = SB at *
      generalize str (Lib.decDigits n) = SC at *
      have hq10 : q < 18446744073709551616 := by omega
      have hr10 : r < 10 := by omega
      clear hq hr
      go_enter Tryz.func151, Tryz.ntmps151
      go_wp2_with (first
        | (go_at_call 151; refine (h1 _).mono ?_; clear h1; rintro e w1 ⟨rfl, b1⟩)
        | (go_at_call 151; refine (h2 _).mono ?_; clear h2; rintro e w2 ⟨rfl, b2⟩))
      go_ret
      exact ⟨rfl, b1.trans (b2.mono b1.size)⟩

set_option maxRecDepth 100000 in
set_option maxHeartbeats 1000000 in
theorem refDecimal_k (n : Int) (h0 : -9223372036854775808 ≤ n) (h1 : n ≤ 9223372036854775807) (w : World) :
    Calls Tryz.prog 103 #[.int .i64 n] w fun e w' => e = .returned (.string (str (Lib.itoa n))) ∧ Below w.heap.size w w' := by
  by_cases hn : n < 0
  · have hd := refDigits_k n.natAbs (by omega)
    have e : Lib.itoa n = 45 :: Lib.decDigits n.natAbs := by unfold Lib.itoa; rw [if_pos hn]
    have ec : (⟨#[45]⟩ : ByteArray) ++ str (Lib.decDigits n.natAbs) = str (Lib.itoa n) := by
      rw [e, cat_str]
      rfl
    have hl : (str (Lib.decDigits n.natAbs)).size ≤ 20 := by rw [str_size]; exact dec_len 19 _ (by omega)
    have hN : ((n.natAbs : Nat) : Int) = -(n + 1) + 1 := by omega
    rw [hN] at hd
    clear e hN
    generalize str (Lib.decDigits n.natAbs) = SA at *
    generalize str (Lib.itoa n) = SC at *
    go_enter Tryz.func103, Tryz.ntmps103
    go_wp2_with (go_at_call 151; refine (hd _).mono ?_; rintro e w1 ⟨rfl, b1⟩)
    go_ret
    exact ⟨rfl, b1⟩
  · have hd := refDigits_k n.toNat (by omega)
    have e : Lib.itoa n = Lib.decDigits n.toNat := by unfold Lib.itoa; rw [if_neg hn]
    have hN : ((n.toNat : Nat) : Int) = n := by omega
    rw [hN] at hd
    rw [e]
    generalize str (Lib.decDigits n.toNat) = SA at *
    clear hN e
    go_enter Tryz.func103, Tryz.ntmps103
    go_wp2_with (go_at_call 151; refine (hd _).mono ?_; rintro e w1 ⟨rfl, b1⟩)
    go_ret
    exact ⟨rfl, b1⟩

/-- What is told of the byte at a place of a text of digits. -/
theorem drop_take (l : List UInt8) (i k : Nat) (hi : i ≤ k) (hk : k < l.length) : (l.drop i).take (k + 1 - i) = (l.drop i).take (k - i) ++ [l.getD k 0] := (take_more l i k hi hk).symm
theorem mem_drop_take {l : List UInt8} {i k : Nat} {b : UInt8} (h : b ∈ (l.drop i).take k) : b ∈ l.drop i := List.mem_of_mem_take h
theorem getD_mem_drop (l : List UInt8) (i k : Nat) (hi : i ≤ k) (hk : k < l.length) : l.getD k 0 ∈ l.drop i := by
  have e : (l.drop i)[k - i]? = some (l.getD k 0) := by
    rw [List.getElem?_drop, List.getD_eq_getElem?_getD]
    have e2 : i + (k - i) = k := by omega
    rw [e2, List.getElem?_eq_getElem hk]
    rfl
  exact List.mem_of_getElem? e

end Go.Proofs.YtmgmndhibcgpdaaGreatDoor

/- The reference's written and Print. -/
namespace Go.Proofs.YtmgmndhibcgpdaaGreatDoor
open Go.RowKit

def RWrC (n : Nat) : Prop := ∀ (v : Vl) (w : World) (B : Nat) (sl : Value), formV v = true → v.ok → v.size ≤ 1000000000 → (prV v).length ≤ 1000000000000 → B ≤ w.heap.size → ItemsAt w B n sl v.items →
  Calls Tryz.prog 59 #[.agg (vcells v sl)] w fun e w' => e = .returned (.string (str (prV v))) ∧ Below w.heap.size w w'
/-- The first texts, with a comma and a blank between each two. -/
def jn (l : List Vl) (k : Nat) : List UInt8 := Lib.join ((l.take k).map prV) [44, 32]
theorem jn_zero (l : List Vl) : jn l 0 = [] := by unfold jn; rw [List.take_zero]; rfl
theorem jn_one (l : List Vl) (h : 0 < l.length) : jn l 1 = prV l[0] := by
  unfold jn
  cases l with
  | nil => simp at h
  | cons x r => simp [Lib.join_one]
theorem jn_succ (l : List Vl) (k : Nat) (h0 : 0 < k) (h : k < l.length) : jn l (k + 1) = jn l k ++ [44, 32] ++ prV l[k] := by
  unfold jn
  cases l with
  | nil => simp at h
  | cons x r =>
    obtain ⟨q, rfl⟩ : ∃ q, k = q + 1 := ⟨k - 1, by omega⟩
    have hq : q < r.length := by simpa using h
    have := Lib.joinTail_take_succ [44, 32] (r.map prV) q (prV r[q]) (by simp [hq])
    rw [List.take_succ_cons, List.take_succ_cons, List.map_cons, List.map_cons, Lib.join_cons, Lib.join_cons, List.map_take, this, List.map_take]
    simp
theorem jn_le (l : List Vl) (k : Nat) : (jn l k).length ≤ (Lib.join (l.map prV) [44, 32]).length := by
  unfold jn
  cases l with
  | nil => simp
  | cons x r =>
    cases k with
    | zero => simp [Lib.join_nil]
    | succ q =>
      rw [List.take_succ_cons, List.map_cons, List.map_cons, Lib.join_cons, Lib.join_cons, List.length_append, List.length_append, List.map_take]
      have := Lib.joinTail_take_le [44, 32] (r.map prV) q
      omega
theorem jn_all (l : List Vl) {k : Nat} (h : l.length ≤ k) : jn l k = Lib.join (l.map prV) [44, 32] := by unfold jn; rw [List.take_of_length_le h]
theorem str_lit (x : List UInt8) : (⟨⟨x⟩⟩ : ByteArray) = str x := rfl
set_option maxRecDepth 100000 in
set_option maxHeartbeats 1000000 in
theorem rwr_bool (i m : Int) (t : ByteArray) (l : List Vl) (a : Option Addr) (c : Nat) (w : World) (hi : i = 0 ∨ i = 1) :
    Calls Tryz.prog 59 #[.agg (vcells ⟨1, i, m, t, l⟩ (.slice a l.length c))] w fun e w' => e = .returned (.string (str (prV ⟨1, i, m, t, l⟩))) ∧ Below w.heap.size w w' := by
  obtain ⟨W, hW⟩ : ∃ W, w.alloc (.cells (vcells ⟨1, i, m, t, l⟩ (.slice a l.length c)) 25) = W := ⟨_, rfl⟩
  have bW : Below w.heap.size w W := by rw [← hW]; exact alloc_v (Below.refl _ _) _
  have e1 : W.heap[w.heap.size]? = some (.cells (vcells ⟨1, i, m, t, l⟩ (.slice a l.length c)) 25 (0, 0)) := by rw [← hW]; exact World.alloc_heap_new w _
  have zW : w.heap.size < W.heap.size := (Array.getElem?_eq_some_iff.1 e1).1
  have x0 := cells_at e1 0 _ rfl
  have x1 := cells_at e1 1 _ rfl
  have x2 := cells_at e1 2 _ rfl
  have x3 := cells_at e1 3 _ rfl
  have x4 := cells_at e1 4 _ rfl
  clear e1
  rcases hi with rfl | rfl
  · rw [pr_false]
    go_enter Tryz.func59, Tryz.ntmps59
    go_wp2
    go_ret
    exact ⟨rfl, bW⟩
  · rw [pr_true]
    go_enter Tryz.func59, Tryz.ntmps59
    go_wp2
    go_ret
    exact ⟨rfl, bW⟩
set_option maxRecDepth 100000 in
set_option maxHeartbeats 1000000 in
theorem rwr_int (i m : Int) (t : ByteArray) (l : List Vl) (a : Option Addr) (c : Nat) (w : World) (h0 : -9223372036854775808 ≤ i) (h1 : i ≤ 9223372036854775807) :
    Calls Tryz.prog 59 #[.agg (vcells ⟨2, i, m, t, l⟩ (.slice a l.length c))] w fun e w' => e = .returned (.string (str (prV ⟨2, i, m, t, l⟩))) ∧ Below w.heap.size w w' := by
  obtain ⟨W, hW⟩ : ∃ W, w.alloc (.cells (vcells ⟨2, i, m, t, l⟩ (.slice a l.length c)) 25) = W := ⟨_, rfl⟩
  have bW : Below w.heap.size w W := by rw [← hW]; exact alloc_v (Below.refl _ _) _
  have e1 : W.heap[w.heap.size]? = some (.cells (vcells ⟨2, i, m, t, l⟩ (.slice a l.length c)) 25 (0, 0)) := by rw [← hW]; exact World.alloc_heap_new w _
  have zW : w.heap.size < W.heap.size := (Array.getElem?_eq_some_iff.1 e1).1
  have x0 := cells_at e1 0 _ rfl
  have x1 := cells_at e1 1 _ rfl
  have x2 := cells_at e1 2 _ rfl
  have x3 := cells_at e1 3 _ rfl
  have x4 := cells_at e1 4 _ rfl
  clear e1
  have HD := hide (refDecimal_k i h0 h1 W)
  rw [pr_int]
  go_enter Tryz.func59, Tryz.ntmps59
  go_wp2_with (go_at_call 103; refine HD.out.mono ?_; clear HD; rintro e w1 ⟨rfl, b1⟩)
  go_ret
  exact ⟨rfl, trans_v bW b1⟩
set_option maxRecDepth 100000 in
set_option maxHeartbeats 1000000 in
theorem rwr_sym (i m : Int) (t : ByteArray) (l : List Vl) (a : Option Addr) (c : Nat) (w : World) :
    Calls Tryz.prog 59 #[.agg (vcells ⟨4, i, m, t, l⟩ (.slice a l.length c))] w fun e w' => e = .returned (.string (str (prV ⟨4, i, m, t, l⟩))) ∧ Below w.heap.size w w' := by
  obtain ⟨W, hW⟩ : ∃ W, w.alloc (.cells (vcells ⟨4, i, m, t, l⟩ (.slice a l.length c)) 25) = W := ⟨_, rfl⟩
  have bW : Below w.heap.size w W := by rw [← hW]; exact alloc_v (Below.refl _ _) _
  have e1 : W.heap[w.heap.size]? = some (.cells (vcells ⟨4, i, m, t, l⟩ (.slice a l.length c)) 25 (0, 0)) := by rw [← hW]; exact World.alloc_heap_new w _
  have zW : w.heap.size < W.heap.size := (Array.getElem?_eq_some_iff.1 e1).1
  have x0 := cells_at e1 0 _ rfl
  have x1 := cells_at e1 1 _ rfl
  have x2 := cells_at e1 2 _ rfl
  have x3 := cells_at e1 3 _ rfl
  have x4 := cells_at e1 4 _ rfl
  clear e1
  rw [pr_sym, show str t.data.toList = t from str_bytes t]
  go_enter Tryz.func59, Tryz.ntmps59
  go_wp2
  go_ret
  exact ⟨rfl, bW⟩
set_option maxRecDepth 100000 in
set_option maxHeartbeats 1000000 in
theorem rwr_gauss (i m : Int) (t : ByteArray) (l : List Vl) (a : Option Addr) (c : Nat) (w : World) (h0 : -9223372036854775808 ≤ i) (h1 : i ≤ 9223372036854775807) (h2 : -9223372036854775808 ≤ m) (h3 : m ≤ 9223372036854775807) (hn : (prV ⟨3, i, m, t, l⟩).length ≤ 1000000000000) :
    Calls Tryz.prog 59 #[.agg (vcells ⟨3, i, m, t, l⟩ (.slice a l.length c))] w fun e w' => e = .returned (.string (str (prV ⟨3, i, m, t, l⟩))) ∧ Below w.heap.size w w' := by
  obtain ⟨W, hW⟩ : ∃ W, w.alloc (.cells (vcells ⟨3, i, m, t, l⟩ (.slice a l.length c)) 25) = W := ⟨_, rfl⟩
  have bW : Below w.heap.size w W := by rw [← hW]; exact alloc_v (Below.refl _ _) _
  have e1 : W.heap[w.heap.size]? = some (.cells (vcells ⟨3, i, m, t, l⟩ (.slice a l.length c)) 25 (0, 0)) := by rw [← hW]; exact World.alloc_heap_new w _
  have zW : w.heap.size < W.heap.size := (Array.getElem?_eq_some_iff.1 e1).1
  have x0 := cells_at e1 0 _ rfl
  have x1 := cells_at e1 1 _ rfl
  have x2 := cells_at e1 2 _ rfl
  have x3 := cells_at e1 3 _ rfl
  have x4 := cells_at e1 4 _ rfl
  have v0 := fun q : Wv W => q.cell x0
  have v1 := fun q : Wv W => q.cell x1
  have v2 := fun q : Wv W => q.cell x2
  have v3 := fun q : Wv W => q.cell x3
  have v4 := fun q : Wv W => q.cell x4
  have HI := hide (fun U : World => refDecimal_k i h0 h1 U)
  have HM := hide (fun U : World => refDecimal_k m h2 h3 U)
  have hany := Wv.any W
  rw [pr_gauss] at hn ⊢
  clear e1 h0 h1 h2 h3
  by_cases hm : 0 ≤ m
  · rw [if_pos hm] at hn ⊢
    simp at hn
    have c1 := fun U => cat (Lib.itoa i) [43] (by simp; omega) U
    have c2 := fun U => cat (Lib.itoa i ++ [43]) (Lib.itoa m) (by simp; omega) U
    have c3 := fun U => cat (Lib.itoa i ++ [43] ++ Lib.itoa m) [105] (by simp; omega) U
    have d1 : ∀ U, (Op.stringOp .add (str (Lib.itoa i)) ⟨#[43]⟩).run Tryz.prog U = .ok (.string (str (Lib.itoa i ++ [43]))) U := c1
    have d3 : ∀ U, (Op.stringOp .add (str (Lib.itoa i ++ [43] ++ Lib.itoa m)) ⟨#[105]⟩).run Tryz.prog U = .ok (.string (str (Lib.itoa i ++ [43] ++ Lib.itoa m ++ [105]))) U := c3
    clear c1 c3 hn
    generalize Lib.itoa i = x at *
    generalize Lib.itoa m = y at *
    generalize str (x ++ [43] ++ y ++ [105]) = s4 at *
    generalize str (x ++ [43] ++ y) = s3 at *
    generalize str (x ++ [43]) = s2 at *
    go_enter Tryz.func59, Tryz.ntmps59
    go_wp2
    refine wp_region_grown (by kernel_rfl) (by kernel_rfl) ?_
    repeat (go_big_quiet_step ((first
      | (go_at_call 103; with_reducible exact Wv.calls _ (HI.out _))
      | (go_at_call 103; with_reducible exact Wv.calls _ (HM.out _)))))
    refine wpQuiet_nil ?_
    intro w1 hw'
    obtain ⟨q, rfl⟩ := hw'
    clear v0 v1 v2 v3 v4 hany
    go_wp2
    go_ret
    exact ⟨rfl, trans_v bW q.below⟩
  · rw [if_neg hm] at hn ⊢
    simp at hn
    have c1 := fun U => cat (Lib.itoa i) [] (by simp; omega) U
    have c2 := fun U => cat (Lib.itoa i ++ []) (Lib.itoa m) (by simp; omega) U
    have c3 := fun U => cat (Lib.itoa i ++ [] ++ Lib.itoa m) [105] (by simp; omega) U
    have d1 : ∀ U, (Op.stringOp .add (str (Lib.itoa i)) ⟨#[]⟩).run Tryz.prog U = .ok (.string (str (Lib.itoa i ++ []))) U := c1
    have d3 : ∀ U, (Op.stringOp .add (str (Lib.itoa i ++ [] ++ Lib.itoa m)) ⟨#[105]⟩).run Tryz.prog U = .ok (.string (str (Lib.itoa i ++ [] ++ Lib.itoa m ++ [105]))) U := c3
    clear c1 c3 hn
    generalize Lib.itoa i = x at *
    generalize Lib.itoa m = y at *
    generalize str (x ++ [] ++ y ++ [105]) = s4 at *
    generalize str (x ++ [] ++ y) = s3 at *
    generalize str (x ++ []) = s2 at *
    go_enter Tryz.func59, Tryz.ntmps59
    go_wp2
    refine wp_region_grown (by kernel_rfl) (by kernel_rfl) ?_
    repeat (go_big_quiet_step ((first
      | (go_at_call 103; with_reducible exact Wv.calls _ (HI.out _))
      | (go_at_call 103; with_reducible exact Wv.calls _ (HM.out _)))))
    refine wpQuiet_nil ?_
    intro w1 hw'
    obtain ⟨q, rfl⟩ := hw'
    clear v0 v1 v2 v3 v4 hany
    go_wp2
    go_ret
    exact ⟨rfl, trans_v bW q.below⟩
set_option maxRecDepth 100000 in
set_option maxHeartbeats 1000000 in
theorem rwr_row5 (i m : Int) (t : ByteArray) (l : List Vl) (a : Option Addr) (c : Nat) (w : World) (n B : Nat) (hC : RWrC n) (hBw : B ≤ w.heap.size) (hi : ItemsAt w B (n + 1) (.slice a l.length c) l) (hf : ∀ x ∈ l, formV x = true) (hz : ∀ x ∈ l, x.size ≤ 1000000000) (hll : l.length ≤ 1000000000) (hn : (Lib.join (l.map prV) [44, 32]).length ≤ 1000000000000) :
    Calls Tryz.prog 59 #[.agg (vcells ⟨5, i, m, t, l⟩ (.slice a l.length c))] w fun e w' => e = .returned (.string (str (prV ⟨5, i, m, t, l⟩))) ∧ Below w.heap.size w w' := by
  obtain ⟨W, hW⟩ : ∃ W, w.alloc (.cells (vcells ⟨5, i, m, t, l⟩ (.slice a l.length c)) 25) = W := ⟨_, rfl⟩
  have bW : Below w.heap.size w W := by rw [← hW]; exact alloc_v (Below.refl _ _) _
  have e1 : W.heap[w.heap.size]? = some (.cells (vcells ⟨5, i, m, t, l⟩ (.slice a l.length c)) 25 (0, 0)) := by rw [← hW]; exact World.alloc_heap_new w _
  have zW : w.heap.size < W.heap.size := (Array.getElem?_eq_some_iff.1 e1).1
  have x0 := cells_at e1 0 _ rfl
  have x1 := cells_at e1 1 _ rfl
  have x2 := cells_at e1 2 _ rfl
  have x3 := cells_at e1 3 _ rfl
  have x4 := cells_at e1 4 _ rfl
  have HB := hide (fun (U : World) (b : Below W.heap.size W U) => (b.block _ zW).trans e1)
  have HI := hide (hi.below (bW.mono hBw))
  have HJ := hide (fun q : Nat => Nat.le_trans (jn_le l q) hn)
  have HCC := hide hC
  have HF := hide hf
  have HZ := hide hz
  have HMEM := hide (fun (q : Nat) (h : q < l.length) => Nat.le_trans (join_mem [44, 32] (List.mem_map_of_mem (f := prV) (List.getElem_mem h))) hn)
  clear e1 hi hC hf hz
  go_enter Tryz.func59, Tryz.ntmps59
  go_wp2
  clear x0 x1 x2 x3 x4 hW
  go_loopw [4, 5] (fun s u wr => ∃ q : Nat, q ≤ l.length ∧ u = .int .i64 q ∧ s = .string (str (jn l q)) ∧ Below W.heap.size W wr) (fun _ u _ => l.length - (intOf u).toNat)
  case atStart => exact ⟨0, Nat.zero_le _, rfl, by rw [jn_zero]; rfl, Below.refl _ _⟩
  case round =>
    obtain ⟨q, hq, rfl, rfl, hbel⟩ := hrel
    have y4 := cells_at (HB.out wr hbel) 4 _ rfl
    have y0 := cells_at (HB.out wr hbel) 0 _ rfl
    by_cases hlt : q < l.length
    · obtain ⟨b1, o1, s1, rfl, g1, p0, p1, p2, p3, p4, p5, p6⟩ := (HI.out.below (hbel.mono (by have := bW.size; omega))).item q hlt
      have l1 : b1 < wr.heap.size := by have := hbel.size; have := bW.size; omega
      have HC := hide (HCC.out l[q] wr B s1 (HF.out _ (List.getElem_mem hlt)) p6 (HZ.out _ (List.getElem_mem hlt)) (HMEM.out q hlt) (by have := hbel.size; have := bW.size; omega) p5)
      have hj1 := HJ.out q
      have hm1 := HMEM.out q hlt
      obtain ⟨xx1, yy1, rfl, _⟩ := p5.len
      have HBL := hide hbel
      clear p5 p6 g1 hbel
      by_cases h0 : 0 < q
      · have hgt : ((q : Int) > 0) := by omega
        have c1 := fun U => cat (jn l q) [44, 32] (by simp; omega) U
        have d1 : ∀ U, (Op.stringOp .add (str (jn l q)) ⟨#[44, 32]⟩).run Tryz.prog U = .ok (.string (str (jn l q ++ [44, 32]))) U := c1
        have d2 := fun U => cat (jn l q ++ [44, 32]) (prV l[q]) (by simp; omega) U
        have HS := hide (jn_succ l q h0 hlt)
        clear c1 hj1 hm1
        generalize prV l[q] = pv at *
        generalize l[q].items = xi at *
        generalize l[q] = x at *
        rw [← HS.out] at d2
        clear HS
        go_wp2_with (go_at_call 59; refine HC.out.mono ?_; clear HC; rintro e w5 ⟨rfl, b5⟩)
        go_roundw
        case rel => exact ⟨q + 1, by omega, by go_num, rfl, trans_v HBL.out b5⟩
        case measure => simp [intOf]; omega
      · obtain rfl : q = 0 := by omega
        have d2 := fun U => cat (jn l 0) (prV l[0]) (by omega) U
        have HS := hide (show jn l 0 ++ prV l[0] = jn l 1 by rw [jn_zero, jn_one l hlt]; rfl)
        clear hj1 hm1
        generalize prV l[0] = pv at *
        generalize l[0].items = xi at *
        generalize l[0] = x at *
        rw [HS.out] at d2
        clear HS
        (try simp only [Nat.zero_mul, Nat.add_zero] at p0)
        (try simp only [Nat.zero_mul, Nat.add_zero] at p1)
        (try simp only [Nat.zero_mul, Nat.add_zero] at p2)
        (try simp only [Nat.zero_mul, Nat.add_zero] at p3)
        (try simp only [Nat.zero_mul, Nat.add_zero] at p4)
        go_wp2_with (go_at_call 59; refine HC.out.mono ?_; clear HC; rintro e w5 ⟨rfl, b5⟩)
        go_roundw
        case rel => exact ⟨1, by omega, rfl, rfl, trans_v HBL.out b5⟩
        case measure => simp [intOf]; omega
    · have hje := jn_all l (k := q) (by omega)
      rw [hje]
      have HBL := hide hbel
      clear hje HCC HF HZ HI HJ HMEM hbel
      by_cases hone : l.length = 1
      · have HPR := hide (show str (prV ⟨5, i, m, t, l⟩) = str ([40] ++ (Lib.join (l.map prV) [44, 32] ++ [44]) ++ [41]) by rw [pr_one _ _ _ _ hone]; simp)
        have hone' : ((l.length : Int) == 1) = true := by simp [hone]
        have c0 := fun U => cat (Lib.join (l.map prV) [44, 32]) [44] (by simp; omega) U
        have c1 := fun U => cat [40] (Lib.join (l.map prV) [44, 32] ++ [44]) (by simp; omega) U
        have c2 := fun U => cat ([40] ++ (Lib.join (l.map prV) [44, 32] ++ [44])) [41] (by simp; omega) U
        have d0 : ∀ U, (Op.stringOp .add (str (Lib.join (l.map prV) [44, 32])) ⟨#[44]⟩).run Tryz.prog U = .ok (.string (str (Lib.join (l.map prV) [44, 32] ++ [44]))) U := c0
        have d1 : ∀ U, (Op.stringOp .add ⟨#[40]⟩ (str (Lib.join (l.map prV) [44, 32] ++ [44]))).run Tryz.prog U = .ok (.string (str ([40] ++ (Lib.join (l.map prV) [44, 32] ++ [44])))) U := c1
        have d2 : ∀ U, (Op.stringOp .add (str ([40] ++ (Lib.join (l.map prV) [44, 32] ++ [44]))) ⟨#[41]⟩).run Tryz.prog U = .ok (.string (str ([40] ++ (Lib.join (l.map prV) [44, 32] ++ [44]) ++ [41]))) U := c2
        clear c0 c1 c2
        generalize str ([40] ++ (Lib.join (l.map prV) [44, 32] ++ [44]) ++ [41]) = s3 at *
        generalize str ([40] ++ (Lib.join (l.map prV) [44, 32] ++ [44])) = s2 at *
        generalize str (Lib.join (l.map prV) [44, 32] ++ [44]) = s1 at *
        generalize str (Lib.join (l.map prV) [44, 32]) = s0 at *
        go_wp2
        go_ret
        rw [HPR.out]
        exact ⟨rfl, trans_v bW HBL.out⟩
      · have HPR := hide (show str (prV ⟨5, i, m, t, l⟩) = str ([40] ++ Lib.join (l.map prV) [44, 32] ++ [41]) by rw [pr_tuple _ _ _ _ hone]; rfl)
        have hone' : ((l.length : Int) == 1) = false := by simp; omega
        have c1 := fun U => cat [40] (Lib.join (l.map prV) [44, 32]) (by simp; omega) U
        have c2 := fun U => cat ([40] ++ Lib.join (l.map prV) [44, 32]) [41] (by simp; omega) U
        have d1 : ∀ U, (Op.stringOp .add ⟨#[40]⟩ (str (Lib.join (l.map prV) [44, 32]))).run Tryz.prog U = .ok (.string (str ([40] ++ Lib.join (l.map prV) [44, 32]))) U := c1
        have d2 : ∀ U, (Op.stringOp .add (str ([40] ++ Lib.join (l.map prV) [44, 32])) ⟨#[41]⟩).run Tryz.prog U = .ok (.string (str ([40] ++ Lib.join (l.map prV) [44, 32] ++ [41]))) U := c2
        clear c1 c2
        generalize str ([40] ++ Lib.join (l.map prV) [44, 32] ++ [41]) = s2 at *
        generalize str ([40] ++ Lib.join (l.map prV) [44, 32]) = s1 at *
        generalize str (Lib.join (l.map prV) [44, 32]) = s0 at *
        go_wp2
        go_ret
        rw [HPR.out]
        exact ⟨rfl, trans_v bW HBL.out⟩
set_option maxRecDepth 100000 in
set_option maxHeartbeats 1000000 in
theorem rwr_row6 (i m : Int) (t : ByteArray) (l : List Vl) (a : Option Addr) (c : Nat) (w : World) (n B : Nat) (hC : RWrC n) (hBw : B ≤ w.heap.size) (hi : ItemsAt w B (n + 1) (.slice a l.length c) l) (hf : ∀ x ∈ l, formV x = true) (hz : ∀ x ∈ l, x.size ≤ 1000000000) (hll : l.length ≤ 1000000000) (hn : (Lib.join (l.map prV) [44, 32]).length ≤ 1000000000000) :
    Calls Tryz.prog 59 #[.agg (vcells ⟨6, i, m, t, l⟩ (.slice a l.length c))] w fun e w' => e = .returned (.string (str (prV ⟨6, i, m, t, l⟩))) ∧ Below w.heap.size w w' := by
  obtain ⟨W, hW⟩ : ∃ W, w.alloc (.cells (vcells ⟨6, i, m, t, l⟩ (.slice a l.length c)) 25) = W := ⟨_, rfl⟩
  have bW : Below w.heap.size w W := by rw [← hW]; exact alloc_v (Below.refl _ _) _
  have e1 : W.heap[w.heap.size]? = some (.cells (vcells ⟨6, i, m, t, l⟩ (.slice a l.length c)) 25 (0, 0)) := by rw [← hW]; exact World.alloc_heap_new w _
  have zW : w.heap.size < W.heap.size := (Array.getElem?_eq_some_iff.1 e1).1
  have x0 := cells_at e1 0 _ rfl
  have x1 := cells_at e1 1 _ rfl
  have x2 := cells_at e1 2 _ rfl
  have x3 := cells_at e1 3 _ rfl
  have x4 := cells_at e1 4 _ rfl
  have HB := hide (fun (U : World) (b : Below W.heap.size W U) => (b.block _ zW).trans e1)
  have HI := hide (hi.below (bW.mono hBw))
  have HJ := hide (fun q : Nat => Nat.le_trans (jn_le l q) hn)
  have HCC := hide hC
  have HF := hide hf
  have HZ := hide hz
  have HMEM := hide (fun (q : Nat) (h : q < l.length) => Nat.le_trans (join_mem [44, 32] (List.mem_map_of_mem (f := prV) (List.getElem_mem h))) hn)
  clear e1 hi hC hf hz
  go_enter Tryz.func59, Tryz.ntmps59
  go_wp2
  clear x0 x1 x2 x3 x4 hW
  go_loopw [4, 5] (fun s u wr => ∃ q : Nat, q ≤ l.length ∧ u = .int .i64 q ∧ s = .string (str (jn l q)) ∧ Below W.heap.size W wr) (fun _ u _ => l.length - (intOf u).toNat)
  case atStart => exact ⟨0, Nat.zero_le _, rfl, by rw [jn_zero]; rfl, Below.refl _ _⟩
  case round =>
    obtain ⟨q, hq, rfl, rfl, hbel⟩ := hrel
    have y4 := cells_at (HB.out wr hbel) 4 _ rfl
    have y0 := cells_at (HB.out wr hbel) 0 _ rfl
    by_cases hlt : q < l.length
    · obtain ⟨b1, o1, s1, rfl, g1, p0, p1, p2, p3, p4, p5, p6⟩ := (HI.out.below (hbel.mono (by have := bW.size; omega))).item q hlt
      have l1 : b1 < wr.heap.size := by have := hbel.size; have := bW.size; omega
      have HC := hide (HCC.out l[q] wr B s1 (HF.out _ (List.getElem_mem hlt)) p6 (HZ.out _ (List.getElem_mem hlt)) (HMEM.out q hlt) (by have := hbel.size; have := bW.size; omega) p5)
      have hj1 := HJ.out q
      have hm1 := HMEM.out q hlt
      obtain ⟨xx1, yy1, rfl, _⟩ := p5.len
      have HBL := hide hbel
      clear p5 p6 g1 hbel
      by_cases h0 : 0 < q
      · have hgt : ((q : Int) > 0) := by omega
        have c1 := fun U => cat (jn l q) [44, 32] (by simp; omega) U
        have d1 : ∀ U, (Op.stringOp .add (str (jn l q)) ⟨#[44, 32]⟩).run Tryz.prog U = .ok (.string (str (jn l q ++ [44, 32]))) U := c1
        have d2 := fun U => cat (jn l q ++ [44, 32]) (prV l[q]) (by simp; omega) U
        have HS := hide (jn_succ l q h0 hlt)
        clear c1 hj1 hm1
        generalize prV l[q] = pv at *
        generalize l[q].items = xi at *
        generalize l[q] = x at *
        rw [← HS.out] at d2
        clear HS
        go_wp2_with (go_at_call 59; refine HC.out.mono ?_; clear HC; rintro e w5 ⟨rfl, b5⟩)
        go_roundw
        case rel => exact ⟨q + 1, by omega, by go_num, rfl, trans_v HBL.out b5⟩
        case measure => simp [intOf]; omega
      · obtain rfl : q = 0 := by omega
        have d2 := fun U => cat (jn l 0) (prV l[0]) (by omega) U
        have HS := hide (show jn l 0 ++ prV l[0] = jn l 1 by rw [jn_zero, jn_one l hlt]; rfl)
        clear hj1 hm1
        generalize prV l[0] = pv at *
        generalize l[0].items = xi at *
        generalize l[0] = x at *
        rw [HS.out] at d2
        clear HS
        (try simp only [Nat.zero_mul, Nat.add_zero] at p0)
        (try simp only [Nat.zero_mul, Nat.add_zero] at p1)
        (try simp only [Nat.zero_mul, Nat.add_zero] at p2)
        (try simp only [Nat.zero_mul, Nat.add_zero] at p3)
        (try simp only [Nat.zero_mul, Nat.add_zero] at p4)
        go_wp2_with (go_at_call 59; refine HC.out.mono ?_; clear HC; rintro e w5 ⟨rfl, b5⟩)
        go_roundw
        case rel => exact ⟨1, by omega, rfl, rfl, trans_v HBL.out b5⟩
        case measure => simp [intOf]; omega
    · have hje := jn_all l (k := q) (by omega)
      rw [hje]
      have HBL := hide hbel
      clear hje HCC HF HZ HI HJ HMEM hbel
      have HPR := hide (show str (prV ⟨6, i, m, t, l⟩) = str ([91] ++ Lib.join (l.map prV) [44, 32] ++ [93]) by rw [pr_list]; rfl)
      have c1 := fun U => cat [91] (Lib.join (l.map prV) [44, 32]) (by simp; omega) U
      have c2 := fun U => cat ([91] ++ Lib.join (l.map prV) [44, 32]) [93] (by simp; omega) U
      have d1 : ∀ U, (Op.stringOp .add ⟨#[91]⟩ (str (Lib.join (l.map prV) [44, 32]))).run Tryz.prog U = .ok (.string (str ([91] ++ Lib.join (l.map prV) [44, 32]))) U := c1
      have d2 : ∀ U, (Op.stringOp .add (str ([91] ++ Lib.join (l.map prV) [44, 32])) ⟨#[93]⟩).run Tryz.prog U = .ok (.string (str ([91] ++ Lib.join (l.map prV) [44, 32] ++ [93]))) U := c2
      clear c1 c2
      generalize str ([91] ++ Lib.join (l.map prV) [44, 32] ++ [93]) = s2 at *
      generalize str ([91] ++ Lib.join (l.map prV) [44, 32]) = s1 at *
      generalize str (Lib.join (l.map prV) [44, 32]) = s0 at *
      go_wp2
      go_ret
      rw [HPR.out]
      exact ⟨rfl, trans_v bW HBL.out⟩
set_option maxRecDepth 100000 in
set_option maxHeartbeats 1000000 in
theorem rwr_row7 (i m : Int) (t : ByteArray) (l : List Vl) (a : Option Addr) (c : Nat) (w : World) (n B : Nat) (hC : RWrC n) (hBw : B ≤ w.heap.size) (hi : ItemsAt w B (n + 1) (.slice a l.length c) l) (hf : ∀ x ∈ l, formV x = true) (hz : ∀ x ∈ l, x.size ≤ 1000000000) (hll : l.length ≤ 1000000000) (hn : (Lib.join (l.map prV) [44, 32]).length ≤ 1000000000000) :
    Calls Tryz.prog 59 #[.agg (vcells ⟨7, i, m, t, l⟩ (.slice a l.length c))] w fun e w' => e = .returned (.string (str (prV ⟨7, i, m, t, l⟩))) ∧ Below w.heap.size w w' := by
  obtain ⟨W, hW⟩ : ∃ W, w.alloc (.cells (vcells ⟨7, i, m, t, l⟩ (.slice a l.length c)) 25) = W := ⟨_, rfl⟩
  have bW : Below w.heap.size w W := by rw [← hW]; exact alloc_v (Below.refl _ _) _
  have e1 : W.heap[w.heap.size]? = some (.cells (vcells ⟨7, i, m, t, l⟩ (.slice a l.length c)) 25 (0, 0)) := by rw [← hW]; exact World.alloc_heap_new w _
  have zW : w.heap.size < W.heap.size := (Array.getElem?_eq_some_iff.1 e1).1
  have x0 := cells_at e1 0 _ rfl
  have x1 := cells_at e1 1 _ rfl
  have x2 := cells_at e1 2 _ rfl
  have x3 := cells_at e1 3 _ rfl
  have x4 := cells_at e1 4 _ rfl
  have HB := hide (fun (U : World) (b : Below W.heap.size W U) => (b.block _ zW).trans e1)
  have HI := hide (hi.below (bW.mono hBw))
  have HJ := hide (fun q : Nat => Nat.le_trans (jn_le l q) hn)
  have HCC := hide hC
  have HF := hide hf
  have HZ := hide hz
  have HMEM := hide (fun (q : Nat) (h : q < l.length) => Nat.le_trans (join_mem [44, 32] (List.mem_map_of_mem (f := prV) (List.getElem_mem h))) hn)
  clear e1 hi hC hf hz
  go_enter Tryz.func59, Tryz.ntmps59
  go_wp2
  clear x0 x1 x2 x3 x4 hW
  go_loopw [4, 5] (fun s u wr => ∃ q : Nat, q ≤ l.length ∧ u = .int .i64 q ∧ s = .string (str (jn l q)) ∧ Below W.heap.size W wr) (fun _ u _ => l.length - (intOf u).toNat)
  case atStart => exact ⟨0, Nat.zero_le _, rfl, by rw [jn_zero]; rfl, Below.refl _ _⟩
  case round =>
    obtain ⟨q, hq, rfl, rfl, hbel⟩ := hrel
    have y4 := cells_at (HB.out wr hbel) 4 _ rfl
    have y0 := cells_at (HB.out wr hbel) 0 _ rfl
    by_cases hlt : q < l.length
    · obtain ⟨b1, o1, s1, rfl, g1, p0, p1, p2, p3, p4, p5, p6⟩ := (HI.out.below (hbel.mono (by have := bW.size; omega))).item q hlt
      have l1 : b1 < wr.heap.size := by have := hbel.size; have := bW.size; omega
      have HC := hide (HCC.out l[q] wr B s1 (HF.out _ (List.getElem_mem hlt)) p6 (HZ.out _ (List.getElem_mem hlt)) (HMEM.out q hlt) (by have := hbel.size; have := bW.size; omega) p5)
      have hj1 := HJ.out q
      have hm1 := HMEM.out q hlt
      obtain ⟨xx1, yy1, rfl, _⟩ := p5.len
      have HBL := hide hbel
      clear p5 p6 g1 hbel
      by_cases h0 : 0 < q
      · have hgt : ((q : Int) > 0) := by omega
        have c1 := fun U => cat (jn l q) [44, 32] (by simp; omega) U
        have d1 : ∀ U, (Op.stringOp .add (str (jn l q)) ⟨#[44, 32]⟩).run Tryz.prog U = .ok (.string (str (jn l q ++ [44, 32]))) U := c1
        have d2 := fun U => cat (jn l q ++ [44, 32]) (prV l[q]) (by simp; omega) U
        have HS := hide (jn_succ l q h0 hlt)
        clear c1 hj1 hm1
        generalize prV l[q] = pv at *
        generalize l[q].items = xi at *
        generalize l[q] = x at *
        rw [← HS.out] at d2
        clear HS
        go_wp2_with (go_at_call 59; refine HC.out.mono ?_; clear HC; rintro e w5 ⟨rfl, b5⟩)
        go_roundw
        case rel => exact ⟨q + 1, by omega, by go_num, rfl, trans_v HBL.out b5⟩
        case measure => simp [intOf]; omega
      · obtain rfl : q = 0 := by omega
        have d2 := fun U => cat (jn l 0) (prV l[0]) (by omega) U
        have HS := hide (show jn l 0 ++ prV l[0] = jn l 1 by rw [jn_zero, jn_one l hlt]; rfl)
        clear hj1 hm1
        generalize prV l[0] = pv at *
        generalize l[0].items = xi at *
        generalize l[0] = x at *
        rw [HS.out] at d2
        clear HS
        (try simp only [Nat.zero_mul, Nat.add_zero] at p0)
        (try simp only [Nat.zero_mul, Nat.add_zero] at p1)
        (try simp only [Nat.zero_mul, Nat.add_zero] at p2)
        (try simp only [Nat.zero_mul, Nat.add_zero] at p3)
        (try simp only [Nat.zero_mul, Nat.add_zero] at p4)
        go_wp2_with (go_at_call 59; refine HC.out.mono ?_; clear HC; rintro e w5 ⟨rfl, b5⟩)
        go_roundw
        case rel => exact ⟨1, by omega, rfl, rfl, trans_v HBL.out b5⟩
        case measure => simp [intOf]; omega
    · have hje := jn_all l (k := q) (by omega)
      rw [hje]
      have HBL := hide hbel
      clear hje HCC HF HZ HI HJ HMEM hbel
      have HPR := hide (show str (prV ⟨7, i, m, t, l⟩) = str ([123] ++ Lib.join (l.map prV) [44, 32] ++ [125]) by rw [pr_set]; rfl)
      have c1 := fun U => cat [123] (Lib.join (l.map prV) [44, 32]) (by simp; omega) U
      have c2 := fun U => cat ([123] ++ Lib.join (l.map prV) [44, 32]) [125] (by simp; omega) U
      have d1 : ∀ U, (Op.stringOp .add ⟨#[123]⟩ (str (Lib.join (l.map prV) [44, 32]))).run Tryz.prog U = .ok (.string (str ([123] ++ Lib.join (l.map prV) [44, 32]))) U := c1
      have d2 : ∀ U, (Op.stringOp .add (str ([123] ++ Lib.join (l.map prV) [44, 32])) ⟨#[125]⟩).run Tryz.prog U = .ok (.string (str ([123] ++ Lib.join (l.map prV) [44, 32] ++ [125]))) U := c2
      clear c1 c2
      generalize str ([123] ++ Lib.join (l.map prV) [44, 32] ++ [125]) = s2 at *
      generalize str ([123] ++ Lib.join (l.map prV) [44, 32]) = s1 at *
      generalize str (Lib.join (l.map prV) [44, 32]) = s0 at *
      go_wp2
      go_ret
      rw [HPR.out]
      exact ⟨rfl, trans_v bW HBL.out⟩
end Go.Proofs.YtmgmndhibcgpdaaGreatDoor
