/- Numerals: what is written of a number is read as that number. -/
import Derived.Test.YthpkjehoogodkaaDoorGQuote
import Derived.Test.YthpkjehoogodkaaDoorZTRefRune
namespace Go.Proofs.YthpkjehoogodkaaDoor
open Go.RowKit

theorem ru_ascii : ∀ l : List UInt8, (∀ b ∈ l, b.toNat < 128) → ru l = l.map fun b => ((b.toNat : Int), 1)
  | [], _ => rfl
  | b :: t, h => by
    have hb := rv_ascii b t (h b (by simp))
    rw [ru_step _ (by simp), hb.1, hb.2, List.drop_one, List.tail_cons, ru_ascii t (fun c hc => h c (by simp [hc])), List.map_cons]

def isDig (b : UInt8) : Prop := 48 ≤ b.toNat ∧ b.toNat ≤ 57
/-- The number of a row of digits, others ahead of it. -/
def vd (a : Nat) (l : List UInt8) : Nat := l.foldl (fun n b => 10 * n + (b.toNat - 48)) a
theorem dig_of (d : Nat) (h : d < 10) : (UInt8.ofNat (48 + d)).toNat = 48 + d := by
  rw [UInt8.toNat_ofNat']
  omega
theorem dd_dig (u : Nat) : ∀ b ∈ Lib.decDigits u, isDig b := by
  induction u using Nat.strongRecOn with
  | _ u ih =>
    intro b hb
    by_cases h : u < 10
    · rw [Lib.decDigits_one h] at hb
      have e : b = UInt8.ofNat (48 + u) := by simpa using hb
      rw [e]
      unfold isDig
      rw [dig_of u h]
      omega
    · rw [Lib.decDigits, dif_neg h] at hb
      rcases List.mem_append.1 hb with hb | hb
      · exact ih _ (by omega) b hb
      · have e : b = UInt8.ofNat (48 + u % 10) := by simpa using hb
        rw [e]
        unfold isDig
        rw [dig_of _ (by omega)]
        omega
theorem dd_val (u : Nat) : vd 0 (Lib.decDigits u) = u := by
  induction u using Nat.strongRecOn with
  | _ u ih =>
    by_cases h : u < 10
    · rw [Lib.decDigits_one h]
      unfold vd
      simp only [List.foldl_cons, List.foldl_nil]
      rw [dig_of u h]
      omega
    · rw [Lib.decDigits, dif_neg h]
      have := ih (u / 10) (by omega)
      unfold vd at this ⊢
      rw [List.foldl_append, this]
      simp only [List.foldl_cons, List.foldl_nil]
      rw [dig_of _ (by omega)]
      omega
theorem dd_ne (u : Nat) : Lib.decDigits u ≠ [] := by
  by_cases h : u < 10
  · rw [Lib.decDigits_one h]; simp
  · rw [Lib.decDigits, dif_neg h]; simp
theorem dec_len : ∀ (k u : Nat), u < 10 ^ (k + 1) → (Lib.decDigits u).length ≤ k + 1
  | 0, u, h => by rw [Lib.decDigits_one (by simpa using h)]; simp
  | k + 1, u, h => by
    by_cases h1 : u < 10
    · rw [Lib.decDigits_one h1]; simp
    · rw [Lib.decDigits, dif_neg h1, List.length_append]
      have := dec_len k (u / 10) (by rw [Nat.pow_succ] at h; omega)
      simp
      omega
theorem wv_step (a d : Nat) (_ : d < 10) : wstep (wrap64 (a : Int)) ((48 + d : Nat) : Int) = wrap64 ((10 * a + d : Nat) : Int) := by
  unfold wstep wrap64
  omega
theorem vd_cons (a : Nat) (b : UInt8) (t : List UInt8) : vd a (b :: t) = vd (10 * a + (b.toNat - 48)) t := by
  unfold vd
  rw [List.foldl_cons]
theorem fold_gen (F : Nat → Int) (g : Int → Int → Int) (hg : ∀ a d : Nat, d < 10 → g (F a) ((48 + d : Nat) : Int) = F (10 * a + d)) (l : List UInt8) : ∀ (_ : ∀ b ∈ l, isDig b) (a : Nat), l.foldl (fun n b => g n (b.toNat : Int)) (F a) = F (vd a l) := by
  induction l with
  | nil =>
    intro _ a
    rw [List.foldl_nil]
    unfold vd
    rw [List.foldl_nil]
  | cons b t ihh =>
    intro h a
    obtain ⟨h1, h2⟩ := h b (by simp)
    have ih := ihh (fun c hc => h c (by simp [hc])) (10 * a + (b.toNat - 48))
    have hs := hg a (b.toNat - 48) (by omega)
    have e : 48 + (b.toNat - 48) = b.toNat := by omega
    rw [e] at hs
    rw [List.foldl_cons, hs, ih, vd_cons]
theorem raw_nat (n : Nat) : raw (n : Int) = (n : Int) := by
  unfold raw
  rw [if_neg (by omega)]
theorem wrap_zero : wrap64 ((0 : Nat) : Int) = 0 := by
  unfold wrap64
  omega
theorem wv_digits (l : List UInt8) (h : ∀ b ∈ l, isDig b) : wv l = wrap64 (vd 0 l : Nat) := by
  have h0 := fold_gen (fun a => wrap64 (a : Int)) wstep wv_step l h 0
  rw [wrap_zero] at h0
  unfold wv
  rw [ru_ascii l (fun b hb => by have := h b hb; unfold isDig at this; omega), List.foldl_map]
  simp only [raw_nat]
  exact h0
theorem pre45 (l : List UInt8) : Lib.hasPrefix l [45] = true ↔ 0 < l.length ∧ l.getD 0 0 = 45 := by
  unfold Lib.hasPrefix
  match l with
  | [] => simp
  | a :: t => simp [List.isPrefixOf]; exact ⟨fun h => h.symm, fun h => h.symm⟩
def nOff (l : List UInt8) : Nat := if 0 < l.length ∧ l.getD 0 0 = 45 then 1 else 0
/-- The number that the document reads of a text. -/
def docV (l : List UInt8) : Int := if nOff l = 1 then wrap64 (-(wrap64 (vd 0 (l.drop (nOff l)) : Nat))) else wrap64 (vd 0 (l.drop (nOff l)) : Nat)
/-- What is written of a number. -/
theorem itoa_shape (m : Int) (h0 : -9223372036854775808 ≤ m) (h1 : m ≤ 9223372036854775807) :
    (Lib.itoa m).length ≠ nOff (Lib.itoa m) ∧ (Lib.itoa m).length ≤ nOff (Lib.itoa m) + 19 ∧ (∀ b ∈ (Lib.itoa m).drop (nOff (Lib.itoa m)), isDig b) ∧ docV (Lib.itoa m) = m ∧ wrapd (Lib.itoa m) = m := by
  have hl := dec_len 18 m.natAbs (by omega)
  have hne := List.length_pos_iff.2 (dd_ne m.natAbs)
  have hv := dd_val m.natAbs
  have hd := dd_dig m.natAbs
  by_cases hm : m < 0
  · have e : Lib.itoa m = 45 :: Lib.decDigits m.natAbs := by unfold Lib.itoa; rw [if_pos hm]
    have ho : nOff (Lib.itoa m) = 1 := by unfold nOff; rw [e, if_pos ⟨by simp, by simp⟩]
    have hp : Lib.hasPrefix (Lib.itoa m) [45] = true := (pre45 _).2 (by rw [e]; exact ⟨by simp, by simp⟩)
    have hw : wrapd (Lib.itoa m) = wrap64 (-(wrap64 (vd 0 (Lib.decDigits m.natAbs) : Nat))) := by
      unfold wrapd
      rw [if_pos hp]
      have ht : Lib.trimPrefix (Lib.itoa m) [45] = Lib.decDigits m.natAbs := by
        unfold Lib.trimPrefix
        rw [hp, e]
        rfl
      rw [ht, wv_digits _ hd]
    have hval : wrap64 (-(wrap64 ((m.natAbs : Nat) : Int))) = m := by
      unfold wrap64
      omega
    refine ⟨?_, ?_, ?_, ?_, ?_⟩
    · rw [ho, e, List.length_cons]; omega
    · rw [ho, e, List.length_cons]; omega
    · rw [ho, e]; exact hd
    · unfold docV
      rw [if_pos ho, ho, e, List.drop_one, List.tail_cons, hv, hval]
    · rw [hw, hv, hval]
  · have hN : m.toNat = m.natAbs := by omega
    have e : Lib.itoa m = Lib.decDigits m.natAbs := by unfold Lib.itoa; rw [if_neg hm, hN]
    have h45 : ¬ (0 < (Lib.itoa m).length ∧ (Lib.itoa m).getD 0 0 = 45) := by
      rw [e]
      rintro ⟨a, b⟩
      match hh : Lib.decDigits m.natAbs, b with
      | [], _ => rw [hh] at a; simp at a
      | c :: t, b =>
        have hc : c = 45 := by simpa using b
        have := hd c (by rw [hh]; simp)
        unfold isDig at this
        rw [hc] at this
        exact absurd this.1 (by decide)
    have ho : nOff (Lib.itoa m) = 0 := by unfold nOff; rw [if_neg h45]
    have hp : Lib.hasPrefix (Lib.itoa m) [45] = false := by
      cases hh : Lib.hasPrefix (Lib.itoa m) [45] with
      | false => rfl
      | true => exact absurd ((pre45 _).1 hh) h45
    have hw : wrapd (Lib.itoa m) = wrap64 (vd 0 (Lib.decDigits m.natAbs) : Nat) := by
      unfold wrapd
      rw [if_neg (by rw [hp]; decide)]
      have ht : Lib.trimPrefix (Lib.itoa m) [45] = Lib.decDigits m.natAbs := by
        unfold Lib.trimPrefix
        rw [hp, e]
        rfl
      rw [ht, wv_digits _ hd]
    have hval : wrap64 ((m.natAbs : Nat) : Int) = m := by
      unfold wrap64
      omega
    refine ⟨?_, ?_, ?_, ?_, ?_⟩
    · rw [ho, e]; omega
    · rw [ho, e]; omega
    · rw [ho, e]; exact hd
    · unfold docV
      rw [if_neg (by rw [ho]; decide), ho, e, List.drop_zero, hv, hval]
    · rw [hw, hv, hval]
theorem vd_snoc (a : Nat) (l : List UInt8) (b : UInt8) : vd a (l ++ [b]) = 10 * vd a l + (b.toNat - 48) := by simp [vd]
theorem vd_lt : ∀ (k : Nat) (l : List UInt8), l.length = k → (∀ b ∈ l, isDig b) → vd 0 l < 10 ^ k := by
  intro k
  induction k with
  | zero =>
    intro l hl _
    have : l = [] := List.eq_nil_of_length_eq_zero hl
    subst this
    decide
  | succ k ih =>
    intro l hl hd
    have hne : l ≠ [] := fun e => by rw [e] at hl; simp at hl
    rw [← List.dropLast_concat_getLast hne, vd_snoc]
    have h1 := ih l.dropLast (by rw [List.length_dropLast]; omega) (fun b hb => hd b (List.dropLast_subset l hb))
    have h2 := hd _ (List.getLast_mem hne)
    unfold isDig at h2
    rw [Nat.pow_succ]
    omega
/-- What the document answers of a text is what Number does. -/
theorem num_doc (l : List UInt8) : (Lib.itoa (docV l) = l → numV l = docV l ∧ numE l = 0) ∧ (Lib.itoa (docV l) ≠ l → numV l = 0 ∧ numE l = 22) := by
  have hr : -9223372036854775808 ≤ docV l ∧ docV l ≤ 9223372036854775807 := by
    unfold docV
    split
    · exact ⟨wrap_lo _, wrap_hi _⟩
    · exact ⟨wrap_lo _, wrap_hi _⟩
  refine ⟨fun h => ?_, fun h => ?_⟩
  · have h5 := (itoa_shape (docV l) hr.1 hr.2).2.2.2.2
    rw [h] at h5
    unfold numV numE
    rw [h5, if_pos h, if_pos h]
    exact ⟨rfl, rfl⟩
  · have hw := wrapd_range l
    have hn : Lib.itoa (wrapd l) ≠ l := by
      intro e
      have h4 := (itoa_shape (wrapd l) hw.1 hw.2).2.2.2.1
      rw [e] at h4
      rw [h4] at h
      exact h e
    unfold numV numE
    rw [if_neg hn, if_neg hn]
    exact ⟨rfl, rfl⟩
/-- A text that is not of a numeral's shape is none. -/
theorem num_not (l : List UInt8) (h : l.length = nOff l ∨ nOff l + 19 < l.length ∨ ∃ b ∈ l.drop (nOff l), ¬ isDig b) : numV l = 0 ∧ numE l = 22 := by
  have hw := wrapd_range l
  have hn : Lib.itoa (wrapd l) ≠ l := by
    intro e
    obtain ⟨h1, h2, h3, -, -⟩ := itoa_shape (wrapd l) hw.1 hw.2
    rw [e] at h1 h2 h3
    rcases h with h | h | ⟨b, hb, hnb⟩
    · exact h1 h
    · omega
    · exact hnb (h3 b hb)
  unfold numV numE
  rw [if_neg hn, if_neg hn]
  exact ⟨rfl, rfl⟩
end Go.Proofs.YthpkjehoogodkaaDoor

/- The document's numerals. -/
namespace Go.Proofs.YthpkjehoogodkaaDoor
open Go.RowKit

set_option maxRecDepth 100000 in
set_option maxHeartbeats 1000000 in
theorem refDigits_k : ∀ (n : Nat) (_ : n < 18446744073709551616) (w : World),
    Calls Tryd.prog 49 #[.int .u64 (n : Int)] w fun e w' => e = .returned (.string (str (Lib.decDigits n))) ∧ Below w.heap.size w w' := by
  intro n
  induction n using Nat.strongRecOn with
  | _ n ih =>
    intro hn w
    by_cases h : n < 10
    · have e : str (Lib.decDigits n) = ⟨#[UInt8.ofNat (48 + n)]⟩ := by rw [Lib.decDigits_one h]; rfl
      have hcv : (convert 64 9 (.slice (some ⟨w.heap.size, 0, none⟩) 1 1)).run Tryd.prog (w.alloc (.cells #[.int .u8 (48 + (n : Int))] 5)) = .ok (.string ⟨#[UInt8.ofNat (48 + n)]⟩) (w.alloc (.cells #[.int .u8 (48 + (n : Int))] 5)) := by
        refine run_convert_bytes_back _ 64 9 5 ⟨w.heap.size, 0, none⟩ 1 [UInt8.ofNat (48 + n)] Tryd.underlying64 Tryd.underlying5 Tryd.underlying9 ?_
        intro j hj
        have hj0 : j = 0 := by simpa using hj
        subst hj0
        simp only [List.getElem_cons_zero]
        rw [dig_of n h]
        simp [Addr.add]
      rw [e]
      clear ih e
      generalize UInt8.ofNat (48 + n) = b at *
      go_enter Tryd.func49, Tryd.ntmps49
      go_wp2
      go_ret
      exact ⟨rfl, (Below.refl _ w).alloc (Nat.le_refl _) _⟩
    · have h1 := ih (n / 10) (by omega) (by omega)
      have h2 := ih (n % 10) (by omega) (by omega)
      have e : Lib.decDigits n = Lib.decDigits (n / 10) ++ Lib.decDigits (n % 10) := by
        conv => lhs; rw [Lib.decDigits, dif_neg h]
        rw [Lib.decDigits_one (by omega : n % 10 < 10)]
      have ec : str (Lib.decDigits (n / 10)) ++ str (Lib.decDigits (n % 10)) = str (Lib.decDigits n) := by
        rw [e, cat_str, bytes_str]
      have hl : (Lib.decDigits n).length ≤ 20 := dec_len 19 n (by omega)
      have hl2 : (str (Lib.decDigits (n / 10))).size + (str (Lib.decDigits (n % 10))).size ≤ 20 := by
        rw [str_size, str_size, ← List.length_append, ← e]
        exact hl
      obtain ⟨q, hq⟩ : ∃ q : Nat, n / 10 = q := ⟨_, rfl⟩
      obtain ⟨r, hr⟩ : ∃ r : Nat, n % 10 = r := ⟨_, rfl⟩
      rw [hq] at h1 ec hl2
      rw [hr] at h2 ec hl2
      have hqi : ((n : Int) / 10) = (q : Int) := by omega
      have hri : ((n : Int) % 10) = (r : Int) := by omega
      have htd : Int.tdiv (n : Int) 10 = (q : Int) := by rw [Int.tdiv_eq_ediv_of_nonneg (by omega)]; exact hqi
      have htm : Int.tmod (n : Int) 10 = (r : Int) := by rw [Int.tmod_eq_emod_of_nonneg (by omega)]; exact hri
      clear ih e hl
      generalize str (Lib.decDigits q) = SA at *
      generalize str (Lib.decDigits r) = SB at *
      generalize str (Lib.decDigits n) = SC at *
      have hq10 : q < 18446744073709551616 := by omega
      have hr10 : r < 10 := by omega
      clear hq hr
      go_enter Tryd.func49, Tryd.ntmps49
      go_wp2_with (first
        | (go_at_call 49; refine (h1 _).mono ?_; clear h1; rintro e w1 ⟨rfl, b1⟩)
        | (go_at_call 49; refine (h2 _).mono ?_; clear h2; rintro e w2 ⟨rfl, b2⟩))
      go_ret
      exact ⟨rfl, b1.trans (b2.mono b1.size)⟩

set_option maxRecDepth 100000 in
set_option maxHeartbeats 1000000 in
theorem refDecimal_k (n : Int) (h0 : -9223372036854775808 ≤ n) (h1 : n ≤ 9223372036854775807) (w : World) :
    Calls Tryd.prog 24 #[.int .i64 n] w fun e w' => e = .returned (.string (str (Lib.itoa n))) ∧ Below w.heap.size w w' := by
  by_cases hn : n < 0
  · have hd := refDigits_k n.natAbs (by omega)
    have e : Lib.itoa n = 45 :: Lib.decDigits n.natAbs := by unfold Lib.itoa; rw [if_pos hn]
    have ec : (⟨#[45]⟩ : ByteArray) ++ str (Lib.decDigits n.natAbs) = str (Lib.itoa n) := by
      rw [e, cat_str]
      rfl
    have hl : (str (Lib.decDigits n.natAbs)).size ≤ 20 := by rw [str_size]; exact dec_len 19 _ (by omega)
    have hN : ((n.natAbs : Nat) : Int) = -(n + 1) + 1 := by omega
    rw [hN] at hd
    clear e hN
    generalize str (Lib.decDigits n.natAbs) = SA at *
    generalize str (Lib.itoa n) = SC at *
    go_enter Tryd.func24, Tryd.ntmps24
    go_wp2_with (go_at_call 49; refine (hd _).mono ?_; rintro e w1 ⟨rfl, b1⟩)
    go_ret
    exact ⟨rfl, b1⟩
  · have hd := refDigits_k n.toNat (by omega)
    have e : Lib.itoa n = Lib.decDigits n.toNat := by unfold Lib.itoa; rw [if_neg hn]
    have hN : ((n.toNat : Nat) : Int) = n := by omega
    rw [hN] at hd
    rw [e]
    generalize str (Lib.decDigits n.toNat) = SA at *
    clear hN e
    go_enter Tryd.func24, Tryd.ntmps24
    go_wp2_with (go_at_call 49; refine (hd _).mono ?_; rintro e w1 ⟨rfl, b1⟩)
    go_ret
    exact ⟨rfl, b1⟩

/-- What is told of the byte at a place of a text of digits. -/
theorem drop_take (l : List UInt8) (i k : Nat) (hi : i ≤ k) (hk : k < l.length) : (l.drop i).take (k + 1 - i) = (l.drop i).take (k - i) ++ [l.getD k 0] := (take_more l i k hi hk).symm
theorem mem_drop_take {l : List UInt8} {i k : Nat} {b : UInt8} (h : b ∈ (l.drop i).take k) : b ∈ l.drop i := List.mem_of_mem_take h
theorem getD_mem_drop (l : List UInt8) (i k : Nat) (hi : i ≤ k) (hk : k < l.length) : l.getD k 0 ∈ l.drop i := by
  have e : (l.drop i)[k - i]? = some (l.getD k 0) := by
    rw [List.getElem?_drop, List.getD_eq_getElem?_getD]
    have e2 : i + (k - i) = k := by omega
    rw [e2, List.getElem?_eq_getElem hk]
    rfl
  exact List.mem_of_getElem? e

set_option maxRecDepth 100000 in
set_option maxHeartbeats 4000000 in
theorem refNumber_k (s : ByteArray) (hs : s.size ≤ 281474976702464) (w : World) :
    Calls Tryd.prog 45 #[.string s] w fun e w' => e = .returned (.tuple #[.int .i64 (numV s.data.toList), .int .i64 (numE s.data.toList)]) ∧ Below w.heap.size w w' := by
  have hlen : s.data.toList.length = s.size := by rw [Array.length_toList]; rfl
  have hdoc := num_doc s.data.toList
  have hnot := num_not s.data.toList
  obtain ⟨V, hV⟩ : ∃ V, numV s.data.toList = V := ⟨_, rfl⟩
  obtain ⟨E, hE⟩ : ∃ E, numE s.data.toList = E := ⟨_, rfl⟩
  rw [hV, hE] at hdoc hnot ⊢
  clear hV hE
  have hoff : nOff s.data.toList = 0 ∨ nOff s.data.toList = 1 := by
    unfold nOff
    split
    · exact .inr rfl
    · exact .inl rfl
  rcases hoff with hoff | hoff
  · have hd0 : nOff s.data.toList = 0 := hoff
    rw [hd0] at hnot
    have hdv : docV s.data.toList = wrap64 (vd 0 (s.data.toList.drop 0) : Nat) := by unfold docV; rw [if_neg (by rw [hd0]; decide), hd0]
    by_cases hz : s.size = 0
    · obtain ⟨rfl, rfl⟩ := hnot (.inl (by omega))
      clear hdoc hnot hdv
      have hs0 : s = ⟨#[]⟩ := by
        rw [← str_bytes s, List.eq_nil_of_length_eq_zero (hlen.trans hz)]
        rfl
      subst hs0
      go_enter Tryd.func45, Tryd.ntmps45
      go_wp2
      go_ret2
      exact ⟨rfl, Below.refl _ _⟩
    have hp : 0 < s.size := by omega
    have hby := bt_get s 0 hp
    have hn45 : ((bt s 0 : Int) == 45) = false := by
      refine beq_eq_false_iff_ne.2 fun h => ?_
      unfold nOff at hd0
      rw [if_pos ⟨by omega, UInt8.toNat_inj.1 (by unfold bt at h; have : (s.data.toList.getD 0 0).toNat = 45 := by omega
                                                  rw [this]; rfl)⟩] at hd0
      omega
    have hz' : ((s.size : Int) == 0) = false := beq_eq_false_iff_ne.2 (by omega)
    generalize bt s 0 = b0 at *
    by_cases hbig : 19 < s.size
    · obtain ⟨rfl, rfl⟩ := hnot (.inr (.inl (by omega)))
      clear hdoc hnot hdv
      go_enter Tryd.func45, Tryd.ntmps45
      go_wp2
      go_ret2
      exact ⟨rfl, Below.refl _ _⟩
    have HDOC := hide hdoc
    have HNOT := hide hnot
    have HDV := hide hdv
    clear hdoc hnot hdv hd0
    go_enter Tryd.func45, Tryd.ntmps45
    go_wp2
    go_loopw [5, 6] (fun v vk wr => ∃ k n : Nat, v = .int .u64 (n : Int) ∧ vk = .int .i64 (k : Int) ∧ 0 ≤ k ∧ k ≤ s.size ∧ n = vd 0 ((s.data.toList.drop 0).take (k - 0)) ∧ Hid (∀ b ∈ (s.data.toList.drop 0).take (k - 0), isDig b) ∧ wr = w) (fun _ v _ => s.size - (Lib.intOf v).toNat)
    case atStart => exact ⟨0, 0, rfl, rfl, Nat.le_refl _, by omega, rfl, by intro b hb; simp at hb, rfl⟩
    case round =>
      obtain ⟨k, n, rfl, rfl, hk1, hk2, hn, HG, rfl⟩ := hrel
      have hnlt := vd_lt _ _ rfl HG.out
      rw [← hn, List.length_take, List.length_drop, hlen] at hnlt
      have HN := hide hn
      clear hn
      by_cases hlt : k < s.size
      · have hn18 : n < 1000000000000000000 := by
          refine Nat.lt_of_lt_of_le hnlt ?_
          exact Nat.pow_le_pow_right (j := 18) (by decide) (by omega)
        have hbk := bt_get s k hlt
        have hmem := getD_mem_drop s.data.toList 0 k hk1 (by omega)
        have hbd : (s.data.toList.getD k 0).toNat = bt s k := rfl
        have hb256 := bt_lt s k
        clear hnlt
        by_cases h48 : bt s k < 48
        · obtain ⟨rfl, rfl⟩ := HNOT.out (.inr (.inr ⟨_, hmem, fun h => by unfold isDig at h; omega⟩))
          clear hmem hbd
          generalize bt s k = bk at *
          go_wp2
          go_ret2
          exact ⟨rfl, Below.refl _ _⟩
        · by_cases h57 : 57 < bt s k
          · obtain ⟨rfl, rfl⟩ := HNOT.out (.inr (.inr ⟨_, hmem, fun h => by unfold isDig at h; omega⟩))
            clear hmem hbd
            generalize bt s k = bk at *
            go_wp2
            go_ret2
            exact ⟨rfl, Below.refl _ _⟩
          · have hdt := drop_take s.data.toList 0 k hk1 (by omega)
            have HDT := hide hdt
            have HBD := hide hbd
            clear hdt hmem hbd
            obtain ⟨bk, hbke⟩ : ∃ bk, bt s k = bk := ⟨_, rfl⟩
            rw [hbke] at hbk h48 h57 hb256 HBD
            clear hbke
            have hbk1 : 48 ≤ bk := by omega
            have hbk2 : bk ≤ 57 := by omega
            clear h48 h57
            go_wp2
            go_roundw
            case rel =>
              refine ⟨k + 1, 10 * n + (bk - 48), ?_, by simp, by omega, by omega, ?_, ?_, trivial⟩
              · congr 1
                omega
              · rw [HDT.out, vd_snoc, ← HN.out, HBD.out]
              · intro b hb
                rw [HDT.out] at hb
                rcases List.mem_append.1 hb with hb | hb
                · exact HG.out b hb
                · have e : b = s.data.toList.getD k 0 := by simpa using hb
                  rw [e]
                  unfold isDig
                  rw [HBD.out]
                  exact ⟨hbk1, hbk2⟩
            case measure =>
              simp [Lib.intOf]
              omega
      · have hke : k = s.size := by omega
        have hn := HN.out
        rw [hke, List.take_of_length_le (by rw [List.length_drop, hlen]; exact Nat.le_refl _)] at hn
        have hv := HDV.out
        rw [← hn] at hv
        obtain ⟨hd1, hd2⟩ := HDOC.out
        rw [hv] at hd1 hd2
        have hn64 : n < 18446744073709551616 := by
          refine Nat.lt_of_lt_of_le hnlt (Nat.le_trans (Nat.pow_le_pow_right (j := 19) (by decide) (by omega)) (by decide))
        clear hn hv HN HDV HDOC HNOT HG hnlt
        have hdk := refDecimal_k (wrap64 (n : Int)) (wrap_lo _) (wrap_hi _) wr
        by_cases he : Lib.itoa (wrap64 (n : Int)) = s.data.toList
        · obtain ⟨rfl, rfl⟩ := hd1 he
          rw [he, str_bytes] at hdk
          have hss : (s.toList == s.toList) = true := by simp
          clear hd1 hd2 he
          go_wp2_with (go_at_call 24; refine hdk.mono ?_; rintro e w1 ⟨rfl, b1⟩)
          go_ret2
          exact ⟨rfl, b1⟩
        · obtain ⟨rfl, rfl⟩ := hd2 he
          have hst : ((str (Lib.itoa (wrap64 (n : Int)))).toList == s.toList) = false := by
            rw [Lib.toList_data, Lib.toList_data, bytes_str]
            simpa using he
          generalize str (Lib.itoa (wrap64 (n : Int))) = sx at *
          clear hd1 hd2 he
          go_wp2_with (go_at_call 24; refine hdk.mono ?_; rintro e w1 ⟨rfl, b1⟩)
          go_ret2
          exact ⟨rfl, b1⟩
  · have hd0 : nOff s.data.toList = 1 := hoff
    rw [hd0] at hnot
    have hdv : docV s.data.toList = wrap64 (-(wrap64 (vd 0 (s.data.toList.drop 1) : Nat))) := by unfold docV; rw [if_pos hd0, hd0]
    have h45 : 0 < s.data.toList.length ∧ s.data.toList.getD 0 0 = 45 := by
      unfold nOff at hd0
      split at hd0
      · assumption
      · omega
    have hp : 0 < s.size := by omega
    have hby := bt_get s 0 hp
    have hb45 : bt s 0 = 45 := by unfold bt; rw [h45.2]; rfl
    rw [hb45] at hby
    clear h45 hb45
    by_cases hz : s.size = 1
    · obtain ⟨rfl, rfl⟩ := hnot (.inl (by omega))
      clear hdoc hnot hdv
      have hz' : (s.size : Int) = 1 := by omega
      go_enter Tryd.func45, Tryd.ntmps45
      go_wp2
      go_ret2
      exact ⟨rfl, Below.refl _ _⟩
    have hz' : ((s.size : Int) == 1) = false := beq_eq_false_iff_ne.2 (by omega)
    generalize bt s 0 = b0 at *
    by_cases hbig : 20 < s.size
    · obtain ⟨rfl, rfl⟩ := hnot (.inr (.inl (by omega)))
      clear hdoc hnot hdv
      go_enter Tryd.func45, Tryd.ntmps45
      go_wp2
      go_ret2
      exact ⟨rfl, Below.refl _ _⟩
    have HDOC := hide hdoc
    have HNOT := hide hnot
    have HDV := hide hdv
    clear hdoc hnot hdv hd0
    go_enter Tryd.func45, Tryd.ntmps45
    go_wp2
    go_loopw [5, 6] (fun v vk wr => ∃ k n : Nat, v = .int .u64 (n : Int) ∧ vk = .int .i64 (k : Int) ∧ 1 ≤ k ∧ k ≤ s.size ∧ n = vd 0 ((s.data.toList.drop 1).take (k - 1)) ∧ Hid (∀ b ∈ (s.data.toList.drop 1).take (k - 1), isDig b) ∧ wr = w) (fun _ v _ => s.size - (Lib.intOf v).toNat)
    case atStart => exact ⟨1, 0, rfl, rfl, Nat.le_refl _, by omega, rfl, by intro b hb; simp at hb, rfl⟩
    case round =>
      obtain ⟨k, n, rfl, rfl, hk1, hk2, hn, HG, rfl⟩ := hrel
      have hnlt := vd_lt _ _ rfl HG.out
      rw [← hn, List.length_take, List.length_drop, hlen] at hnlt
      have HN := hide hn
      clear hn
      by_cases hlt : k < s.size
      · have hn18 : n < 1000000000000000000 := by
          refine Nat.lt_of_lt_of_le hnlt ?_
          exact Nat.pow_le_pow_right (j := 18) (by decide) (by omega)
        have hbk := bt_get s k hlt
        have hmem := getD_mem_drop s.data.toList 1 k hk1 (by omega)
        have hbd : (s.data.toList.getD k 0).toNat = bt s k := rfl
        have hb256 := bt_lt s k
        clear hnlt
        by_cases h48 : bt s k < 48
        · obtain ⟨rfl, rfl⟩ := HNOT.out (.inr (.inr ⟨_, hmem, fun h => by unfold isDig at h; omega⟩))
          clear hmem hbd
          generalize bt s k = bk at *
          go_wp2
          go_ret2
          exact ⟨rfl, Below.refl _ _⟩
        · by_cases h57 : 57 < bt s k
          · obtain ⟨rfl, rfl⟩ := HNOT.out (.inr (.inr ⟨_, hmem, fun h => by unfold isDig at h; omega⟩))
            clear hmem hbd
            generalize bt s k = bk at *
            go_wp2
            go_ret2
            exact ⟨rfl, Below.refl _ _⟩
          · have hdt := drop_take s.data.toList 1 k hk1 (by omega)
            have HDT := hide hdt
            have HBD := hide hbd
            clear hdt hmem hbd
            obtain ⟨bk, hbke⟩ : ∃ bk, bt s k = bk := ⟨_, rfl⟩
            rw [hbke] at hbk h48 h57 hb256 HBD
            clear hbke
            have hbk1 : 48 ≤ bk := by omega
            have hbk2 : bk ≤ 57 := by omega
            clear h48 h57
            go_wp2
            go_roundw
            case rel =>
              refine ⟨k + 1, 10 * n + (bk - 48), ?_, by simp, by omega, by omega, ?_, ?_, trivial⟩
              · congr 1
                omega
              · rw [HDT.out, vd_snoc, ← HN.out, HBD.out]
              · intro b hb
                rw [HDT.out] at hb
                rcases List.mem_append.1 hb with hb | hb
                · exact HG.out b hb
                · have e : b = s.data.toList.getD k 0 := by simpa using hb
                  rw [e]
                  unfold isDig
                  rw [HBD.out]
                  exact ⟨hbk1, hbk2⟩
            case measure =>
              simp [Lib.intOf]
              omega
      · have hke : k = s.size := by omega
        have hn := HN.out
        rw [hke, List.take_of_length_le (by rw [List.length_drop, hlen]; exact Nat.le_refl _)] at hn
        have hv := HDV.out
        rw [← hn] at hv
        obtain ⟨hd1, hd2⟩ := HDOC.out
        rw [hv] at hd1 hd2
        have hn64 : n < 18446744073709551616 := by
          refine Nat.lt_of_lt_of_le hnlt (Nat.le_trans (Nat.pow_le_pow_right (j := 19) (by decide) (by omega)) (by decide))
        clear hn hv HN HDV HDOC HNOT HG hnlt
        have hdk := refDecimal_k (wrap64 (-(wrap64 (n : Int)))) (wrap_lo _) (wrap_hi _) wr
        by_cases he : Lib.itoa (wrap64 (-(wrap64 (n : Int)))) = s.data.toList
        · obtain ⟨rfl, rfl⟩ := hd1 he
          rw [he, str_bytes] at hdk
          have hss : (s.toList == s.toList) = true := by simp
          clear hd1 hd2 he
          go_wp2_with (go_at_call 24; refine hdk.mono ?_; rintro e w1 ⟨rfl, b1⟩)
          go_ret2
          exact ⟨rfl, b1⟩
        · obtain ⟨rfl, rfl⟩ := hd2 he
          have hst : ((str (Lib.itoa (wrap64 (-(wrap64 (n : Int)))))).toList == s.toList) = false := by
            rw [Lib.toList_data, Lib.toList_data, bytes_str]
            simpa using he
          generalize str (Lib.itoa (wrap64 (-(wrap64 (n : Int))))) = sx at *
          clear hd1 hd2 he
          go_wp2_with (go_at_call 24; refine hdk.mono ?_; rintro e w1 ⟨rfl, b1⟩)
          go_ret2
          exact ⟨rfl, b1⟩
end Go.Proofs.YthpkjehoogodkaaDoor
