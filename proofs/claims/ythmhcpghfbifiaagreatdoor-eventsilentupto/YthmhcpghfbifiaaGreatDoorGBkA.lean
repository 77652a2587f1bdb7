/- Encode and Print of a value, where only a right value's bytes and text are bounded; how long these are. -/
import Derived.Test.YthmhcpghfbifiaaGreatDoorGE2
import Derived.Test.YthmhcpghfbifiaaGreatDoorGQuote
import Derived.Test.YthmhcpghfbifiaaGreatDoorGGvA
import Derived.Test.YthmhcpghfbifiaaGreatDoorGParA
import Derived.Test.YthmhcpghfbifiaaGreatDoorGE1
import Derived.Test.YthmhcpghfbifiaaGreatDoorGSets
namespace Go.Proofs.YthmhcpghfbifiaaGreatDoor
open Go.RowKit
open Go.Lib (uvarint uvarint_pos uvarint_length64)

theorem right_size {v : Vl} (h : rightV v = true) : v.size ≤ 4096 := by
  have := right_doc v
  rw [h, Bool.and_eq_true, decide_eq_true_eq] at this
  have h2 := ((cnt_is 16 v 0).1.1 this.1).1
  omega
theorem zz_len {i : Int} (h0 : -9223372036854775808 ≤ i) (h1 : i ≤ 9223372036854775807) : (uvarint (zz i)).length ≤ 10 := uvarint_length64 (by have := zz_lt i h0 h1; omega)
theorem flat_sum {l : List Vl} {f : Vl → List UInt8} {c : Nat} (h : ∀ x ∈ l, (f x).length ≤ x.size * c) : ((l.map f).flatten).length ≤ (l.map Vl.size).sum * c := by
  induction l with
  | nil => simp
  | cons x l ih =>
    have h1 := h x (by simp)
    have h2 := ih fun y hy => h y (by simp [hy])
    simp only [List.map_cons, List.flatten_cons, List.length_append, List.sum_cons, Nat.add_mul]
    omega
set_option maxRecDepth 100000 in
theorem enc_len : ∀ (n : Nat) (v : Vl) (w : World) (B : Nat) (sl : Value), ItemsAt w B n sl v.items → v.ok → (encV v).length ≤ v.size * 1048700
  | 0, _, _, _, _, h, _ => h.elim
  | n + 1, v, w, B, sl, h, hok => by
    obtain ⟨a, c, rfl, hla⟩ := h.len
    have hit : ∀ x ∈ v.items, (encV x).length ≤ x.size * 1048700 := fun x hx => by
      obtain ⟨j, hj, rfl⟩ := List.getElem_of_mem hx
      obtain ⟨b, o, s, _, _, _, _, _, _, _, h5, h6⟩ := h.item j hj
      exact enc_len n _ w B s h5 h6
    have hf := flat_sum hit
    have hu : (uvarint v.items.length).length ≤ 10 := uvarint_length64 (by unfold maxLen at hla; omega)
    have z1 := zz_len hok.2.1.1 hok.2.1.2
    have z2 := zz_len hok.2.2.1 hok.2.2.2
    have ht : (txt v.text).length ≤ 10 + 1048576 := by
      unfold txt
      rw [List.length_append, size_eq]
      have : (uvarint v.text.size).length ≤ 10 := uvarint_length64 (by have := hok.1; omega)
      have := hok.1
      omega
    obtain ⟨S, hS⟩ : ∃ S, (v.items.map Vl.size).sum * 1048700 = S := ⟨_, rfl⟩
    rw [hS] at hf
    have hsz : v.size * 1048700 = S + 1048700 := by rw [Vl.size_eq, Nat.add_mul, hS, Nat.one_mul]
    rw [hsz, encV_eq, List.length_cons]
    clear hsz hS
    split
    · simp
    · split
      · omega
      · split
        · rw [List.length_append]; omega
        · split
          · omega
          · rw [List.length_append]; omega
theorem enc_short {n : Nat} {v : Vl} {w : World} {B : Nat} {sl : Value} (h : ItemsAt w B n sl v.items) (hok : v.ok) (hr : rightV v = true) : (encV v).length ≤ 1000000000000 := by
  have h1 := enc_len n v w B sl h hok
  have h2 := right_size hr
  have h3 := Nat.mul_le_mul_right 1048700 h2
  omega
set_option maxRecDepth 100000 in
theorem encodeC_k (v : Vl) (w : World) (n : Nat) (sl : Value) (hT : Tabs w) (hok : v.ok) (hz : v.size ≤ 1000000000) (hs : ItemsAt w w.heap.size n sl v.items) :
    Calls Tryz.prog 33 #[.agg (vcells v sl)] w fun e w' => ∃ bv, e = .returned (.tuple #[bv, .int .i64 (bif rightV v then 0 else 40)]) ∧ RowB w w.heap.size none w' bv (bif rightV v then encV v else []) := by
  have hl := enc_short hs hok
  obtain ⟨W, hW⟩ : ∃ W, w.alloc (.cells (vcells v sl) 46) = W := ⟨_, rfl⟩
  have bW : Below w.heap.size w W := by rw [← hW]; exact alloc_v (Below.refl _ _) _
  have e1 : W.heap[w.heap.size]? = some (.cells (vcells v sl) 46 (0, 0)) := by rw [← hW]; exact World.alloc_heap_new w _
  have x0 := cells_at e1 0 _ rfl
  have x1 := cells_at e1 1 _ rfl
  have x2 := cells_at e1 2 _ rfl
  have x3 := cells_at e1 3 _ rfl
  have x4 := cells_at e1 4 _ rfl
  have zW : w.heap.size < W.heap.size := (Array.getElem?_eq_some_iff.1 e1).1
  have HR := hide (right_k v W n sl (hT.below bW) hok.1 ((hs.below bW).up bW.size))
  have HE := hide (fun (h : rightV v = true) (U : World) (b : Below W.heap.size W U) => enc_k n v U w.heap.size w.heap.size sl (.slice none 0 0) [] (form_right h) hok hz (Nat.le_refl _) (trans_v bW b).size (hs.below (trans_v bW b)) (World.ownsRow_nil _ _ _ _) (by simpa using hl h))
  obtain ⟨a, c, rfl, _⟩ := hs.len
  clear hs e1 hT
  cases hx : rightV v
  · rw [hx] at HR
    go_enter Tryz.func33, Tryz.ntmps33
    go_wp2_with (go_at_call 26; refine HR.out.mono ?_; clear HR; rintro e w2 ⟨rfl, b2⟩)
    go_ret2
    exact ⟨_, rfl, RowB.below (rowNil w) (trans_v bW b2)⟩
  · rw [hx] at HR
    have HE := hide (HE.out hx)
    clear hx
    go_enter Tryz.func33, Tryz.ntmps33
    go_wp2_with (first
      | (go_at_call 26; refine HR.out.mono ?_; clear HR; rintro e w2 ⟨rfl, b2⟩; have hc := (bcellV b2).1)
      | (go_at_call 57; refine (HE.out _ b2).mono ?_; clear HE; rintro e w3 ⟨bv, rfl, r3⟩))
    go_ret2
    exact ⟨_, rfl, RowB.more (RowB.below (rowNil w) (trans_v bW b2)) r3⟩
end Go.Proofs.YthmhcpghfbifiaaGreatDoor

/- Numerals: what is written of a number is read as that number. -/
namespace Go.Proofs.YthmhcpghfbifiaaGreatDoor
open Go.RowKit

theorem ru_ascii : ∀ l : List UInt8, (∀ b ∈ l, b.toNat < 128) → ru l = l.map fun b => ((b.toNat : Int), 1)
  | [], _ => rfl
  | b :: t, h => by
    have hb := rv_ascii b t (h b (by simp))
    rw [ru_step _ (by simp), hb.1, hb.2, List.drop_one, List.tail_cons, ru_ascii t (fun c hc => h c (by simp [hc])), List.map_cons]

def isDig (b : UInt8) : Prop := 48 ≤ b.toNat ∧ b.toNat ≤ 57
/-- The number of a row of digits, others ahead of it. -/
def vd (a : Nat) (l : List UInt8) : Nat := l.foldl (fun n b => 10 * n + (b.toNat - 48)) a
theorem dig_of (d : Nat) (h : d < 10) : (UInt8.ofNat (48 + d)).toNat = 48 + d := by
  rw [UInt8.toNat_ofNat']
  omega
theorem dd_dig (u : Nat) : ∀ b ∈ Lib.decDigits u, isDig b := by
  induction u using Nat.strongRecOn with
  | _ u ih =>
    intro b hb
    by_cases h : u < 10
    · rw [Lib.decDigits_one h] at hb
      have e : b = UInt8.ofNat (48 + u) := by simpa using hb
      rw [e]
      unfold isDig
      rw [dig_of u h]
      omega
    · rw [Lib.decDigits, dif_neg h] at hb
      rcases List.mem_append.1 hb with hb | hb
      · exact ih _ (by omega) b hb
      · have e : b = UInt8.ofNat (48 + u % 10) := by simpa using hb
        rw [e]
        unfold isDig
        rw [dig_of _ (by omega)]
        omega
theorem dd_val (u : Nat) : vd 0 (Lib.decDigits u) = u := by
  induction u using Nat.strongRecOn with
  | _ u ih =>
    by_cases h : u < 10
    · rw [Lib.decDigits_one h]
      unfold vd
      simp only [List.foldl_cons, List.foldl_nil]
      rw [dig_of u h]
      omega
    · rw [Lib.decDigits, dif_neg h]
      have := ih (u / 10) (by omega)
      unfold vd at this ⊢
      rw [List.foldl_append, this]
      simp only [List.foldl_cons, List.foldl_nil]
      rw [dig_of _ (by omega)]
      omega
theorem dd_ne (u : Nat) : Lib.decDigits u ≠ [] := by
  by_cases h : u < 10
  · rw [Lib.decDigits_one h]; simp
  · rw [Lib.decDigits, dif_neg h]; simp
theorem dec_len : ∀ (k u : Nat), u < 10 ^ (k + 1) → (Lib.decDigits u).length ≤ k + 1
  | 0, u, h => by rw [Lib.decDigits_one (by simpa using h)]; simp
  | k + 1, u, h => by
    by_cases h1 : u < 10
    · rw [Lib.decDigits_one h1]; simp
    · rw [Lib.decDigits, dif_neg h1, List.length_append]
      have := dec_len k (u / 10) (by rw [Nat.pow_succ] at h; omega)
      simp
      omega
theorem wv_step (a d : Nat) (_ : d < 10) : wstep (wrap64 (a : Int)) ((48 + d : Nat) : Int) = wrap64 ((10 * a + d : Nat) : Int) := by
  unfold wstep wrap64
  omega
theorem vd_cons (a : Nat) (b : UInt8) (t : List UInt8) : vd a (b :: t) = vd (10 * a + (b.toNat - 48)) t := by
  unfold vd
  rw [List.foldl_cons]
theorem fold_gen (F : Nat → Int) (g : Int → Int → Int) (hg : ∀ a d : Nat, d < 10 → g (F a) ((48 + d : Nat) : Int) = F (10 * a + d)) (l : List UInt8) : ∀ (_ : ∀ b ∈ l, isDig b) (a : Nat), l.foldl (fun n b => g n (b.toNat : Int)) (F a) = F (vd a l) := by
  induction l with
  | nil =>
    intro _ a
    rw [List.foldl_nil]
    unfold vd
    rw [List.foldl_nil]
  | cons b t ihh =>
    intro h a
    obtain ⟨h1, h2⟩ := h b (by simp)
    have ih := ihh (fun c hc => h c (by simp [hc])) (10 * a + (b.toNat - 48))
    have hs := hg a (b.toNat - 48) (by omega)
    have e : 48 + (b.toNat - 48) = b.toNat := by omega
    rw [e] at hs
    rw [List.foldl_cons, hs, ih, vd_cons]
theorem raw_nat (n : Nat) : raw (n : Int) = (n : Int) := by
  unfold raw
  rw [if_neg (by omega)]
theorem wrap_zero : wrap64 ((0 : Nat) : Int) = 0 := by
  unfold wrap64
  omega
theorem wv_digits (l : List UInt8) (h : ∀ b ∈ l, isDig b) : wv l = wrap64 (vd 0 l : Nat) := by
  have h0 := fold_gen (fun a => wrap64 (a : Int)) wstep wv_step l h 0
  rw [wrap_zero] at h0
  unfold wv
  rw [ru_ascii l (fun b hb => by have := h b hb; unfold isDig at this; omega), List.foldl_map]
  simp only [raw_nat]
  exact h0
theorem pre45 (l : List UInt8) : Lib.hasPrefix l [45] = true ↔ 0 < l.length ∧ l.getD 0 0 = 45 := by
  unfold Lib.hasPrefix
  match l with
  | [] => simp
  | a :: t => simp [List.isPrefixOf]; exact ⟨fun h => h.symm, fun h => h.symm⟩
def nOff (l : List UInt8) : Nat := if 0 < l.length ∧ l.getD 0 0 = 45 then 1 else 0
/-- The number that the document reads of a text. -/
def docV (l : List UInt8) : Int := if nOff l = 1 then wrap64 (-(wrap64 (vd 0 (l.drop (nOff l)) : Nat))) else wrap64 (vd 0 (l.drop (nOff l)) : Nat)
/-- What is written of a number. -/
theorem itoa_shape (m : Int) (h0 : -9223372036854775808 ≤ m) (h1 : m ≤ 9223372036854775807) :
    (Lib.itoa m).length ≠ nOff (Lib.itoa m) ∧ (Lib.itoa m).length ≤ nOff (Lib.itoa m) + 19 ∧ (∀ b ∈ (Lib.itoa m).drop (nOff (Lib.itoa m)), isDig b) ∧ docV (Lib.itoa m) = m ∧ wrapd (Lib.itoa m) = m := by
  have hl := dec_len 18 m.natAbs (by omega)
  have hne := List.length_pos_iff.2 (dd_ne m.natAbs)
  have hv := dd_val m.natAbs
  have hd := dd_dig m.natAbs
  by_cases hm : m < 0
  · have e : Lib.itoa m = 45 :: Lib.decDigits m.natAbs := by unfold Lib.itoa; rw [if_pos hm]
    have ho : nOff (Lib.itoa m) = 1 := by unfold nOff; rw [e, if_pos ⟨by simp, by simp⟩]
    have hp : Lib.hasPrefix (Lib.itoa m) [45] = true := (pre45 _).2 (by rw [e]; exact ⟨by simp, by simp⟩)
    have hw : wrapd (Lib.itoa m) = wrap64 (-(wrap64 (vd 0 (Lib.decDigits m.natAbs) : Nat))) := by
      unfold wrapd
      rw [if_pos hp]
      have ht : Lib.trimPrefix (Lib.itoa m) [45] = Lib.decDigits m.natAbs := by
        unfold Lib.trimPrefix
        rw [hp, e]
        rfl
      rw [ht, wv_digits _ hd]
    have hval : wrap64 (-(wrap64 ((m.natAbs : Nat) : Int))) = m := by
      unfold wrap64
      omega
    refine ⟨?_, ?_, ?_, ?_, ?_⟩
    · rw [ho, e, List.length_cons]; omega
    · rw [ho, e, List.length_cons]; omega
    · rw [ho, e]; exact hd
    · unfold docV
      rw [if_pos ho, ho, e, List.drop_one, List.tail_cons, hv, hval]
    · rw [hw, hv, hval]
  · have hN : m.toNat = m.natAbs := by omega
    have e : Lib.itoa m = Lib.decDigits m.natAbs := by unfold Lib.itoa; rw [if_neg hm, hN]
    have h45 : ¬ (0 < (Lib.itoa m).length ∧ (Lib.itoa m).getD 0 0 = 45) := by
      rw [e]
      rintro ⟨a, b⟩
      match hh : Lib.decDigits m.natAbs, b with
      | [], _ => rw [hh] at a; simp at a
      | c :: t, b =>
        have hc : c = 45 := by simpa using b
        have := hd c (by rw [hh]; simp)
        unfold isDig at this
        rw [hc] at this
        exact absurd this.1 (by decide)
    have ho : nOff (Lib.itoa m) = 0 := by unfold nOff; rw [if_neg h45]
    have hp : Lib.hasPrefix (Lib.itoa m) [45] = false := by
      cases hh : Lib.hasPrefix (Lib.itoa m) [45] with
      | false => rfl
      | true => exact absurd ((pre45 _).1 hh) h45
    have hw : wrapd (Lib.itoa m) = wrap64 (vd 0 (Lib.decDigits m.natAbs) : Nat) := by
      unfold wrapd
      rw [if_neg (by rw [hp]; decide)]
      have ht : Lib.trimPrefix (Lib.itoa m) [45] = Lib.decDigits m.natAbs := by
        unfold Lib.trimPrefix
        rw [hp, e]
        rfl
      rw [ht, wv_digits _ hd]
    have hval : wrap64 ((m.natAbs : Nat) : Int) = m := by
      unfold wrap64
      omega
    refine ⟨?_, ?_, ?_, ?_, ?_⟩
    · rw [ho, e]; omega
    · rw [ho, e]; omega
    · rw [ho, e]; exact hd
    · unfold docV
      rw [if_neg (by rw [ho]; decide), ho, e, List.drop_zero, hv, hval]
    · rw [hw, hv, hval]
theorem vd_snoc (a : Nat) (l : List UInt8) (b : UInt8) : vd a (l ++ [b]) = 10 * vd a l + (b.toNat - 48) := by simp [vd]
theorem vd_lt : ∀ (k : Nat) (l : List UInt8), l.length = k → (∀ b ∈ l, isDig b) → vd 0 l < 10 ^ k := by
  intro k
  induction k with
  | zero =>
    intro l hl _
    have : l = [] := List.eq_nil_of_length_eq_zero hl
    subst this
    decide
  | succ k ih =>
    intro l hl hd
    have hne : l ≠ [] := fun e => by rw [e] at hl; simp at hl
    rw [← List.dropLast_concat_getLast hne, vd_snoc]
    have h1 := ih l.dropLast (by rw [List.length_dropLast]; omega) (fun b hb => hd b (List.dropLast_subset l hb))
    have h2 := hd _ (List.getLast_mem hne)
    unfold isDig at h2
    rw [Nat.pow_succ]
    omega
/-- What the document answers of a text is what Number does. -/
theorem num_doc (l : List UInt8) : (Lib.itoa (docV l) = l → numV l = docV l ∧ numE l = 0) ∧ (Lib.itoa (docV l) ≠ l → numV l = 0 ∧ numE l = 22) := by
  have hr : -9223372036854775808 ≤ docV l ∧ docV l ≤ 9223372036854775807 := by
    unfold docV
    split
    · exact ⟨wrap_lo _, wrap_hi _⟩
    · exact ⟨wrap_lo _, wrap_hi _⟩
  refine ⟨fun h => ?_, fun h => ?_⟩
  · have h5 := (itoa_shape (docV l) hr.1 hr.2).2.2.2.2
    rw [h] at h5
    unfold numV numE
    rw [h5, if_pos h, if_pos h]
    exact ⟨rfl, rfl⟩
  · have hw := wrapd_range l
    have hn : Lib.itoa (wrapd l) ≠ l := by
      intro e
      have h4 := (itoa_shape (wrapd l) hw.1 hw.2).2.2.2.1
      rw [e] at h4
      rw [h4] at h
      exact h e
    unfold numV numE
    rw [if_neg hn, if_neg hn]
    exact ⟨rfl, rfl⟩
/-- A text that is not of a numeral's shape is none. -/
theorem num_not (l : List UInt8) (h : l.length = nOff l ∨ nOff l + 19 < l.length ∨ ∃ b ∈ l.drop (nOff l), ¬ isDig b) : numV l = 0 ∧ numE l = 22 := by
  have hw := wrapd_range l
  have hn : Lib.itoa (wrapd l) ≠ l := by
    intro e
    obtain ⟨h1, h2, h3, -, -⟩ := itoa_shape (wrapd l) hw.1 hw.2
    rw [e] at h1 h2 h3
    rcases h with h | h | ⟨b, hb, hnb⟩
    · exact h1 h
    · omega
    · exact hnb (h3 b hb)
  unfold numV numE
  rw [if_neg hn, if_neg hn]
  exact ⟨rfl, rfl⟩
end Go.Proofs.YthmhcpghfbifiaaGreatDoor

/- Print of any value, without the reference; how long a right value's text is. -/
namespace Go.Proofs.YthmhcpghfbifiaaGreatDoor
open Go.RowKit

theorem itoa_shortB {i : Int} (h0 : -9223372036854775808 ≤ i) (h1 : i ≤ 9223372036854775807) : (Lib.itoa i).length ≤ 21 := by
  unfold Lib.itoa
  have := dec_len 19 i.natAbs (by omega)
  split
  · simp; omega
  · have h2 : i.toNat = i.natAbs := by omega
    rw [h2]
    omega
theorem join_shortB {l : List Vl} {c : Nat} (h : ∀ x ∈ l, (prV x).length + 2 ≤ x.size * c) : (Lib.join (l.map prV) [44, 32]).length ≤ (l.map Vl.size).sum * c := by
  have h2 : ∀ l : List Vl, (∀ x ∈ l, (prV x).length + 2 ≤ x.size * c) → Lib.lens (l.map prV) + 2 * l.length ≤ (l.map Vl.size).sum * c := by
    intro l
    induction l with
    | nil => intro _; simp [Lib.lens]
    | cons x r ih =>
      intro h
      have a1 := h x (by simp)
      have a2 := ih fun y hy => h y (by simp [hy])
      simp only [Lib.lens, List.map_cons, List.sum_cons, Nat.add_mul, List.length_cons] at a2 ⊢
      omega
  cases l with
  | nil => simp [Lib.join_nil]
  | cons x r =>
    have := h2 (x :: r) h
    rw [List.map_cons, Lib.join_length]
    simp only [List.map_cons, List.length_cons, List.length_nil, List.length_map] at this ⊢
    omega
set_option maxRecDepth 100000 in
theorem pr_lenB : ∀ (n : Nat) (v : Vl) (w : World) (B : Nat) (sl : Value), ItemsAt w B n sl v.items → v.ok → (prV v).length + 2 ≤ v.size * 1048700
  | 0, _, _, _, _, h, _ => h.elim
  | n + 1, v, w, B, sl, h, hok => by
    obtain ⟨a, c, rfl, hla⟩ := h.len
    have hit : ∀ x ∈ v.items, (prV x).length + 2 ≤ x.size * 1048700 := fun x hx => by
      obtain ⟨j, hj, rfl⟩ := List.getElem_of_mem hx
      obtain ⟨b, o, s, _, _, _, _, _, _, _, h5, h6⟩ := h.item j hj
      exact pr_lenB n _ w B s h5 h6
    have hf := join_shortB hit
    have z1 := itoa_shortB hok.2.1.1 hok.2.1.2
    have z2 := itoa_shortB hok.2.2.1 hok.2.2.2
    have ht : v.text.data.toList.length ≤ 1048576 := by rw [size_eq]; exact hok.1
    obtain ⟨S, hS⟩ : ∃ S, (v.items.map Vl.size).sum * 1048700 = S := ⟨_, rfl⟩
    rw [hS] at hf
    have hsz : v.size * 1048700 = S + 1048700 := by rw [Vl.size_eq, Nat.add_mul, hS, Nat.one_mul]
    rw [hsz, prV_eq]
    clear hsz hS
    split
    · split <;> simp
    · split
      · omega
      · split
        · have : (if 0 ≤ v.im then ([43] : List UInt8) else []).length ≤ 1 := by split <;> simp
          simp only [List.length_append, List.length_cons, List.length_nil]
          omega
        · split
          · omega
          · split
            · split
              · simp only [List.length_append, List.length_cons, List.length_nil]; omega
              · simp only [List.length_append, List.length_cons, List.length_nil]; omega
            · split
              · simp only [List.length_append, List.length_cons, List.length_nil]; omega
              · simp only [List.length_append, List.length_cons, List.length_nil]; omega
theorem pr_shortB {n : Nat} {v : Vl} {w : World} {B : Nat} {sl : Value} (h : ItemsAt w B n sl v.items) (hok : v.ok) (hr : rightV v = true) : (prV v).length ≤ 1000000000000 := by
  have h1 := pr_lenB n v w B sl h hok
  have h2 := right_size hr
  have h3 := Nat.mul_le_mul_right 1048700 h2
  omega
set_option maxRecDepth 100000 in
theorem printC_kB (v : Vl) (w : World) (n : Nat) (sl : Value) (hT : Tabs w) (hok : v.ok) (hz : v.size ≤ 1000000000) (hs : ItemsAt w w.heap.size n sl v.items) :
    Calls Tryz.prog 12 #[.agg (vcells v sl)] w fun e w' => e = .returned (.tuple #[.string (bif rightV v then str (prV v) else ⟨#[]⟩), .int .i64 (bif rightV v then 0 else 40)]) ∧ Below w.heap.size w w' := by
  have hl := pr_shortB hs hok
  obtain ⟨W, hW⟩ : ∃ W, w.alloc (.cells (vcells v sl) 46) = W := ⟨_, rfl⟩
  have bW : Below w.heap.size w W := by rw [← hW]; exact alloc_v (Below.refl _ _) _
  have e1 : W.heap[w.heap.size]? = some (.cells (vcells v sl) 46 (0, 0)) := by rw [← hW]; exact World.alloc_heap_new w _
  have x0 := cells_at e1 0 _ rfl
  have x1 := cells_at e1 1 _ rfl
  have x2 := cells_at e1 2 _ rfl
  have x3 := cells_at e1 3 _ rfl
  have x4 := cells_at e1 4 _ rfl
  have zW : w.heap.size < W.heap.size := (Array.getElem?_eq_some_iff.1 e1).1
  have HR := hide (right_k v W n sl (hT.below bW) hok.1 ((hs.below bW).up bW.size))
  have HE := hide (fun (h : rightV v = true) (U : World) (b : Below W.heap.size W U) => written_k n v U w.heap.size sl (form_right h) hok hz (hl h) ((hT.below bW).below b) (trans_v bW b).size (hs.below (trans_v bW b)))
  obtain ⟨a, c, rfl, _⟩ := hs.len
  clear hs e1 hT
  cases hx : rightV v
  · rw [hx] at HR
    go_enter Tryz.func12, Tryz.ntmps12
    go_wp2_with (go_at_call 26; refine HR.out.mono ?_; clear HR; rintro e w2 ⟨rfl, b2⟩)
    go_ret2
    exact ⟨rfl, trans_v bW b2⟩
  · rw [hx] at HR
    have HE := hide (HE.out hx)
    clear hx
    go_enter Tryz.func12, Tryz.ntmps12
    go_wp2_with (first
      | (go_at_call 26; refine HR.out.mono ?_; clear HR; rintro e w2 ⟨rfl, b2⟩; have hc := (bcellV b2).1)
      | (go_at_call 27; refine (HE.out _ b2).mono ?_; clear HE; rintro e w3 ⟨rfl, b3⟩))
    go_ret2
    exact ⟨rfl, trans_v (trans_v bW b2) b3⟩
set_option maxRecDepth 100000 in
theorem pr_lenF : ∀ (n : Nat) (v : Vl) (w : World) (B : Nat) (sl : Value), ItemsAt w B n sl v.items → v.ok → formV v = true → (prV v).length + 2 ≤ v.size * 150
  | 0, _, _, _, _, h, _, _ => h.elim
  | n + 1, v, w, B, sl, h, hok, hf0 => by
    obtain ⟨a, c, rfl, hla⟩ := h.len
    have hit : ∀ x ∈ v.items, (prV x).length + 2 ≤ x.size * 150 := fun x hx => by
      obtain ⟨j, hj, rfl⟩ := List.getElem_of_mem hx
      obtain ⟨b, o, s, _, _, _, _, _, _, _, h5, h6⟩ := h.item j hj
      exact pr_lenF n _ w B s h5 h6 (formV_item hf0 (List.getElem_mem hj))
    have hf := join_shortB hit
    have z1 := itoa_shortB hok.2.1.1 hok.2.1.2
    have z2 := itoa_shortB hok.2.2.1 hok.2.2.2
    have ht : v.text.data.toList.length ≤ 128 := by rw [size_eq]; exact formV_text hf0
    obtain ⟨S, hS⟩ : ∃ S, (v.items.map Vl.size).sum * 150 = S := ⟨_, rfl⟩
    rw [hS] at hf
    have hsz : v.size * 150 = S + 150 := by rw [Vl.size_eq, Nat.add_mul, hS, Nat.one_mul]
    rw [hsz, prV_eq]
    clear hsz hS
    split
    · split <;> simp
    · split
      · omega
      · split
        · have : (if 0 ≤ v.im then ([43] : List UInt8) else []).length ≤ 1 := by split <;> simp
          simp only [List.length_append, List.length_cons, List.length_nil]
          omega
        · split
          · omega
          · split
            · split
              · simp only [List.length_append, List.length_cons, List.length_nil]; omega
              · simp only [List.length_append, List.length_cons, List.length_nil]; omega
            · split
              · simp only [List.length_append, List.length_cons, List.length_nil]; omega
              · simp only [List.length_append, List.length_cons, List.length_nil]; omega
theorem pr_fits {n : Nat} {v : Vl} {w : World} {B : Nat} {sl : Value} (h : ItemsAt w B n sl v.items) (hok : v.ok) (hr : rightV v = true) : (prV v).length ≤ 1048576 := by
  obtain ⟨h1, _, h3⟩ := (rightV_is v).1 hr
  have h2 := pr_lenF n v w B sl h hok h3
  have h4 := Nat.mul_le_mul_right 150 h1
  omega
theorem enc_fits {n : Nat} {v : Vl} {w : World} {B : Nat} {sl : Value} (h : ItemsAt w B n sl v.items) (hok : v.ok) (hr : rightV v = true) : (encV v).length ≤ 4300000000 := by
  have h1 := enc_len n v w B sl h hok
  have h4 := Nat.mul_le_mul_right 1048700 ((rightV_is v).1 hr).1
  omega
end Go.Proofs.YthmhcpghfbifiaaGreatDoor

/- Tokens of printed values, whatever mark follows: plain mathematics. -/
namespace Go.Proofs.YthmhcpghfbifiaaGreatDoor
open Go.RowKit

theorem decN_appV (n n' b0 b1 b2 b3 c1 c2 c3 : Nat) (hne : Lib.decodeN n b0 b1 b2 b3 ≠ (65533, 1)) (hn : n ≤ n') (h1 : 1 < n → c1 = b1) (h2 : 2 < n → c2 = b2) (h3 : 3 < n → c3 = b3) : Lib.decodeN n' b0 c1 c2 c3 = Lib.decodeN n b0 b1 b2 b3 := by
  rcases Lib.decodeN_shape n b0 b1 b2 b3 with ⟨c, e⟩ | ⟨q1, q2, q3, cv, e⟩ | ⟨q1, q2, q3, q4, cv, cs, e⟩ | ⟨q1, q2, q3, q4, q5, cv, cw, e⟩ | e
  · rw [e, Lib.decodeN_ascii _ _ _ _ _ c]
  · rw [e]
    have := h1 q2
    subst this
    unfold Lib.decodeN
    repeat' split
    all_goals first
      | (exfalso; omega)
      | rfl
  · rw [e]
    have := h1 (by omega)
    have := h2 q2
    subst c1 c2
    unfold Lib.decodeN
    repeat' split
    all_goals first
      | (exfalso; omega)
      | rfl
  · rw [e]
    have := h1 (by omega)
    have := h2 (by omega)
    have := h3 q2
    subst c1 c2 c3
    unfold Lib.decodeN
    repeat' split
    all_goals first
      | (exfalso; omega)
      | rfl
  · exact absurd e hne
theorem getD_appV (l G : List UInt8) (i : Nat) (h : i < l.length) : (l ++ G).getD i 0 = l.getD i 0 := by
  rw [List.getD_eq_getElem?_getD, List.getD_eq_getElem?_getD, List.getElem?_append_left h]
theorem dec_appV (l G : List UInt8) (hl : l ≠ []) (h : 0 ≤ rv l) : rv (l ++ G) = rv l ∧ wd (l ++ G) = wd l := by
  have hn : Lib.decodeL l ≠ (65533, 1) := fun e => by
    unfold rv at h
    rw [e, if_pos ⟨rfl, rfl⟩] at h
    omega
  have hlen : 0 < l.length := List.length_pos_iff.2 hl
  have e : Lib.decodeL (l ++ G) = Lib.decodeL l := by
    rw [Lib.decodeL_N] at hn
    rw [Lib.decodeL_N, Lib.decodeL_N, getD_appV l G 0 hlen]
    exact decN_appV _ _ _ _ _ _ _ _ _ hn (by rw [List.length_append]; omega) (fun q => by rw [getD_appV l G 1 q]) (fun q => by rw [getD_appV l G 2 q]) (fun q => by rw [getD_appV l G 3 q])
  unfold rv wd
  rw [e]
  exact ⟨rfl, rfl⟩
/-- Nothing, or a mark first. -/
def MG (G : List UInt8) : Prop := G = [] ∨ ∃ b R, G = b :: R ∧ isMark b.toNat = true
theorem mark_no (p : Int → Bool) (hp : p 40 = false ∧ p 41 = false ∧ p 91 = false ∧ p 93 = false ∧ p 123 = false ∧ p 125 = false ∧ p 44 = false) (b : UInt8) (R : List UInt8) (h : isMark b.toNat = true) : rowM p (b :: R) = 0 := by
  have hm := mark_is h
  rw [rowM_ascii p b R (by omega)]
  obtain ⟨h1, h2, h3, h4, h5, h6, h7⟩ := hp
  have : p (b.toNat : Int) = false := by
    rcases hm with e | e | e | e | e | e | e
    · rw [e]; exact h1
    · rw [e]; exact h2
    · rw [e]; exact h3
    · rw [e]; exact h4
    · rw [e]; exact h5
    · rw [e]; exact h6
    · rw [e]; exact h7
  rw [this]
  rfl
theorem MG.row {G : List UInt8} (h : MG G) (p : Int → Bool) (hp : p 40 = false ∧ p 41 = false ∧ p 91 = false ∧ p 93 = false ∧ p 123 = false ∧ p 125 = false ∧ p 44 = false) : rowM p G = 0 := by
  rcases h with rfl | ⟨b, R, rfl, hb⟩
  · rfl
  · exact mark_no p hp b R hb
theorem no_name : inNameP 40 = false ∧ inNameP 41 = false ∧ inNameP 91 = false ∧ inNameP 93 = false ∧ inNameP 123 = false ∧ inNameP 125 = false ∧ inNameP 44 = false := by decide
theorem no_letter : isLetter 40 = false ∧ isLetter 41 = false ∧ isLetter 91 = false ∧ isLetter 93 = false ∧ isLetter 123 = false ∧ isLetter 125 = false ∧ isLetter 44 = false := by decide
theorem no_digit : digitP 40 = false ∧ digitP 41 = false ∧ digitP 91 = false ∧ digitP 93 = false ∧ digitP 123 = false ∧ digitP 125 = false ∧ digitP 44 = false := by decide
theorem no_blank : blankP 40 = false ∧ blankP 41 = false ∧ blankP 91 = false ∧ blankP 93 = false ∧ blankP 123 = false ∧ blankP 125 = false ∧ blankP 44 = false := by decide
/-- Runes of one sort, and what follows. -/
theorem row_appM (p : Int → Bool) (hp : p 65533 = false) (G : List UInt8) : ∀ w : List UInt8, rowM p w = w.length → rowM p (w ++ G) = w.length + rowM p G := by
  refine ru_ind ?_ ?_
  · intro _
    simp
  · intro l hl ih hr
    have hw := wd_pos l
    have hle := wd_le l hl
    have hlen : 0 < l.length := List.length_pos_iff.2 hl
    rw [rowM_step p l hl] at hr
    have hq : p (raw (rv l)) = true := by
      cases hq : p (raw (rv l)) with
      | true => rfl
      | false =>
        rw [hq, if_neg (by decide)] at hr
        omega
    rw [if_pos hq] at hr
    have h0 : 0 ≤ rv l := by
      by_cases h : rv l < 0
      · rw [raw_negV _ h, hp] at hq
        cases hq
      · omega
    obtain ⟨e1, e2⟩ := dec_appV l G hl h0
    have ih := ih (by rw [List.length_drop]; omega)
    have hd : (l ++ G).drop (wd l) = l.drop (wd l) ++ G := List.drop_append_of_le_length hle
    rw [rowM_step p (l ++ G) (by simp [hl]), e1, e2, if_pos hq, hd, ih, List.length_drop]
    omega
theorem row_all (p : Int → Bool) (q : Bool → Int → Bool) (hq : ∀ b r, q b r = true → p r = true) : ∀ (w : List UInt8) (b : Bool), (∀ f : Bool → List (Int × Nat) → Bool, (∀ b, f b [] = true) → (∀ b x t, f b (x :: t) = (q b (raw x.1) && f false t)) → f b (ru w) = true) → rowM p w = w.length := by
  refine ru_ind ?_ ?_
  · intro _ _; rfl
  · intro l hl ih b h
    have hw := wd_pos l
    have hle := wd_le l hl
    have key : ∀ f : Bool → List (Int × Nat) → Bool, (∀ b, f b [] = true) → (∀ b x t, f b (x :: t) = (q b (raw x.1) && f false t)) → q b (raw (rv l)) = true ∧ f false (ru (l.drop (wd l))) = true := fun f h1 h2 => by
      have := h f h1 h2
      rw [ru_step l hl, h2, Bool.and_eq_true] at this
      exact this
    have ih := ih false fun f h1 h2 => (key f h1 h2).2
    have h1 := (key (fun b t => match t with | [] => true | x :: t => q b (raw x.1) && (t.all fun y => q false (raw y.1))) (fun _ => rfl) (fun b x t => by cases t <;> simp)).1
    rw [rowM_step p l hl, if_pos (hq _ _ h1), ih, List.length_drop]
    omega
theorem okR_row (w : List UInt8) (b : Bool) (h : okR b (ru w) = true) : rowM inNameP w = w.length := by
  refine row_all inNameP (fun b r => isLetter r || (!b && mayF r)) (fun b r hr => ?_) w b fun f h1 h2 => ?_
  · simp only [Bool.or_eq_true, Bool.and_eq_true] at hr
    simp only [inNameP, Bool.or_eq_true]
    rcases hr with hr | hr
    · exact .inl hr
    · right
      have := hr.2
      simp only [mayF, Bool.or_eq_true] at this
      exact this
  · have e : ∀ (t : List (Int × Nat)) (b : Bool), f b t = okR b t := by
      intro t
      induction t with
      | nil => intro b; rw [h1]; rfl
      | cons x t ih => intro b; rw [h2, okR, ih]
    rw [e]
    exact h
theorem bad_name : inNameP 65533 = false := by decide
theorem tok_name (w G : List UInt8) (o : Nat) (hn : nameE w = 0) (hG : MG G) : tokM (w ++ G) o = ⟨97, o, str w⟩ ∧ rowM blankP (w ++ G) = 0 := by
  unfold nameE at hn
  split at hn
  · exact absurd hn (by decide)
  rename_i h0
  split at hn
  rotate_left
  · exact absurd hn (by decide)
  rename_i hok
  have hne : w ≠ [] := fun e => h0 (.inl e)
  have hrow := okR_row w true hok
  have hl1 : isLetter (raw (rv w)) = true := by
    rw [ru_step w hne, okR] at hok
    simp only [Bool.not_true, Bool.false_and, Bool.or_false, Bool.and_eq_true] at hok
    exact hok.1
  have hrv : 0 ≤ rv w := by
    by_cases h : rv w < 0
    · rw [raw_negV _ h] at hl1
      exact absurd hl1 (by decide)
    · omega
  obtain ⟨e1, e2⟩ := dec_appV w G hne hrv
  have hwd := wd_pos w
  have hall : rowM inNameP (w ++ G) = w.length := by rw [row_appM inNameP bad_name G w hrow, hG.row inNameP no_name]; rfl
  have hlet : 0 < rowM isLetter (w ++ G) := by
    rw [rowM_step _ _ (by simp [hne]), e1, e2, if_pos hl1]
    omega
  refine ⟨?_, ?_⟩
  · obtain ⟨c, r, rfl⟩ : ∃ c r, w = c :: r := by
      cases w with
      | nil => exact absurd rfl hne
      | cons c r => exact ⟨c, r, rfl⟩
    have hm : isMark c.toNat = false := by
      cases hm : isMark c.toNat with
      | false => rfl
      | true => rw [List.cons_append, mark_no isLetter no_letter c _ hm] at hlet; omega
    rw [List.cons_append] at hlet hall ⊢
    simp only [tokM]
    rw [hm, if_neg (by decide), if_pos hlet, hall, ← List.cons_append, List.take_left]
  · rw [rowM_step _ _ (by simp [hne]), e1, if_neg]
    intro hb
    have : raw (rv w) = 32 ∨ raw (rv w) = 9 := by simpa [blankP] using hb
    rcases this with e | e
    · rw [e] at hl1; exact absurd hl1 (by decide)
    · rw [e] at hl1; exact absurd hl1 (by decide)
theorem digs_row (G : List UInt8) : ∀ D : List UInt8, (∀ b ∈ D, isDig b) → rowM digitP (D ++ G) = D.length + rowM digitP G
  | [], _ => by simp
  | b :: t, h => by
    have hb := h b (by simp)
    unfold isDig at hb
    rw [List.cons_append, rowM_ascii digitP b _ (by omega), if_pos (by simp [digitP]; omega), digs_row G t (fun c hc => h c (by simp [hc])), List.length_cons]
    omega
theorem itoa_is (m : Int) : Lib.itoa m = if m < 0 then 45 :: Lib.decDigits m.natAbs else Lib.decDigits m.natAbs := by
  unfold Lib.itoa
  by_cases h : m < 0
  · rw [if_pos h, if_pos h]
  · rw [if_neg h, if_neg h, show m.toNat = m.natAbs by omega]
theorem digs_pre (D R : List UInt8) (h : ∀ b ∈ D, isDig b) (hne : D ≠ []) : Lib.trimPrefix (D ++ R) [45] = D ++ R := by
  cases D with
  | nil => exact absurd rfl hne
  | cons b t =>
    have hb := h b (by simp)
    unfold isDig at hb
    unfold Lib.trimPrefix Lib.hasPrefix
    have : ¬ (45 : UInt8) = b := fun e => by subst e; revert hb; decide
    simp [List.isPrefixOf, this]
theorem neg_pre (R : List UInt8) : Lib.trimPrefix (45 :: R) [45] = R := by
  unfold Lib.trimPrefix Lib.hasPrefix
  simp [List.isPrefixOf]
theorem numSz_itoa (i : Int) (G : List UInt8) (hG : rowM digitP G = 0) : numSz (Lib.itoa i ++ G) = (Lib.itoa i).length := by
  have hd := dd_dig i.natAbs
  have hne := dd_ne i.natAbs
  have hlen := List.length_pos_iff.2 hne
  have hr := digs_row G _ hd
  rw [itoa_is]
  unfold numSz
  split
  · rw [List.cons_append, neg_pre, hr, hG, if_neg (by omega)]
    simp only [List.length_cons, List.length_append]
    omega
  · rw [digs_pre _ _ hd hne, hr, hG, if_neg (by omega)]
    simp only [List.length_append]
    omega
theorem imSz_MG {G : List UInt8} (h : MG G) : imSz G = 0 := by
  rcases h with rfl | ⟨b, R, rfl, hb⟩
  · rfl
  · have := mark_is hb
    simp only [imSz]
    rw [if_pos (by omega)]
/-- What a numeral begins with. -/
theorem itoa_first (i : Int) (G : List UInt8) : ∃ c r, Lib.itoa i ++ G = c :: r ∧ (c.toNat = 45 ∨ isDig c) := by
  have hd := dd_dig i.natAbs
  have hne := dd_ne i.natAbs
  rw [itoa_is]
  split
  · exact ⟨45, _, rfl, .inl rfl⟩
  · cases h : Lib.decDigits i.natAbs with
    | nil => exact absurd h hne
    | cons c r => exact ⟨c, r ++ G, rfl, .inr (hd c (by rw [h]; simp))⟩
theorem first_plain (c : UInt8) (r : List UInt8) (h : c.toNat = 45 ∨ isDig c) : isMark c.toNat = false ∧ rowM isLetter (c :: r) = 0 ∧ rowM blankP (c :: r) = 0 := by
  have hb : 45 ≤ c.toNat ∧ c.toNat ≤ 57 := by unfold isDig at h; omega
  have hl : ∀ k : Nat, k < 58 → isLetter (k : Int) = false := by decide
  refine ⟨?_, ?_, ?_⟩
  · cases hm : isMark c.toNat with
    | false => rfl
    | true => have := mark_is hm; omega
  · rw [rowM_ascii _ _ _ (by omega), hl c.toNat (by omega)]
    rfl
  · rw [rowM_ascii _ _ _ (by omega), if_neg]
    intro h
    have : (c.toNat : Int) = 32 ∨ (c.toNat : Int) = 9 := by simpa [blankP] using h
    omega
theorem tok_num (i : Int) (G : List UInt8) (o : Nat) (hG : MG G) : tokM (Lib.itoa i ++ G) o = ⟨48, o, str (Lib.itoa i)⟩ ∧ rowM blankP (Lib.itoa i ++ G) = 0 := by
  have hn := numSz_itoa i G (hG.row digitP no_digit)
  have hlen : 0 < (Lib.itoa i).length := by
    rw [itoa_is]
    have := List.length_pos_iff.2 (dd_ne i.natAbs)
    split
    · simp
    · exact this
  obtain ⟨c, r, e, hc⟩ := itoa_first i G
  obtain ⟨h1, h2, h3⟩ := first_plain c r hc
  have hd : (Lib.itoa i ++ G).drop (Lib.itoa i).length = G := List.drop_left
  have ht : (Lib.itoa i ++ G).take (Lib.itoa i).length = Lib.itoa i := List.take_left
  rw [e] at hn hd ht ⊢
  refine ⟨?_, h3⟩
  simp only [tokM]
  rw [h1, if_neg (by decide), if_neg (by omega), hn, if_neg (by omega), hd, imSz_MG hG, if_neg (by omega), ht]
/-- The sign in a Gaussian number's midst. -/
def sgG (m : Int) : UInt8 := if m < 0 then 45 else 43
theorem gauss_text (i m : Int) : Lib.itoa i ++ (if 0 ≤ m then [43] else []) ++ Lib.itoa m ++ [105] = Lib.itoa i ++ (sgG m :: (Lib.decDigits m.natAbs ++ [105])) := by
  rw [itoa_is m]
  unfold sgG
  by_cases h : m < 0
  · rw [if_neg (by omega), if_pos h, if_pos h]
    simp
  · rw [if_pos (by omega), if_neg h, if_neg h]
    simp
theorem tok_gauss (i m : Int) (G : List UInt8) (o : Nat) : tokM (Lib.itoa i ++ (sgG m :: (Lib.decDigits m.natAbs ++ [105])) ++ G) o = ⟨105, o, str (Lib.itoa i ++ (sgG m :: (Lib.decDigits m.natAbs ++ [105])))⟩ ∧ rowM blankP (Lib.itoa i ++ (sgG m :: (Lib.decDigits m.natAbs ++ [105])) ++ G) = 0 := by
  have hdg := dd_dig m.natAbs
  have hdl := List.length_pos_iff.2 (dd_ne m.natAbs)
  have hlen : 0 < (Lib.itoa i).length := by
    rw [itoa_is]
    have := List.length_pos_iff.2 (dd_ne i.natAbs)
    split
    · simp
    · exact this
  have hsg : (sgG m).toNat = 45 ∨ (sgG m).toNat = 43 := by
    unfold sgG
    split
    · exact .inl rfl
    · exact .inr rfl
  generalize Lib.decDigits m.natAbs = D at *
  generalize sgG m = g at *
  have hrow0 : ∀ R, rowM digitP (g :: R) = 0 := fun R => by
    rw [rowM_ascii digitP g R (by omega), if_neg]
    simp [digitP]
    omega
  have hn := numSz_itoa i (g :: (D ++ [105]) ++ G) (hrow0 _)
  have hr : rowM digitP (D ++ [105] ++ G) = D.length := by
    rw [List.append_assoc, digs_row _ D hdg, List.cons_append, List.nil_append, rowM_ascii digitP 105 G (by decide), if_neg (by decide)]
    rfl
  have him : imSz (g :: (D ++ [105]) ++ G) = D.length + 2 := by
    simp only [List.cons_append, imSz]
    rw [if_neg (by omega), hr, if_neg (by omega)]
    have hd : (D ++ [105] ++ G).drop D.length = 105 :: G := by rw [List.append_assoc, List.drop_left]; rfl
    rw [hd]
    have hp : Lib.hasPrefix (105 :: G) [105] = true := by unfold Lib.hasPrefix; simp [List.isPrefixOf]
    rw [hp, if_neg (by decide)]
    omega
  obtain ⟨c, r, e, hc⟩ := itoa_first i (g :: (D ++ [105]) ++ G)
  obtain ⟨h1, h2, h3⟩ := first_plain c r hc
  have hd : (Lib.itoa i ++ (g :: (D ++ [105]) ++ G)).drop (Lib.itoa i).length = g :: (D ++ [105]) ++ G := List.drop_left
  have ht : (Lib.itoa i ++ (g :: (D ++ [105]) ++ G)).take ((Lib.itoa i).length + (D.length + 2)) = Lib.itoa i ++ (g :: (D ++ [105])) := by
    rw [← List.append_assoc, List.take_append_of_le_length (by simp), List.take_of_length_le (by simp)]
  rw [List.append_assoc]
  rw [e] at hn hd ht ⊢
  refine ⟨?_, h3⟩
  simp only [tokM]
  rw [h1, if_neg (by decide), if_neg (by omega), hn, if_neg (by omega), hd, him, if_pos (by omega), ht]
theorem num_back (i : Int) (h0 : -9223372036854775808 ≤ i) (h1 : i ≤ 9223372036854775807) : numE (Lib.itoa i) = 0 ∧ numV (Lib.itoa i) = i := by
  have e := (itoa_shape i h0 h1).2.2.2.2
  unfold numE numV
  rw [e, if_pos rfl, if_pos rfl]
  exact ⟨rfl, rfl⟩
theorem gaussM_back (i m : Int) (o : Nat) (h : gaussB i m = true) : gaussM ⟨105, o, str (Lib.itoa i ++ (sgG m :: (Lib.decDigits m.natAbs ++ [105])))⟩ = .ok ⟨3, i, m, ⟨#[]⟩, []⟩ := by
  have hb := h
  simp only [gaussB, Bool.and_eq_true, decide_eq_true_eq] at hb
  have hdi : Lib.decDigits m.natAbs = Lib.itoa (m.natAbs : Int) := by rw [itoa_is, if_neg (by omega), Int.natAbs_natCast]
  have n1 := num_back i (by omega) (by omega)
  have n2 := num_back (m.natAbs : Int) (by omega) (by omega)
  rw [← hdi] at n2
  have hdg : (sgG m).toNat = 45 ∨ (sgG m).toNat = 43 := by
    unfold sgG
    split
    · exact .inl rfl
    · exact .inr rfl
  have hn := numSz_itoa i (sgG m :: (Lib.decDigits m.natAbs ++ [105])) (by
    rw [rowM_ascii digitP _ _ (by omega), if_neg]
    simp [digitP]
    omega)
  unfold gaussM
  simp only [bytes_str]
  rw [hn]
  have ha : (Lib.itoa i ++ (sgG m :: (Lib.decDigits m.natAbs ++ [105]))).take (Lib.itoa i).length = Lib.itoa i := List.take_left
  have hbm : ((Lib.itoa i ++ (sgG m :: (Lib.decDigits m.natAbs ++ [105]))).take ((Lib.itoa i ++ (sgG m :: (Lib.decDigits m.natAbs ++ [105]))).length - 1)).drop ((Lib.itoa i).length + 1) = Lib.decDigits m.natAbs := by
    have e : Lib.itoa i ++ (sgG m :: (Lib.decDigits m.natAbs ++ [105])) = (Lib.itoa i ++ [sgG m]) ++ Lib.decDigits m.natAbs ++ [105] := by simp
    rw [e, List.length_append, List.length_singleton, Nat.add_sub_cancel, List.take_left, List.drop_left' (by simp)]
  have hg : (Lib.itoa i ++ (sgG m :: (Lib.decDigits m.natAbs ++ [105])))[(Lib.itoa i).length]? = some (sgG m) := by
    rw [List.getElem?_append_right (Nat.le_refl _), Nat.sub_self]
    rfl
  rw [ha, hbm, hg, n1.1, n2.1, n1.2, n2.2, if_neg (by simp), if_neg (by simp)]
  by_cases hm : m < 0
  · have hs : sgG m = 45 := by unfold sgG; rw [if_pos hm]
    have hw : wrap64 (-((m.natAbs : Nat) : Int)) = m := by unfold wrap64; omega
    rw [hs, if_pos rfl, if_neg (by omega), hw, if_pos h]
  · have hs : sgG m = 43 := by unfold sgG; rw [if_neg hm]
    have hw : ((m.natAbs : Nat) : Int) = m := by omega
    rw [hs, if_neg (by decide), hw, if_pos h]
theorem tok_mark (c : UInt8) (R : List UInt8) (o : Nat) (h : isMark c.toNat = true) : tokM (c :: R) o = ⟨c.toNat, o, str [c]⟩ ∧ rowM blankP (c :: R) = 0 := by
  refine ⟨?_, mark_no blankP no_blank c R h⟩
  simp only [tokM]
  rw [if_pos h]
theorem cut_nb {s : List UInt8} {o : Nat} (h : rowM blankP (s.drop o) = 0) : cutM s o = tokM (s.drop o) o := by
  unfold cutM
  rw [h]
  rfl
theorem cut_bl {s L : List UInt8} {o : Nat} (hd : s.drop o = 32 :: L) (h : rowM blankP L = 0) : cutM s o = tokM L (o + 1) := by
  have e : rowM blankP (s.drop o) = 1 := by rw [hd, rowM_ascii blankP 32 L (by decide), if_pos (by decide), h]
  have e2 : s.drop (o + 1) = L := by rw [← List.drop_drop, hd]; rfl
  unfold cutM
  rw [e, e2]
end Go.Proofs.YthmhcpghfbifiaaGreatDoor

/- What is printed is read again: plain mathematics. -/
namespace Go.Proofs.YthmhcpghfbifiaaGreatDoor

theorem riseB_risesV : ∀ {l : List Vl}, riseB l = true → Rises l := by
  intro l h
  have ha := (riseB_iff l).1 h
  refine List.pairwise_iff_getElem.2 ?_
  intro i j hi hj hij
  obtain ⟨d, rfl⟩ : ∃ d, j = i + 1 + d := ⟨j - (i + 1), by omega⟩
  induction d with
  | zero => exact ha i hj
  | succ d ih => exact ordV_trans (ih (by omega) (by omega)) (ha (i + 1 + d) hj)
theorem begins_of {s : List UInt8} {n : Nat} {t : Tk} {q : Nat} {r : Vl × Tk × Nat} (h : valM s n t q = .ok r) : begins t.kind = true := by
  cases n with
  | zero => simp only [valM] at h; split at h <;> cases h
  | succ n =>
    simp only [valM] at h
    split at h
    · assumption
    · cases h
theorem begins_no {k : Int} (h : begins k = true) : k ≠ 41 ∧ k ≠ 93 ∧ k ≠ 125 ∧ k ≠ 44 := by
  simp only [begins, Bool.or_eq_true, beq_iff_eq] at h
  omega
/-- A printed value: its token, what follows. -/
def TokAt (s : List UInt8) (o : Nat) : Tk := tokM (s.drop o) o
/-- A value is read again, as deep as it is. -/
def BackV (n : Nat) : Prop := ∀ (v : Vl) (s : List UInt8) (o q : Nat) (G : List UInt8), formV v = true → deepLe n v → okD n v → s.drop o = prV v ++ G → MG G → q + v.size ≤ 4096 →
  valM s n (TokAt s o) q = .ok (v, cutM s (o + (prV v).length), q + v.size) ∧ rowM blankP (prV v ++ G) = 0
theorem step_mark (s : List UInt8) (c : UInt8) (o : Nat) (k : Int) : stepM s ⟨k, o, str [c]⟩ = cutM s (o + 1) := by
  unfold stepM
  rw [str_size]
  rfl
theorem cut_mark {s R : List UInt8} {o : Nat} {c : UInt8} (hd : s.drop o = c :: R) (hc : isMark c.toNat = true) : cutM s o = ⟨c.toNat, o, str [c]⟩ := by
  have h := tok_mark c R o hc
  rw [cut_nb (by rw [hd]; exact h.2), hd, h.1]
theorem drop_more {s A B : List UInt8} {o : Nat} (h : s.drop o = A ++ B) : s.drop (o + A.length) = B := by rw [← List.drop_drop, h, List.drop_left]
theorem mg_mark (c : UInt8) (R : List UInt8) (h : isMark c.toNat = true) : MG (c :: R) := .inr ⟨c, R, rfl, h⟩
/-- Items with commas between, up to the closing mark. -/
theorem more_back {n : Nat} (hB : BackV n) (c : UInt8) (hc : c = 41 ∨ c = 93 ∨ c = 125) (s G : List UInt8) : ∀ (xs : List Vl) (f : Nat) (its : List Vl) (o q : Nat), xs ≠ [] → (∀ x ∈ xs, formV x = true ∧ deepLe n x ∧ okD n x) → s.drop o = Lib.join (xs.map prV) [44, 32] ++ c :: G → q + (xs.map Vl.size).sum ≤ 4096 → xs.length ≤ f →
    moreM s (valM s n) c.toNat f its (TokAt s o) q = .ok (its ++ xs, cutM s (o + (Lib.join (xs.map prV) [44, 32]).length + 1), q + (xs.map Vl.size).sum) := by
  have hcm : isMark c.toNat = true := by rcases hc with rfl | rfl | rfl <;> rfl
  have hc44 : ¬ ((44 : UInt8).toNat : Int) = (c.toNat : Int) := by rcases hc with rfl | rfl | rfl <;> decide
  intro xs
  induction xs with
  | nil => intro f its o q h; exact absurd rfl h
  | cons x xs ih =>
    intro f its o q _ hx hd hq hf
    obtain ⟨f, rfl⟩ : ∃ k, f = k + 1 := ⟨f - 1, by simp at hf; omega⟩
    obtain ⟨x1, x2, x3⟩ := hx x (by simp)
    simp only [List.map_cons, List.sum_cons] at hq
    cases xs with
    | nil =>
      have hd' : s.drop o = prV x ++ c :: G := by simpa [Lib.join_one] using hd
      have h1 := (hB x s o q (c :: G) x1 x2 x3 hd' (mg_mark c G hcm) (by simp at hq; omega)).1
      have hm := cut_mark (drop_more hd') hcm
      simp only [moreM, h1, hm]
      rw [if_pos trivial, step_mark]
      simp [Lib.join_one]
    | cons y ys =>
      have ej : Lib.join ((x :: y :: ys).map prV) [44, 32] = prV x ++ (44 :: 32 :: Lib.join ((y :: ys).map prV) [44, 32]) := by
        simp only [List.map_cons]
        rw [Lib.join_cons, Lib.join_cons]
        simp [Lib.joinTail]
      have hd' : s.drop o = prV x ++ (44 :: (32 :: (Lib.join ((y :: ys).map prV) [44, 32] ++ c :: G))) := by
        rw [hd, ej]
        simp
      have h1 := (hB x s o q _ x1 x2 x3 hd' (mg_mark 44 _ rfl) (by omega)).1
      have hd1 := drop_more hd'
      have hm := cut_mark hd1 rfl
      have hd2 : s.drop (o + (prV x).length + 1) = 32 :: (Lib.join ((y :: ys).map prV) [44, 32] ++ c :: G) := by rw [← List.drop_drop, hd1]; rfl
      have hd3 : s.drop (o + (prV x).length + 2) = Lib.join ((y :: ys).map prV) [44, 32] ++ c :: G := by rw [show o + (prV x).length + 2 = o + (prV x).length + 1 + 1 by omega, ← List.drop_drop, hd2]; rfl
      obtain ⟨y1, y2, y3⟩ := hx y (by simp)
      have hbl : rowM blankP (Lib.join ((y :: ys).map prV) [44, 32] ++ c :: G) = 0 := by
        have hy : ∃ G', Lib.join ((y :: ys).map prV) [44, 32] ++ c :: G = prV y ++ G' ∧ MG G' := by
          cases ys with
          | nil => exact ⟨c :: G, by simp [Lib.join_one], mg_mark c G hcm⟩
          | cons z zs =>
            refine ⟨44 :: (32 :: (Lib.join ((z :: zs).map prV) [44, 32] ++ c :: G)), ?_, mg_mark 44 _ rfl⟩
            simp only [List.map_cons]
            rw [Lib.join_cons, Lib.join_cons]
            simp [Lib.joinTail]
        obtain ⟨G', e, hG'⟩ := hy
        rw [e]
        exact (hB y s (o + (prV x).length + 2) 0 G' y1 y2 y3 (hd3.trans e) hG' (by simp only [List.map_cons, List.sum_cons] at hq; omega)).2
      have hst : cutM s (o + (prV x).length + 1) = TokAt s (o + (prV x).length + 2) := by
        rw [cut_bl hd2 hbl, TokAt, hd3]
      have h2 := ih f (its ++ [x]) (o + (prV x).length + 2) (q + x.size) (by simp) (fun z hz => hx z (by simp [hz])) hd3 (by simpa [Nat.add_assoc] using hq) (by simp at hf ⊢; omega)
      simp only [moreM, h1, hm]
      rw [if_neg hc44, if_pos (show (((44 : UInt8).toNat : Nat) : Int) = 44 from rfl), step_mark, hst, h2]
      simp only [Except.ok.injEq, Prod.mk.injEq, List.append_assoc, List.singleton_append, true_and]
      refine ⟨?_, by simp only [List.map_cons, List.sum_cons]; omega⟩
      rw [ej]
      simp only [List.length_append, List.length_cons]
      congr 1
      omega
theorem items_back {n : Nat} (hB : BackV n) (c : UInt8) (hc : c = 93 ∨ c = 125) (s G : List UInt8) (xs : List Vl) (o q : Nat) (hx : ∀ x ∈ xs, formV x = true ∧ deepLe n x ∧ okD n x) (hd : s.drop o = Lib.join (xs.map prV) [44, 32] ++ c :: G) (hq : q + (xs.map Vl.size).sum ≤ 4096) :
    itemsM s (valM s n) c.toNat (cutM s o) q = .ok (xs, cutM s (o + (Lib.join (xs.map prV) [44, 32]).length + 1), q + (xs.map Vl.size).sum) := by
  have hcm : isMark c.toNat = true := by rcases hc with rfl | rfl <;> rfl
  cases xs with
  | nil =>
    have hd' : s.drop o = c :: G := by simpa [Lib.join_nil] using hd
    rw [cut_mark hd' hcm]
    unfold itemsM
    rw [if_pos rfl, step_mark]
    simp [Lib.join_nil]
  | cons x xs =>
    obtain ⟨x1, x2, x3⟩ := hx x (by simp)
    have hy : ∃ G', Lib.join ((x :: xs).map prV) [44, 32] ++ c :: G = prV x ++ G' ∧ MG G' := by
      cases xs with
      | nil => exact ⟨c :: G, by simp [Lib.join_one], mg_mark c G hcm⟩
      | cons z zs =>
        refine ⟨44 :: (32 :: (Lib.join ((z :: zs).map prV) [44, 32] ++ c :: G)), ?_, mg_mark 44 _ rfl⟩
        simp only [List.map_cons]
        rw [Lib.join_cons, Lib.join_cons]
        simp [Lib.joinTail]
    obtain ⟨G', e, hG'⟩ := hy
    have hl : (x :: xs).length ≤ ((x :: xs).map Vl.size).sum := by
      have h : ∀ l : List Vl, l.length ≤ (l.map Vl.size).sum := fun l => by
        induction l with
        | nil => simp
        | cons x l ih => have := x.size_pos; simp; omega
      exact h _
    have h0 := hB x s o q G' x1 x2 x3 (hd.trans e) hG' (by simp only [List.map_cons, List.sum_cons] at hq; omega)
    have hst : cutM s o = TokAt s o := by rw [cut_nb (by rw [hd, e]; exact h0.2), TokAt]
    have hb := begins_no (begins_of h0.1)
    have hk : ¬ (TokAt s o).kind = (c.toNat : Int) := by rcases hc with rfl | rfl; exact hb.2.1; exact hb.2.2.1
    rw [hst]
    unfold itemsM
    rw [if_neg hk, more_back hB c (.inr hc) s G (x :: xs) (4097 - q) [] o q (by simp) hx hd hq (by omega)]
    simp
theorem tuple_back {n : Nat} (hB : BackV n) (s G : List UInt8) (xs : List Vl) (o q : Nat) (hx : ∀ x ∈ xs, formV x = true ∧ deepLe n x ∧ okD n x) (hd : s.drop o = (if xs.length = 1 then Lib.join (xs.map prV) [44, 32] ++ [44, 41] else Lib.join (xs.map prV) [44, 32] ++ [41]) ++ G) (hq : q + (xs.map Vl.size).sum ≤ 4096) :
    tupleM s (valM s n) (cutM s o) q = .ok (xs, cutM s (o + (if xs.length = 1 then Lib.join (xs.map prV) [44, 32] ++ [44, 41] else Lib.join (xs.map prV) [44, 32] ++ [41]).length), q + (xs.map Vl.size).sum) := by
  cases xs with
  | nil =>
    have hd' : s.drop o = 41 :: G := by simpa [Lib.join_nil] using hd
    rw [cut_mark hd' rfl]
    unfold tupleM
    rw [if_pos (show (((41 : UInt8).toNat : Nat) : Int) = 41 from rfl), step_mark]
    simp [Lib.join_nil]
  | cons x xs =>
    obtain ⟨x1, x2, x3⟩ := hx x (by simp)
    cases xs with
    | nil =>
      have hd' : s.drop o = prV x ++ (44 :: (41 :: G)) := by simpa [Lib.join_one] using hd
      have h0 := hB x s o q _ x1 x2 x3 hd' (mg_mark 44 _ rfl) (by simp at hq; omega)
      have hst : cutM s o = TokAt s o := by rw [cut_nb (by rw [hd']; exact h0.2), TokAt]
      have hb := begins_no (begins_of h0.1)
      have hd1 := drop_more hd'
      have hm := cut_mark hd1 rfl
      have hd2 : s.drop (o + (prV x).length + 1) = 41 :: G := by rw [← List.drop_drop, hd1]; rfl
      have hm2 := cut_mark hd2 rfl
      rw [hst]
      unfold tupleM
      rw [if_neg hb.1, h0.1]
      simp only [hm]
      rw [if_pos (show (((44 : UInt8).toNat : Nat) : Int) = 44 from rfl), step_mark, hm2, if_pos (show (((41 : UInt8).toNat : Nat) : Int) = 41 from rfl), step_mark]
      simp [Lib.join_one, Nat.add_assoc]
    | cons y ys =>
      have ej : Lib.join ((x :: y :: ys).map prV) [44, 32] = prV x ++ (44 :: 32 :: Lib.join ((y :: ys).map prV) [44, 32]) := by
        simp only [List.map_cons]
        rw [Lib.join_cons, Lib.join_cons]
        simp [Lib.joinTail]
      have hne : ¬ (x :: y :: ys).length = 1 := by simp
      rw [if_neg hne] at hd ⊢
      have hd' : s.drop o = prV x ++ (44 :: (32 :: (Lib.join ((y :: ys).map prV) [44, 32] ++ 41 :: G))) := by
        rw [hd, ej]
        simp
      have h0 := hB x s o q _ x1 x2 x3 hd' (mg_mark 44 _ rfl) (by simp only [List.map_cons, List.sum_cons] at hq; omega)
      have hst0 : cutM s o = TokAt s o := by rw [cut_nb (by rw [hd']; exact h0.2), TokAt]
      have hb := begins_no (begins_of h0.1)
      have hd1 := drop_more hd'
      have hm := cut_mark hd1 rfl
      have hd2 : s.drop (o + (prV x).length + 1) = 32 :: (Lib.join ((y :: ys).map prV) [44, 32] ++ 41 :: G) := by rw [← List.drop_drop, hd1]; rfl
      have hd3 : s.drop (o + (prV x).length + 2) = Lib.join ((y :: ys).map prV) [44, 32] ++ 41 :: G := by rw [show o + (prV x).length + 2 = o + (prV x).length + 1 + 1 by omega, ← List.drop_drop, hd2]; rfl
      obtain ⟨y1, y2, y3⟩ := hx y (by simp)
      have hy : ∃ G', Lib.join ((y :: ys).map prV) [44, 32] ++ 41 :: G = prV y ++ G' ∧ MG G' := by
        cases ys with
        | nil => exact ⟨41 :: G, by simp [Lib.join_one], mg_mark 41 G rfl⟩
        | cons z zs =>
          refine ⟨44 :: (32 :: (Lib.join ((z :: zs).map prV) [44, 32] ++ 41 :: G)), ?_, mg_mark 44 _ rfl⟩
          simp only [List.map_cons]
          rw [Lib.join_cons, Lib.join_cons]
          simp [Lib.joinTail]
      obtain ⟨G', e, hG'⟩ := hy
      have hy0 := hB y s (o + (prV x).length + 2) 0 G' y1 y2 y3 (hd3.trans e) hG' (by simp only [List.map_cons, List.sum_cons] at hq; omega)
      have hbl : rowM blankP (Lib.join ((y :: ys).map prV) [44, 32] ++ 41 :: G) = 0 := by rw [e]; exact hy0.2
      have hst : cutM s (o + (prV x).length + 1) = TokAt s (o + (prV x).length + 2) := by
        rw [cut_bl hd2 hbl, TokAt, hd3]
      have hb2 := begins_no (begins_of hy0.1)
      have hl : (y :: ys).length ≤ ((y :: ys).map Vl.size).sum := by
        have h : ∀ l : List Vl, l.length ≤ (l.map Vl.size).sum := fun l => by
          induction l with
          | nil => simp
          | cons x l ih => have := x.size_pos; simp; omega
        exact h _
      have hq' : q + x.size + ((y :: ys).map Vl.size).sum ≤ 4096 := by
        simp only [List.map_cons, List.sum_cons] at hq ⊢
        omega
      have h2 := more_back hB 41 (.inl rfl) s G (y :: ys) (4097 - (q + x.size)) [x] (o + (prV x).length + 2) (q + x.size) (by simp) (fun z hz => hx z (List.mem_cons_of_mem _ hz)) hd3 hq' (by omega)
      rw [hst0]
      unfold tupleM
      rw [if_neg hb.1, h0.1]
      simp only [hm]
      rw [if_pos (show (((44 : UInt8).toNat : Nat) : Int) = 44 from rfl), step_mark, hst, if_neg hb2.1]
      refine h2.trans ?_
      simp only [Except.ok.injEq, Prod.mk.injEq, List.singleton_append, true_and]
      refine ⟨?_, by simp only [List.map_cons, List.sum_cons]; omega⟩
      rw [ej]
      simp only [List.length_append, List.length_cons, List.length_nil]
      congr 1
      omega
theorem size_leaf0 (k i m : Int) (t : ByteArray) : (⟨k, i, m, t, []⟩ : Vl).size = 1 := by rw [Vl.size_eq]; rfl
theorem no_mark_kind : begins 40 = true ∧ begins 91 = true ∧ begins 123 = true ∧ begins 97 = true ∧ begins 48 = true ∧ begins 105 = true := by decide
theorem back_step {n : Nat} (hB : BackV n) : BackV (n + 1) := by
  intro v s o q G hf hdp hok hd hG hq
  obtain ⟨hu, hg⟩ := form_used hf
  obtain ⟨u1, u2, u3, u4⟩ := used_parts hu
  obtain ⟨⟨o1, o2, o3⟩, hok2⟩ := hok
  have hsz := Vl.size_eq v
  have hit : ∀ x ∈ v.items, formV x = true ∧ deepLe n x ∧ okD n x := fun x hx => ⟨formV_item hf hx, hdp x hx, hok2 x hx⟩
  have ht : v.kind ≠ 4 → v.text = ⟨#[]⟩ := fun h => text_nil (u3.resolve_right h)
  have hi : v.kind ≠ 5 ∧ v.kind ≠ 6 ∧ v.kind ≠ 7 → v.items = [] := fun h => u4.resolve_right (by omega)
  obtain ⟨k, i, m, tx, l⟩ := v
  simp only at *
  have hq1 : ¬ 4096 < q + 1 := by omega
  obtain ⟨b1, b2, b3, b4, b5, b6⟩ := no_mark_kind
  have hstep : ∀ (kk : Int) (T : List UInt8), stepM s ⟨kk, o, str T⟩ = cutM s (o + T.length) := fun kk T => by unfold stepM; rw [str_size]
  rcases good_kind hg with k1 | k1 | k1 | k1 | k1 | k1 | k1
  · simp only at k1
    subst k1
    obtain rfl := hi (by omega)
    obtain rfl := ht (by omega)
    have e2 : m = 0 := by omega
    subst e2
    have hb : i = 0 ∨ i = 1 := by
      unfold goodB at hg
      rw [if_neg (by simp), if_pos rfl] at hg
      simpa using hg
    rcases hb with rfl | rfl
    · rw [pr_false] at hd ⊢
      obtain ⟨t1, t2⟩ := tok_name [102, 97, 108, 115, 101] G o (by decide) hG
      refine ⟨?_, t2⟩
      unfold TokAt
      rw [hd, t1]
      simp only [valM, b4, if_true, nameM]
      rw [if_neg hq1, if_neg (by decide), if_neg (by decide), if_neg (by decide), Lib.toList_data, bytes_str, if_neg (by decide), if_pos rfl, hstep]
      simp [size_leaf0]
    · rw [pr_true] at hd ⊢
      obtain ⟨t1, t2⟩ := tok_name [116, 114, 117, 101] G o (by decide) hG
      refine ⟨?_, t2⟩
      unfold TokAt
      rw [hd, t1]
      simp only [valM, b4, if_true, nameM]
      rw [if_neg hq1, if_neg (by decide), if_neg (by decide), if_neg (by decide), Lib.toList_data, bytes_str, if_pos rfl, hstep]
      simp [size_leaf0]
  · simp only at k1
    subst k1
    obtain rfl := hi (by omega)
    obtain rfl := ht (by omega)
    have e2 : m = 0 := by omega
    subst e2
    rw [pr_int] at hd ⊢
    obtain ⟨t1, t2⟩ := tok_num i G o hG
    obtain ⟨n1, n2⟩ := num_back i o2.1 o2.2
    refine ⟨?_, t2⟩
    unfold TokAt
    rw [hd, t1]
    simp only [valM, b5, if_true]
    rw [if_neg hq1, if_neg (by decide), if_neg (by decide), if_neg (by decide), if_neg (by decide), if_neg (by decide), bytes_str, n1, n2, if_neg (by decide), hstep]
    simp [size_leaf0]
  · simp only at k1
    subst k1
    obtain rfl := hi (by omega)
    obtain rfl := ht (by omega)
    have hgb : gaussB i m = true := by
      unfold goodB at hg
      rw [if_neg (by simp), if_neg (by simp), if_neg (by simp), if_pos rfl] at hg
      exact hg
    rw [pr_gauss, gauss_text] at hd ⊢
    obtain ⟨t1, t2⟩ := tok_gauss i m G o
    refine ⟨?_, t2⟩
    unfold TokAt
    rw [hd, t1]
    simp only [valM, b6, if_true]
    rw [if_neg hq1, if_neg (by decide), if_neg (by decide), if_neg (by decide), if_neg (by decide), gaussM_back i m o hgb, hstep]
    simp [size_leaf0]
  · simp only at k1
    subst k1
    obtain rfl := hi (by omega)
    have e1 : i = 0 := by omega
    have e2 : m = 0 := by omega
    subst e1 e2
    have hsy : symB tx = true := by
      unfold goodB at hg
      rw [if_neg (by simp), if_neg (by simp), if_pos rfl] at hg
      exact hg
    have hs3 := hsy
    simp only [symB, Bool.and_eq_true, Bool.not_eq_true', beq_eq_false_iff_ne, beq_iff_eq, ne_eq] at hs3
    obtain ⟨⟨s1, s2⟩, s3⟩ := hs3
    rw [pr_sym] at hd ⊢
    obtain ⟨t1, t2⟩ := tok_name tx.data.toList G o s3 hG
    refine ⟨?_, t2⟩
    unfold TokAt
    rw [hd, t1]
    have est : str tx.data.toList = tx := str_bytes tx
    simp only [valM, b4, if_true, nameM]
    rw [hstep, est, if_neg hq1, if_neg (by decide), if_neg (by decide), if_neg (by decide), if_neg s1, if_neg s2, if_pos hsy]
    simp [size_leaf0]
  · simp only at k1
    subst k1
    obtain rfl := ht (by omega)
    have e1 : i = 0 := by omega
    have e2 : m = 0 := by omega
    subst e1 e2
    have ep : prV ⟨5, 0, 0, ⟨#[]⟩, l⟩ = 40 :: (if l.length = 1 then Lib.join (l.map prV) [44, 32] ++ [44, 41] else Lib.join (l.map prV) [44, 32] ++ [41]) := by
      by_cases h1 : l.length = 1
      · rw [pr_one _ _ _ _ h1, if_pos h1]; rfl
      · rw [pr_tuple _ _ _ _ h1, if_neg h1]; rfl
    rw [ep, List.cons_append] at hd
    rw [ep, List.cons_append]
    obtain ⟨t1, t2⟩ := tok_mark 40 ((if l.length = 1 then Lib.join (l.map prV) [44, 32] ++ [44, 41] else Lib.join (l.map prV) [44, 32] ++ [41]) ++ G) o rfl
    refine ⟨?_, t2⟩
    have hd1 : s.drop (o + 1) = (if l.length = 1 then Lib.join (l.map prV) [44, 32] ++ [44, 41] else Lib.join (l.map prV) [44, 32] ++ [41]) ++ G := by rw [← List.drop_drop, hd]; rfl
    have hT := tuple_back hB s G l (o + 1) (q + 1) hit hd1 (by omega)
    unfold TokAt
    rw [hd, t1]
    have e40 : (((40 : UInt8).toNat : Nat) : Int) = 40 := by decide
    rw [e40]
    simp only [valM, b1, if_true]
    rw [if_neg hq1, step_mark, hT]
    simp only [Except.ok.injEq, Prod.mk.injEq, true_and, List.length_cons]
    refine ⟨?_, by rw [hsz]; omega⟩
    congr 1
    omega
  · simp only at k1
    subst k1
    obtain rfl := ht (by omega)
    have e1 : i = 0 := by omega
    have e2 : m = 0 := by omega
    subst e1 e2
    rw [pr_list] at hd ⊢
    have hd' : s.drop o = 91 :: (Lib.join (l.map prV) [44, 32] ++ 93 :: G) := by rw [hd]; simp
    have eg : 91 :: Lib.join (l.map prV) [44, 32] ++ [93] ++ G = 91 :: (Lib.join (l.map prV) [44, 32] ++ 93 :: G) := by simp
    obtain ⟨t1, t2⟩ := tok_mark 91 (Lib.join (l.map prV) [44, 32] ++ 93 :: G) o rfl
    rw [eg]
    refine ⟨?_, t2⟩
    have hd1 : s.drop (o + 1) = Lib.join (l.map prV) [44, 32] ++ 93 :: G := by rw [← List.drop_drop, hd']; rfl
    have hT := items_back hB 93 (.inl rfl) s G l (o + 1) (q + 1) hit hd1 (by omega)
    unfold TokAt
    rw [hd', t1]
    have e91 : (((91 : UInt8).toNat : Nat) : Int) = 91 := by decide
    have e93 : (((93 : UInt8).toNat : Nat) : Int) = 93 := by decide
    rw [e93] at hT
    rw [e91]
    simp only [valM, b2, if_true]
    rw [if_neg hq1, if_neg (by decide), step_mark, hT]
    simp only [Except.ok.injEq, Prod.mk.injEq, true_and, List.length_cons, List.length_append, List.length_nil]
    refine ⟨?_, by rw [hsz]; omega⟩
    congr 1
    omega
  · simp only at k1
    subst k1
    obtain rfl := ht (by omega)
    have e1 : i = 0 := by omega
    have e2 : m = 0 := by omega
    subst e1 e2
    have hri : Rises l := by
      rw [formV_eq] at hf
      simp only [Bool.and_eq_true, Bool.or_eq_true, bne_iff_ne] at hf
      exact riseB_risesV (hf.2.2.resolve_left (by simp))
    rw [pr_set] at hd ⊢
    have hd' : s.drop o = 123 :: (Lib.join (l.map prV) [44, 32] ++ 125 :: G) := by rw [hd]; simp
    have eg : 123 :: Lib.join (l.map prV) [44, 32] ++ [125] ++ G = 123 :: (Lib.join (l.map prV) [44, 32] ++ 125 :: G) := by simp
    obtain ⟨t1, t2⟩ := tok_mark 123 (Lib.join (l.map prV) [44, 32] ++ 125 :: G) o rfl
    rw [eg]
    refine ⟨?_, t2⟩
    have hd1 : s.drop (o + 1) = Lib.join (l.map prV) [44, 32] ++ 125 :: G := by rw [← List.drop_drop, hd']; rfl
    have hT := items_back hB 125 (.inr rfl) s G l (o + 1) (q + 1) hit hd1 (by omega)
    unfold TokAt
    rw [hd', t1]
    have e123 : (((123 : UInt8).toNat : Nat) : Int) = 123 := by decide
    have e125 : (((125 : UInt8).toNat : Nat) : Int) = 125 := by decide
    rw [e125] at hT
    rw [e123]
    simp only [valM, b3, if_true]
    rw [if_neg hq1, if_neg (by decide), if_neg (by decide), step_mark, hT]
    simp only [Except.ok.injEq, Prod.mk.injEq, true_and, List.length_cons, List.length_append, List.length_nil, setV_self hri]
    refine ⟨?_, by rw [hsz]; omega⟩
    congr 1
    omega
theorem back_zero : BackV 0 := fun _ _ _ _ _ _ h => h.elim
theorem back_all : ∀ n, BackV n
  | 0 => back_zero
  | n + 1 => back_step (back_all n)
/-- What is printed of a right value is read as it. -/
theorem parM_back (v : Vl) (hr : rightV v = true) (hok : okD 16 v) : parM (prV v) = .ok v := by
  obtain ⟨h1, h2, h3⟩ := (rightV_is v).1 hr
  obtain ⟨hv, hb⟩ := back_all 16 v (prV v) 0 0 [] h3 h2 hok (by simp) (.inl rfl) (by omega)
  rw [List.append_nil] at hb
  unfold parM
  rw [cut_nb (by simpa using hb)]
  unfold TokAt at hv
  rw [hv]
  have hd : (prV v).drop (0 + (prV v).length) = [] := by simp
  have hc : cutM (prV v) (0 + (prV v).length) = ⟨-1, 0 + (prV v).length, ⟨#[]⟩⟩ := by
    rw [cut_nb (by rw [hd]; rfl), hd]
    rfl
  simp only [hc]
  rfl
end Go.Proofs.YthmhcpghfbifiaaGreatDoor
