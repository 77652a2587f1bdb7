/- What is quoted is read again, by the program and by the document. -/
import Derived.Test.YtpbebcefnkbnlabDoorTQuoteMath
namespace Go.Proofs.YtpbebcefnkbnlabDoor
open Go.RowKit

theorem dgt_hexd : ∀ n, n < 16 → dgt (hexd n) = n ∧ (hexd n).toNat < 128 := by decide
theorem une_skip (sk : Nat) (b : UInt8) (t : List UInt8) (hb : b.toNat < 128) : une (sk + 1) (b :: t) = une sk t := by
  have h := rv_ascii b t hb
  rw [une_step _ _ (by simp), if_pos (by omega), h.2]
  rfl
theorem une_92 (t : List UInt8) : une 0 (92 :: t) = escC (92 :: t) :: une (escN (92 :: t) - 1) t := by
  have h := rv_ascii 92 t (by decide)
  rw [une_step _ _ (by simp), if_neg (by omega), if_pos (by rw [h.1]; rfl), h.2]
  rfl
theorem pfx2 (a b c d : UInt8) (t : List UInt8) : Lib.hasPrefix (a :: b :: t) [c, d] = (a == c && b == d) := by
  unfold Lib.hasPrefix
  simp only [List.isPrefixOf]
  rw [show (c == a) = (a == c) from by rw [Bool.eq_iff_iff]; simp; exact eq_comm, show (d == b) = (b == d) from by rw [Bool.eq_iff_iff]; simp; exact eq_comm]
  simp
theorem head_take (l : List UInt8) (hl : l ≠ []) (h : wd l = 1) : l.take (wd l) = [l.getD 0 0] := by
  rw [h]
  cases l with
  | nil => exact absurd rfl hl
  | cons a t => simp
theorem wd_low (l : List UInt8) (hl : l ≠ []) (h : rv l < 128) : wd l = 1 := by
  obtain ⟨d, t, rfl⟩ : ∃ c t, l = c :: t := by cases l with | nil => exact absurd rfl hl | cons c t => exact ⟨c, t, rfl⟩
  by_cases hd : d.toNat < 128
  · exact (rv_ascii d t hd).2
  · rcases rv_high d t (by omega) with e | e
    · exact rv_neg_wd _ (by omega)
    · omega
theorem or_hex (b : Nat) (h : b < 256) : (b / 16 * 16 % 256 ||| b % 16) = b := by
  have e : b / 16 * 16 % 256 = 2 ^ 4 * (b / 16) := by omega
  rw [e, ← Nat.two_pow_add_eq_or_of_lt (by omega : b % 16 < 2 ^ 4)]
  omega
theorem une_fl : ∀ l : List UInt8, une 0 (fl l) = l := by
  refine ru_ind rfl ?_
  intro l hl ih
  have htd := List.take_append_drop (wd l) l
  rw [fl_step l hl]
  generalize fl (l.drop (wd l)) = F at *
  suffices h : une 0 (pc l ++ F) = l.take (wd l) ++ une 0 F by rw [h, ih, htd]
  unfold pc
  by_cases h1 : rv l = 34 ∨ rv l = 92
  · rw [if_pos h1, head_take l hl (wd_low l hl (by omega))]
    have hb : (l.getD 0 0).toNat = 34 ∨ (l.getD 0 0).toNat = 92 := by
      rcases h1 with h1 | h1
      · exact .inl (low_byte l hl 34 (by decide) h1)
      · exact .inr (low_byte l hl 92 (by decide) h1)
    generalize l.getD 0 0 = b at *
    show une 0 (92 :: b :: F) = b :: une 0 F
    have p1 : Lib.hasPrefix (92 :: b :: F) [92, 110] = false := by
      rw [pfx2]
      have : (b == 110) = false := beq_eq_false_iff_ne.2 (fun e => by rw [e] at hb; exact absurd hb (by decide))
      rw [this, Bool.and_false]
    have p2 : Lib.hasPrefix (92 :: b :: F) [92, 120] = false := by
      rw [pfx2]
      have : (b == 120) = false := beq_eq_false_iff_ne.2 (fun e => by rw [e] at hb; exact absurd hb (by decide))
      rw [this, Bool.and_false]
    have eC : escC (92 :: b :: F) = b := by
      unfold escC
      rw [p1, p2, if_neg (by decide), if_neg (fun h => by cases h.1), if_pos (by simp)]
      rfl
    have eN : escN (92 :: b :: F) = 2 := by
      unfold escN
      rw [p1, p2, if_neg (by decide), if_neg (fun h => by cases h.1), if_pos (by simp)]
    rw [une_92, eC, eN]
    exact congrArg _ (une_skip 0 b F (by omega))
  · rw [if_neg h1]
    by_cases h2 : rv l = 10
    · rw [if_pos h2, head_take l hl (wd_low l hl (by omega))]
      have hb := low_byte l hl 10 (by decide) h2
      have hb' : l.getD 0 0 = 10 := UInt8.toNat_inj.1 hb
      rw [hb']
      show une 0 (92 :: 110 :: F) = 10 :: une 0 F
      have p1 : Lib.hasPrefix (92 :: 110 :: F) [92, 110] = true := by rw [pfx2]; rfl
      have eC : escC (92 :: 110 :: F) = 10 := by unfold escC; rw [p1, if_pos rfl]
      have eN : escN (92 :: 110 :: F) = 2 := by unfold escN; rw [p1, if_pos rfl]
      rw [une_92, eC, eN]
      exact congrArg _ (une_skip 0 110 F (by decide))
    · rw [if_neg h2]
      by_cases h3 : rv l < 32 ∨ rv l = 127
      · rw [if_pos h3, head_take l hl (wd_low l hl (by omega))]
        generalize l.getD 0 0 = b at *
        have hb := b.toNat_lt
        obtain ⟨d1, d2⟩ := dgt_hexd (b.toNat / 16) (by omega)
        obtain ⟨d3, d4⟩ := dgt_hexd (b.toNat % 16) (by omega)
        generalize hexd (b.toNat / 16) = x1 at *
        generalize hexd (b.toNat % 16) = x2 at *
        show une 0 (92 :: 120 :: x1 :: x2 :: F) = b :: une 0 F
        have p1 : Lib.hasPrefix (92 :: 120 :: x1 :: x2 :: F) [92, 110] = false := by rw [pfx2]; rfl
        have p2 : Lib.hasPrefix (92 :: 120 :: x1 :: x2 :: F) [92, 120] = true := by rw [pfx2]; rfl
        have eC : escC (92 :: 120 :: x1 :: x2 :: F) = b := by
          unfold escC
          rw [p1, p2, if_neg (by decide), if_pos ⟨rfl, by simp⟩]
          simp only [List.getD_cons_succ, List.getD_cons_zero, d1, d3]
          rw [or_hex _ hb]
          simp
        have eN : escN (92 :: 120 :: x1 :: x2 :: F) = 4 := by
          unfold escN
          rw [p1, p2, if_neg (by decide), if_pos ⟨rfl, by simp⟩]
        rw [une_92, eC, eN]
        refine congrArg _ ?_
        show une (2 + 1) (120 :: x1 :: x2 :: F) = une 0 F
        rw [une_skip 2 120 _ (by decide), une_skip 1 x1 _ d2, une_skip 0 x2 _ d4]
      · rw [if_neg h3]
        obtain ⟨e1, e2⟩ := dec_take l F hl (by omega)
        have hne : l.take (wd l) ++ F ≠ [] := by
          intro e
          have := congrArg List.length e
          have hw := wd_le l hl
          have hp := wd_pos l
          rw [List.length_append, List.length_take, List.length_nil] at this
          omega
        have hw := wd_le l hl
        rw [une_step 0 _ hne, if_neg (Nat.lt_irrefl 0), e1, e2, if_neg (show ¬ rv l = 92 by omega)]
        have er : raw (rv l) = rv l := by unfold raw; rw [if_neg (by omega)]
        rw [er, rv_encode l hl (by omega), List.drop_left' (by rw [List.length_take]; omega)]
theorem un_qt (l : List UInt8) : unT (qt l) = l ∧ unE (qt l) = 0 := by
  unfold unT unE
  rw [ins_qt, une_fl, if_pos rfl, if_pos rfl]
  exact ⟨rfl, rfl⟩
theorem un_ok (t : List UInt8) (h : unE t = 0) : qt (unT t) = t := by
  unfold unE at h
  unfold unT
  by_cases he : qt (une 0 (ins t)) = t
  · rw [if_pos he]
    exact he
  · rw [if_neg he] at h
    omega
theorem un_no (t : List UInt8) (h : ∀ x, qt x ≠ t) : unT t = [] ∧ unE t = 24 := by
  unfold unT unE
  rw [if_neg (h _), if_neg (h _)]
  exact ⟨rfl, rfl⟩

/-- The number of a digit; -1: none. -/
def hx (b : UInt8) : Int := if 48 ≤ b.toNat ∧ b.toNat ≤ 57 then (b.toNat : Int) - 48 else if 97 ≤ b.toNat ∧ b.toNat ≤ 102 then (b.toNat : Int) - 87 else -1
theorem hx_hexd : ∀ n, n < 16 → hx (hexd n) = (n : Int) := by decide
/-- What the document reads of what stands inside of the quotes. -/
def rp (l : List UInt8) : Option (List UInt8) :=
  match l with
  | [] => some []
  | b :: t =>
    if b ≠ 92 then (rp t).map (b :: ·)
    else match t with
      | [] => none
      | c :: t' =>
        if c = 34 ∨ c = 92 then (rp t').map (c :: ·)
        else if c = 110 then (rp t').map ((10 : UInt8) :: ·)
        else if c = 120 then
          (if 2 ≤ t'.length then (if hx (t'.getD 0 0) < 0 ∨ hx (t'.getD 1 0) < 0 then none else (rp (t'.drop 2)).map ((16 * hx (t'.getD 0 0) + hx (t'.getD 1 0)).toNat.toUInt8 :: ·)) else none)
        else none
termination_by l.length
decreasing_by
  all_goals simp only [List.length_cons, List.length_drop]
  all_goals omega
theorem rp_nil : rp [] = some [] := by rw [rp.eq_def]
theorem rp_plain (b : UInt8) (t : List UInt8) (h : b ≠ 92) : rp (b :: t) = (rp t).map (b :: ·) := by
  rw [rp.eq_def]
  dsimp only
  rw [if_pos h]
theorem rp_end : rp [92] = none := by
  rw [rp.eq_def]
  dsimp only
  rw [if_neg (by simp)]
theorem rp_esc (c : UInt8) (t : List UInt8) : rp (92 :: c :: t) = if c = 34 ∨ c = 92 then (rp t).map (c :: ·)
    else if c = 110 then (rp t).map ((10 : UInt8) :: ·)
    else if c = 120 then (if 2 ≤ t.length then (if hx (t.getD 0 0) < 0 ∨ hx (t.getD 1 0) < 0 then none else (rp (t.drop 2)).map ((16 * hx (t.getD 0 0) + hx (t.getD 1 0)).toNat.toUInt8 :: ·)) else none)
    else none := by
  rw [rp.eq_def]
  dsimp only
  rw [if_neg (by simp)]
theorem rp_plains : ∀ (m t : List UInt8), (∀ b ∈ m, b ≠ 92) → rp (m ++ t) = (rp t).map (m ++ ·)
  | [], t, _ => by simp
  | b :: m, t, h => by
    rw [List.cons_append, rp_plain b _ (h b (by simp)), rp_plains m t (fun c hc => h c (by simp [hc])), Option.map_map]
    rfl
theorem rp_fl : ∀ l : List UInt8, rp (fl l) = some l := by
  refine ru_ind rp_nil ?_
  intro l hl ih
  have htd := List.take_append_drop (wd l) l
  rw [fl_step l hl]
  generalize fl (l.drop (wd l)) = F at *
  suffices h : rp (pc l ++ F) = (rp F).map (l.take (wd l) ++ ·) by rw [h, ih, Option.map_some, htd]
  unfold pc
  by_cases h1 : rv l = 34 ∨ rv l = 92
  · rw [if_pos h1, head_take l hl (wd_low l hl (by omega))]
    have hb : l.getD 0 0 = 34 ∨ l.getD 0 0 = 92 := by
      rcases h1 with h1 | h1
      · exact .inl (UInt8.toNat_inj.1 (low_byte l hl 34 (by decide) h1))
      · exact .inr (UInt8.toNat_inj.1 (low_byte l hl 92 (by decide) h1))
    generalize l.getD 0 0 = b at *
    show rp (92 :: b :: F) = (rp F).map (b :: ·)
    rw [rp_esc, if_pos hb]
  · rw [if_neg h1]
    by_cases h2 : rv l = 10
    · rw [if_pos h2, head_take l hl (wd_low l hl (by omega))]
      have hb' : l.getD 0 0 = 10 := UInt8.toNat_inj.1 (low_byte l hl 10 (by decide) h2)
      rw [hb']
      show rp (92 :: 110 :: F) = (rp F).map ((10 : UInt8) :: ·)
      rw [rp_esc, if_neg (by decide), if_pos rfl]
    · rw [if_neg h2]
      by_cases h3 : rv l < 32 ∨ rv l = 127
      · rw [if_pos h3, head_take l hl (wd_low l hl (by omega))]
        generalize l.getD 0 0 = b at *
        have hb := b.toNat_lt
        have d1 := hx_hexd (b.toNat / 16) (by omega)
        have d3 := hx_hexd (b.toNat % 16) (by omega)
        generalize hexd (b.toNat / 16) = x1 at *
        generalize hexd (b.toNat % 16) = x2 at *
        show rp (92 :: 120 :: x1 :: x2 :: F) = (rp F).map (b :: ·)
        rw [rp_esc, if_neg (by decide), if_neg (by decide), if_pos rfl, if_pos (by simp)]
        simp only [List.getD_cons_zero, List.getD_cons_succ, d1, d3]
        rw [if_neg (by omega)]
        have e : ((16 * ((b.toNat / 16 : Nat) : Int) + ((b.toNat % 16 : Nat) : Int)).toNat) = b.toNat := by omega
        rw [e]
        simp
      · rw [if_neg h3]
        exact rp_plains _ _ (take_low 92 (by decide) l hl (by intro e; exact h1 (.inr e)))
end Go.Proofs.YtpbebcefnkbnlabDoor
