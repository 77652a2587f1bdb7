/- The document's names; the walk of the statement on names. -/
import Derived.Test.YthpkjehoogodkaaDoorZTRefName
import Derived.Test.YthpkjehoogodkaaDoorZTRefCells
namespace Go.Proofs.YthpkjehoogodkaaDoor
open Go.RowKit

/-- Is a list of runes a name? -/
def okN : List (Int × Nat × Nat) → Bool
  | [] => false
  | y :: t => decide (t.length + 1 ≤ 32) && isLet y.1 && t.all fun z => isRest z.1
theorem isLetter_raw (r : Int) : isLetter (raw r) = isLetter r := by
  unfold raw
  split
  · rw [Bool.eq_iff_iff]
    unfold isLetter
    simp [spans, inSpan]
    omega
  · rfl
theorem mayF_raw (r : Int) : mayF (raw r) = mayF r := by
  unfold raw
  split
  · rw [Bool.eq_iff_iff]
    unfold mayF
    simp
    omega
  · rfl
theorem okR_rest : ∀ (off : Nat) (t : List (Int × Nat)), okR false t = (rsT off t).all fun z => isRest z.1
  | _, [] => rfl
  | off, (r, k) :: t => by
    rw [okR, rsT, List.all_cons, okR_rest (off + k) t, isRest_eq, isLetter_raw, mayF_raw]
    rfl
theorem name_doc (l : List UInt8) : ((nameE l == 0) = okN (rs l)) ∧ (nameE l = 0 ∨ nameE l = 21) := by
  unfold nameE rs
  by_cases h0 : l = []
  · subst h0
    rw [if_pos (.inl rfl)]
    exact ⟨rfl, .inr rfl⟩
  rw [ru_step l h0, rsT]
  by_cases h1 : 32 < ((rv l, wd l) :: ru (l.drop (wd l))).length
  · rw [if_pos (.inr h1)]
    refine ⟨?_, .inr rfl⟩
    rw [List.length_cons] at h1
    have e : decide ((rsT (0 + wd l) (ru (l.drop (wd l)))).length + 1 ≤ 32) = false := by
      rw [rsT_length]
      simp
      omega
    rw [okN, e]
    rfl
  · rw [if_neg (by rintro (h | h); exact h0 h; exact h1 h)]
    rw [List.length_cons] at h1
    have e : decide ((rsT (0 + wd l) (ru (l.drop (wd l)))).length + 1 ≤ 32) = true := by
      rw [rsT_length]
      simpa using h1
    rw [okN, e, okR, okR_rest (0 + wd l), isLetter_raw, isLet_eq]
    simp only [Bool.not_true, Bool.false_and, Bool.or_false, Bool.true_and]
    cases h : (isLetter (rv l) && (rsT (0 + wd l) (ru (l.drop (wd l)))).all fun z => isRest z.1)
    · exact ⟨rfl, .inr rfl⟩
    · exact ⟨rfl, .inl rfl⟩

set_option maxRecDepth 100000 in
set_option maxHeartbeats 2000000 in
theorem refName_k (s : ByteArray) (hs : s.size ≤ 1048576) (w : World) :
    Calls Tryd.prog 57 #[.string s] w fun e w' => e = .returned (.bool (okN (rs s.data.toList))) ∧ Below w.heap.size w w' := by
  have h := refRunes_cells s hs w
  have hle := rs_le s
  have hlet := refLetter_k
  have hrest := refRest_k
  generalize rs s.data.toList = x at *
  match x, hle, h with
  | [], _, h =>
    go_enter Tryd.func57, Tryd.ntmps57
    go_wp2_with (go_at_call 19; refine h.mono ?_; rintro e w1 ⟨a, c, rfl, _, hb⟩)
    go_ret
    exact ⟨rfl, hb⟩
  | y :: t, hle, h =>
    rw [okN]
    rw [List.length_cons] at h hle
    by_cases h32 : t.length + 1 ≤ 32
    · have e32 : decide (t.length + 1 ≤ 32) = true := by simpa using h32
      have h32' : ¬ (32 : Int) < (t.length : Int) + 1 := by omega
      rw [e32, Bool.true_and]
      cases hl0 : isLet y.1 with
      | false =>
        rw [Bool.false_and]
        have hl1 := hlet y.1
        rw [hl0] at hl1
        clear hl0 hlet hrest e32
        go_enter Tryd.func57, Tryd.ntmps57
        go_wp2_with (first
          | (go_at_call 19; refine h.mono ?_; rintro e w1 ⟨a, c, rfl, hx, hb⟩; obtain ⟨g, rfl, c0, _, _⟩ := hx 0 (by simp); simp only [List.getElem_cons_zero, Nat.zero_mul] at c0; clear hx)
          | (go_at_call 42; refine (hl1 _).mono ?_; rintro e w2 ⟨rfl, rfl⟩))
        go_ret
        exact ⟨rfl, hb⟩
      | true =>
        rw [Bool.true_and]
        have hl1 := hlet y.1
        rw [hl0] at hl1
        clear hl0 hlet e32
        go_enter Tryd.func57, Tryd.ntmps57
        go_wp2_with (first
          | (go_at_call 19; refine h.mono ?_; rintro e w1 ⟨a, c, rfl, hx, hb⟩; obtain ⟨g, rfl, c0, _, _⟩ := hx 0 (by simp); simp only [List.getElem_cons_zero, Nat.zero_mul] at c0; have HX := hide hx; clear hx)
          | (go_at_call 42; refine (hl1 _).mono ?_; rintro e w2 ⟨rfl, rfl⟩))
        clear c0 hl1 h
        go_loopw [4] (fun vi wr => ∃ i : Nat, vi = .int .i64 (i : Int) ∧ 1 ≤ i ∧ i ≤ t.length + 1 ∧ (t.all fun z => isRest z.1) = (((y :: t).drop i).all fun z => isRest z.1) ∧ wr = w1) (fun v _ => t.length + 1 - (Lib.intOf v).toNat)
        case atStart => exact ⟨1, rfl, Nat.le_refl _, by omega, rfl, rfl⟩
        case round =>
          obtain ⟨i, rfl, hi1, hi2, hall, rfl⟩ := hrel
          by_cases hlt : i < t.length + 1
          · obtain ⟨g', e, c0, _, _⟩ := HX.out i (by simpa using hlt)
            cases e
            rw [List.drop_eq_getElem_cons (by simpa using hlt), List.all_cons] at hall
            generalize (y :: t)[i] = z at *
            have hr1 := hrest z.1
            cases hz : isRest z.1 with
            | false =>
              rw [hz] at hr1 hall
              rw [Bool.false_and] at hall
              have HALL := hide hall
              clear hrest hz HX hall
              go_wp2_with (go_at_call 58; refine (hr1 _).mono ?_; rintro e w3 ⟨rfl, rfl⟩)
              go_ret
              rw [HALL.out]
              exact ⟨rfl, hb⟩
            | true =>
              rw [hz] at hr1 hall
              rw [Bool.true_and] at hall
              have HALL := hide hall
              clear hrest hz HX hall
              go_wp2_with (go_at_call 58; refine (hr1 _).mono ?_; rintro e w3 ⟨rfl, rfl⟩)
              go_roundw
              case rel => exact ⟨i + 1, by simp, by omega, by omega, HALL.out, trivial⟩
              case measure =>
                simp [Lib.intOf]
                omega
          · have hie : i = t.length + 1 := by omega
            rw [hie, List.drop_of_length_le (by simp)] at hall
            have HALL := hide hall
            clear hrest HX hall
            go_wp2
            go_ret
            rw [HALL.out]
            exact ⟨rfl, hb⟩
    · have e32 : decide (t.length + 1 ≤ 32) = false := by simpa using h32
      have h32' : (32 : Int) < (t.length : Int) + 1 := by omega
      rw [e32, Bool.false_and, Bool.false_and]
      clear hlet hrest e32
      go_enter Tryd.func57, Tryd.ntmps57
      go_wp2_with (go_at_call 19; refine h.mono ?_; rintro e w1 ⟨a, c, rfl, _, hb⟩)
      go_ret
      exact ⟨rfl, hb⟩

end Go.Proofs.YthpkjehoogodkaaDoor
