/- Texts put together: what is cut off stays what it was, if a blank or nothing follows. -/
import Derived.Test.YthpkjehoogodkaaDoorZKSp
import Derived.Test.YthpkjehoogodkaaDoorZTDecWalk
namespace Go.Proofs.YthpkjehoogodkaaDoor
open Go.RowKit

theorem decN_app (n n' b0 b1 b2 b3 c1 c2 c3 : Nat) (hne : Lib.decodeN n b0 b1 b2 b3 ≠ (65533, 1)) (hn : n ≤ n') (h1 : 1 < n → c1 = b1) (h2 : 2 < n → c2 = b2) (h3 : 3 < n → c3 = b3) : Lib.decodeN n' b0 c1 c2 c3 = Lib.decodeN n b0 b1 b2 b3 := by
  rcases Lib.decodeN_shape n b0 b1 b2 b3 with ⟨c, e⟩ | ⟨q1, q2, q3, cv, e⟩ | ⟨q1, q2, q3, q4, cv, cs, e⟩ | ⟨q1, q2, q3, q4, q5, cv, cw, e⟩ | e
  · rw [e, Lib.decodeN_ascii _ _ _ _ _ c]
  · rw [e]
    have := h1 q2
    subst this
    unfold Lib.decodeN
    repeat' split
    all_goals first
      | (exfalso; omega)
      | rfl
  · rw [e]
    have := h1 (by omega)
    have := h2 q2
    subst c1 c2
    unfold Lib.decodeN
    repeat' split
    all_goals first
      | (exfalso; omega)
      | rfl
  · rw [e]
    have := h1 (by omega)
    have := h2 (by omega)
    have := h3 q2
    subst c1 c2 c3
    unfold Lib.decodeN
    repeat' split
    all_goals first
      | (exfalso; omega)
      | rfl
  · exact absurd e hne
theorem getD_app (l G : List UInt8) (i : Nat) (h : i < l.length) : (l ++ G).getD i 0 = l.getD i 0 := by
  rw [List.getD_eq_getElem?_getD, List.getD_eq_getElem?_getD, List.getElem?_append_left h]
theorem dec_app (l G : List UInt8) (hl : l ≠ []) (h : 0 ≤ rv l) : rv (l ++ G) = rv l ∧ wd (l ++ G) = wd l := by
  have hn : Lib.decodeL l ≠ (65533, 1) := fun e => by
    unfold rv at h
    rw [e, if_pos ⟨rfl, rfl⟩] at h
    omega
  have hlen : 0 < l.length := List.length_pos_iff.2 hl
  have e : Lib.decodeL (l ++ G) = Lib.decodeL l := by
    rw [Lib.decodeL_N] at hn
    rw [Lib.decodeL_N, Lib.decodeL_N, getD_app l G 0 hlen]
    exact decN_app _ _ _ _ _ _ _ _ _ hn (by rw [List.length_append]; omega) (fun q => by rw [getD_app l G 1 q]) (fun q => by rw [getD_app l G 2 q]) (fun q => by rw [getD_app l G 3 q])
  unfold rv wd
  rw [e]
  exact ⟨rfl, rfl⟩
theorem row_app (p : Int → Bool) (G : List UInt8) : ∀ w : List UInt8, (∀ x ∈ ru w, 0 ≤ x.1) → rowL p w = w.length → rowL p (w ++ G) = w.length + rowL p G := by
  refine ru_ind ?_ ?_
  · intro _ _
    simp
  · intro l hl ih hb hr
    rw [ru_step l hl] at hb
    have h0 : 0 ≤ rv l := hb (rv l, wd l) (by simp)
    obtain ⟨e1, e2⟩ := dec_app l G hl h0
    have hw := wd_pos l
    have hle := wd_le l hl
    have hlen : 0 < l.length := List.length_pos_iff.2 hl
    rw [rowL_step p l hl] at hr
    have hp : p (raw (rv l)) = true := by
      cases hq : p (raw (rv l)) with
      | true => rfl
      | false =>
        rw [hq, if_neg (by decide)] at hr
        omega
    rw [if_pos hp] at hr
    have ih := ih (fun x hx => hb x (by simp [hx])) (by rw [List.length_drop]; omega)
    have hd : (l ++ G).drop (wd l) = l.drop (wd l) ++ G := List.drop_append_of_le_length hle
    rw [rowL_step p (l ++ G) (by simp [hl]), e1, e2, if_pos hp, hd, ih, List.length_drop]
    omega
theorem raw_neg (r : Int) (h : r < 0) : raw r = 65533 := by unfold raw; rw [if_pos h]
/-- Where each rune is of the sort, none is broken. -/
theorem row_whole (p : Int → Bool) (hp : p 65533 = false) : ∀ w : List UInt8, rowL p w = w.length → ∀ x ∈ ru w, 0 ≤ x.1 := by
  refine ru_ind ?_ ?_
  · intro _ x hx
    rw [ru_nil] at hx
    cases hx
  · intro l hl ih hr x hx
    have hlen : 0 < l.length := List.length_pos_iff.2 hl
    have hle := wd_le l hl
    rw [rowL_step p l hl] at hr
    have hq : p (raw (rv l)) = true := by
      cases hq : p (raw (rv l)) with
      | true => rfl
      | false =>
        rw [hq, if_neg (by decide)] at hr
        omega
    rw [if_pos hq] at hr
    rw [ru_step l hl] at hx
    rcases List.mem_cons.1 hx with e | hx
    · rw [e]
      show 0 ≤ rv l
      by_cases h : rv l < 0
      · rw [raw_neg _ h, hp] at hq
        cases hq
      · omega
    · exact ih (by rw [List.length_drop]; omega) x hx
/-- Nothing, or a blank first. -/
def GB (G : List UInt8) : Prop := G = [] ∨ ∃ b R, G = b :: R ∧ (b = 32 ∨ b = 9 ∨ b = 10 ∨ b = 13)
theorem GB.row {G : List UInt8} (h : GB G) (p : Int → Bool) (h1 : p 32 = false) (h2 : p 9 = false) (h3 : p 10 = false) (h4 : p 13 = false) : rowL p G = 0 := by
  rcases h with rfl | ⟨b, R, rfl, h⟩
  · rfl
  · rw [rowL_zero]
    right
    rcases h with rfl | rfl | rfl | rfl
    · rw [raw_ascii 32 R (by decide)]; exact h1
    · rw [raw_ascii 9 R (by decide)]; exact h2
    · rw [raw_ascii 10 R (by decide)]; exact h3
    · rw [raw_ascii 13 R (by decide)]; exact h4
theorem pre2_app (w G : List UInt8) (hw : w ≠ []) (hG : GB G) (h : Lib.hasPrefix w [47, 47] = false) : Lib.hasPrefix (w ++ G) [47, 47] = false := by
  unfold Lib.hasPrefix at h ⊢
  match w, hw with
  | [a], _ =>
    rcases hG with rfl | ⟨b, R, rfl, hb⟩
    · exact h
    · have : b ≠ 47 := by rcases hb with rfl | rfl | rfl | rfl <;> decide
      simp [List.isPrefixOf]
      intro _ e
      exact this e.symm
  | a :: b :: r, _ =>
    simp [List.isPrefixOf] at h ⊢
    exact h
theorem pre1_app (w G : List UInt8) (hw : w ≠ []) (c : UInt8) : Lib.hasPrefix (w ++ G) [c] = Lib.hasPrefix w [c] := by
  unfold Lib.hasPrefix
  match w, hw with
  | a :: r, _ => simp [List.isPrefixOf]
theorem num_text (l : List UInt8) (h : numE l = 0) : Lib.itoa (numV l) = l := by
  unfold numE at h
  unfold numV
  split at h
  · rename_i e
    rw [if_pos e]
    exact e
  · exact absurd h (by decide)
theorem take_all {l : List UInt8} {n : Nat} (h : l.take n = l) (hn : n ≤ l.length) : n = l.length := by
  have := congrArg List.length h
  rw [List.length_take] at this
  omega
theorem letter_hi (r : Int) (h : isLetter r = true) : r ≠ 65533 ∧ 65 ≤ r := by
  unfold isLetter at h
  simp [spans, inSpan] at h
  omega
theorem nm_bad : isNm 65533 = false := by decide
theorem low_rv (b : UInt8) (t : List UInt8) (h : b.toNat < 128) : 0 ≤ rv (b :: t) := by rw [(rv_ascii b t h).1]; omega
theorem rv_of_raw (l : List UInt8) (h : raw (rv l) ≠ 65533) : 0 ≤ rv l := by
  by_cases q : rv l < 0
  · exact absurd (raw_neg _ q) h
  · omega

/-- A name that is all of a text stays one where a blank follows. -/
theorem nameC_app (w G : List UInt8) (hG : GB G) (hr : rowL isNm w = w.length) (hc : (nameC w).code = 0) : nameC (w ++ G) = ⟨⟨1, w, 0⟩, w.length, 0⟩ := by
  have hn := (nameC_ok w hc).2
  rw [hr, List.take_length] at hn
  have e : rowL isNm (w ++ G) = w.length := by
    rw [row_app isNm G w (row_whole isNm nm_bad w hr) hr, hG.row isNm (by decide) (by decide) (by decide) (by decide)]
    omega
  unfold nameC
  rw [e, List.take_left, if_pos hn]
theorem marks_noblank : ∀ m ∈ marksL, ∀ b ∈ m, b ≠ 32 ∧ b ≠ 9 ∧ b ≠ 10 ∧ b ≠ 13 := by decide
theorem mark_pre (m w G : List UInt8) (hm : m ∈ marksL) (hG : GB G) : Lib.hasPrefix (w ++ G) m = Lib.hasPrefix w m := by
  rw [Bool.eq_iff_iff]
  unfold Lib.hasPrefix
  rw [List.isPrefixOf_iff_prefix, List.isPrefixOf_iff_prefix]
  constructor
  · intro h
    rcases List.prefix_or_prefix_of_prefix h (List.prefix_append w G) with h1 | h1
    · exact h1
    · obtain ⟨s, rfl⟩ := h1
      have h2 : s <+: G := (List.prefix_append_right_inj w).1 h
      rcases hG with rfl | ⟨b, R, rfl, hb⟩
      · rw [List.prefix_nil.1 h2, List.append_nil]
        exact List.prefix_refl _
      · cases s with
        | nil => rw [List.append_nil]; exact List.prefix_refl _
        | cons c s =>
          have e : c = b := by
            obtain ⟨t, ht⟩ := h2
            rw [List.cons_append] at ht
            exact (List.cons.inj ht).1
          subst e
          have := marks_noblank _ hm c (by simp)
          rcases hb with e | e | e | e
          · exact absurd e this.1
          · exact absurd e this.2.1
          · exact absurd e this.2.2.1
          · exact absurd e this.2.2.2
  · intro h
    exact h.trans (List.prefix_append w G)
theorem markC_app (w G : List UInt8) (hG : GB G) : markC (w ++ G) = markC w := by
  unfold markC
  have : (marksL.find? fun m => Lib.hasPrefix (w ++ G) m) = marksL.find? fun m => Lib.hasPrefix w m := by
    have gen : ∀ l : List (List UInt8), (∀ m ∈ l, m ∈ marksL) → (l.find? fun m => Lib.hasPrefix (w ++ G) m) = l.find? fun m => Lib.hasPrefix w m := by
      intro l
      induction l with
      | nil => intro _; rfl
      | cons x r ih =>
        intro h
        rw [List.find?_cons, List.find?_cons, mark_pre x w G (h x (by simp)) hG, ih (fun m hm => h m (by simp [hm]))]
    exact gen marksL (fun _ h => h)
  rw [this]

/-- A token's text with a blank or nothing behind is that token. -/
theorem cut_app (t : Tkn) (G : List UInt8) (hG : GB G) (h : spOK t = true) (hk : t.kind ≠ 0) : cutC (wrT t ++ G) = ⟨t, (wrT t).length, 0⟩ ∧ wrT t ≠ [] := by
  have ht : (cutC (wrT t)).tk = t := tkEq_yes h
  have hw : wrT t ≠ [] := fun e => by
    rw [e] at ht
    rw [← ht] at hk
    exact hk rfl
  refine ⟨?_, hw⟩
  generalize hwt : wrT t = w at *
  have h1 : w ++ G ≠ [] := by simp [hw]
  unfold cutC at ht ⊢
  rw [if_neg hw] at ht
  rw [if_neg h1]
  split at ht
  · rw [← ht] at hk; exact absurd rfl hk
  rename_i b1
  split at ht
  · rw [← ht] at hk; exact absurd rfl hk
  rename_i b2
  have b2' := pre2_app w G hw hG (by simpa using b2)
  split at ht
  · rename_i b3
    have r0 := rv_of_raw w (letter_hi _ b3).1
    obtain ⟨e1, e2⟩ := dec_app w G hw r0
    rw [e1, if_neg b1, b2', if_neg (by decide), if_pos b3]
    have hc : (nameC w).code = 0 := by
      cases hq : decide ((nameC w).code = 0) with
      | true => exact of_decide_eq_true hq
      | false =>
        have := nameC_no w (of_decide_eq_false hq)
        rw [this] at ht
        rw [← ht] at hk
        exact absurd rfl hk
    have hn := (nameC_ok w hc).1
    rw [hn] at ht
    dsimp only at ht
    have hkd : t.kind = 1 := by rw [← ht]
    have hww : w = w.take (rowL isNm w) := by
      rw [← ht] at hwt
      unfold wrT at hwt
      rw [if_pos (.inl rfl)] at hwt
      exact hwt.symm
    have hr := take_all hww.symm (rowL_le isNm w)
    rw [nameC_app w G hG hr hc]
    rw [hr, List.take_length] at ht
    rw [ht]
  rename_i b3
  split at ht
  · rename_i b4
    have hlow : raw (rv w) < 128 := by
      unfold isDg at b4
      simp at b4
      omega
    obtain ⟨b, r, rfl, hb, er⟩ := low_head w hw hlow
    have r0 := low_rv b r hb
    obtain ⟨e1, e2⟩ := dec_app (b :: r) G hw r0
    rw [e1, if_neg b1, b2', if_neg (by decide), if_neg b3, if_pos b4]
    unfold numC at ht
    split at ht
    · rename_i hn
      dsimp only at ht
      have hww : b :: r = (b :: r).take (rowL isNm (b :: r)) := by
        rw [← ht] at hwt
        unfold wrT at hwt
        dsimp only at hwt
        rw [if_neg (by decide), if_pos rfl, num_text _ hn] at hwt
        exact hwt.symm
      have hr := take_all hww.symm (rowL_le isNm _)
      rw [hr, List.take_length] at hn ht
      have e : rowL isNm ((b :: r) ++ G) = (b :: r).length := by
        rw [row_app isNm G _ (row_whole isNm nm_bad _ hr) hr, hG.row isNm (by decide) (by decide) (by decide) (by decide)]
        omega
      unfold numC
      rw [e, List.take_left, if_pos hn, ht]
    · rw [← ht] at hk; exact absurd rfl hk
  rename_i b4
  split at ht
  · rename_i b5
    obtain ⟨r, rfl⟩ := prefix_app b5
    have r0 : 0 ≤ rv ([35] ++ r) := low_rv 35 r (by decide)
    obtain ⟨e1, e2⟩ := dec_app ([35] ++ r) G hw r0
    rw [e1, if_neg b1, b2', if_neg (by decide), if_neg b3, if_neg b4, pre1_app _ G hw, if_pos b5]
    unfold symC at ht
    have d1 : ([35] ++ r).drop 1 = r := rfl
    have d2 : ([35] ++ r ++ G).drop 1 = r ++ G := rfl
    rw [d1] at ht
    split at ht
    · rw [← ht] at hk; exact absurd rfl hk
    rename_i b6
    split at ht
    · rename_i b7
      have hn := (nameC_ok r b7.1).1
      have hit := b7.2
      rw [hn] at ht hit
      dsimp only at ht hit
      have hww : r = r.take (rowL isNm r) := by
        rw [← ht] at hwt
        unfold wrT at hwt
        dsimp only at hwt
        rw [if_neg (by decide), if_neg (by decide), if_pos rfl] at hwt
        exact (List.cons.inj hwt).2.symm
      have hr := take_all hww.symm (rowL_le isNm r)
      rw [hr, List.take_length] at ht hit
      have hrne : r ≠ [] := fun e => by subst e; exact b6 rfl
      have hl1 : isLetter (raw (rv r)) = true := by
        cases hq : isLetter (raw (rv r)) with
        | true => rfl
        | false => exact absurd ((rowL_zero isLetter r).2 (.inr hq)) b6
      obtain ⟨f1, f2⟩ := dec_app r G hrne (rv_of_raw r (letter_hi _ hl1).1)
      unfold symC
      rw [d2, nameC_app r G hG hr b7.1, if_neg (fun e => by
        rcases (rowL_zero isLetter (r ++ G)).1 e with e | e
        · simp [hrne] at e
        · rw [f1, hl1] at e; cases e)]
      dsimp only
      rw [if_pos ⟨rfl, hit⟩, ← ht]
      simp [Nat.add_comm]
    · rw [← ht] at hk; exact absurd rfl hk
  rename_i b5
  have hm := ht
  unfold markC at ht
  split at ht
  · rename_i m hfm
    have hmem := List.mem_of_find?_eq_some hfm
    dsimp only at ht
    have hww : m = w := by
      rw [← ht] at hwt
      unfold wrT at hwt
      rw [if_pos (.inr rfl)] at hwt
      exact hwt
    subst hww
    obtain ⟨m1, m2⟩ := marks_low m hmem
    obtain ⟨b, r, rfl⟩ : ∃ b r, m = b :: r := by cases m with | nil => exact absurd rfl m1 | cons b r => exact ⟨b, r, rfl⟩
    obtain ⟨e1, e2⟩ := dec_app (b :: r) G hw (low_rv b r (m2 b (by simp)))
    rw [e1, if_neg b1, b2', if_neg (by decide), if_neg b3, if_neg b4, pre1_app _ G hw, if_neg b5, markC_app _ G hG]
    unfold markC
    rw [hfm]
    dsimp only
    rw [ht]
  · rw [← ht] at hk; exact absurd rfl hk
end Go.Proofs.YthpkjehoogodkaaDoor
