/- What is printed of events is read as them: plain mathematics. -/
import Derived.Test.YthmhcpghfbifiaaGreatDoorGEN
import Derived.Test.YthmhcpghfbifiaaGreatDoorGEB
namespace Go.Proofs.YthmhcpghfbifiaaGreatDoor
open Go.RowKit

/-- No blank, no line's end, no remark. -/
def Solid (l : List UInt8) : Prop := ∀ b ∈ l, b ≠ 9 ∧ b ≠ 10 ∧ b ≠ 13 ∧ b ≠ 32 ∧ b ≠ 35
theorem solid_dig {l : List UInt8} (h : ∀ b ∈ l, isDig b) : Solid l := fun b hb => by
  have h1 := h b hb
  refine ⟨?_, ?_, ?_, ?_, ?_⟩
  all_goals
    intro e
    subst e
    exact absurd h1 (by unfold isDig; decide)
theorem solid_app {a b : List UInt8} (ha : Solid a) (hb : Solid b) : Solid (a ++ b) := fun x hx => by
  rcases List.mem_append.1 hx with h | h
  · exact ha x h
  · exact hb x h
theorem solid_itoa (i : Int) : Solid (Lib.itoa i) := by
  rw [itoa_is]
  split
  · intro b hb
    rcases List.mem_cons.1 hb with rfl | hb
    · decide
    · exact solid_dig (dd_dig _) b hb
  · exact solid_dig (dd_dig _)
theorem okR_solid : ∀ (l : List UInt8) (b : Bool), okR b (ru l) = true → Solid l := by
  refine ru_ind (fun b _ x hx => by simp at hx) ?_
  intro l hl ih b h
  rw [ru_step l hl, okR, Bool.and_eq_true] at h
  obtain ⟨h1, h2⟩ := h
  have key : ∀ c : UInt8, c.toNat < 128 → isLetter (c.toNat : Int) = false → mayF (c.toNat : Int) = false → rv l ≠ (c.toNat : Int) := fun c _ k1 k2 e => by
    dsimp only at h1
    have hraw : raw (c.toNat : Int) = (c.toNat : Int) := by unfold raw; rw [if_neg (by omega)]
    rw [e, hraw, k1, k2] at h1
    simp at h1
  intro x hx
  have hx' : x ∈ l.take (wd l) ∨ x ∈ l.drop (wd l) := by rw [← List.mem_append, List.take_append_drop]; exact hx
  rcases hx' with hx' | hx'
  · exact ⟨take_low 9 (by decide) l hl (key 9 (by decide) (by decide) (by decide)) x hx', take_low 10 (by decide) l hl (key 10 (by decide) (by decide) (by decide)) x hx', take_low 13 (by decide) l hl (key 13 (by decide) (by decide) (by decide)) x hx', take_low 32 (by decide) l hl (key 32 (by decide) (by decide) (by decide)) x hx', take_low 35 (by decide) l hl (key 35 (by decide) (by decide) (by decide)) x hx'⟩
  · exact ih false h2 x hx'
theorem name_solid {t : List UInt8} (h : nameE t = 0) : t ≠ [] ∧ Solid t := by
  unfold nameE at h
  split at h
  · cases h
  · rename_i h1
    split at h
    · rename_i h2
      exact ⟨fun e => h1 (.inl e), okR_solid t true h2⟩
    · cases h
/-- A printed value: no line's end, no remark, no blank at its end. -/
def ValB (l : List UInt8) : Prop := (∃ m c, l = m ++ [c] ∧ c ≠ 32) ∧ ∀ b ∈ l, b ≠ 9 ∧ b ≠ 10 ∧ b ≠ 13 ∧ b ≠ 35
theorem solid_valB {l : List UInt8} (h : Solid l) (hne : l ≠ []) : ValB l := by
  rcases List.eq_nil_or_concat l with e | ⟨m, c, rfl⟩
  · exact absurd e hne
  · rw [List.concat_eq_append] at *
    exact ⟨⟨m, c, rfl, (h c (by simp)).2.2.2.1⟩, fun b hb => ⟨(h b hb).1, (h b hb).2.1, (h b hb).2.2.1, (h b hb).2.2.2.2⟩⟩
theorem mem_joinE (s : List UInt8) (b : UInt8) : ∀ xs : List (List UInt8), b ∈ Lib.join xs s → b ∈ s ∨ ∃ x ∈ xs, b ∈ x
  | [], h => by simp [Lib.join, List.intercalate] at h
  | [x], h => by
    simp [Lib.join, List.intercalate] at h
    exact .inr ⟨x, by simp, h⟩
  | x :: y :: r, h => by
    have e : Lib.join (x :: y :: r) s = x ++ (s ++ Lib.join (y :: r) s) := by simp [Lib.join, List.intercalate]
    rw [e] at h
    rcases List.mem_append.1 h with h | h
    · exact .inr ⟨x, by simp, h⟩
    · rcases List.mem_append.1 h with h | h
      · exact .inl h
      · rcases mem_joinE s b (y :: r) h with h | ⟨z, hz, h⟩
        · exact .inl h
        · exact .inr ⟨z, by simp [List.mem_cons.1 hz], h⟩
theorem wrap_valB {A B : List UInt8} {c : UInt8} (hc : c ≠ 9 ∧ c ≠ 10 ∧ c ≠ 13 ∧ c ≠ 32 ∧ c ≠ 35) (hA : ∀ b ∈ A, b ≠ 9 ∧ b ≠ 10 ∧ b ≠ 13 ∧ b ≠ 35) (e : B = A ++ [c]) : ValB B := by
  subst e
  refine ⟨⟨A, c, rfl, hc.2.2.2.1⟩, fun b hb => ?_⟩
  rcases List.mem_append.1 hb with hb | hb
  · exact hA b hb
  · simp only [List.mem_cons, List.not_mem_nil, or_false] at hb
    subst hb
    exact ⟨hc.1, hc.2.1, hc.2.2.1, hc.2.2.2.2⟩
theorem prV_valB : ∀ (n : Nat) (v : Vl), v.size ≤ n → formV v = true → ValB (prV v)
  | 0, v, h, _ => by have := v.size_pos; omega
  | n + 1, v, h, hf => by
    rw [formV_eq] at hf
    simp only [Bool.and_eq_true] at hf
    obtain ⟨⟨_, hg⟩, hi, _⟩ := hf
    have hit : ∀ x ∈ v.items, ValB (prV x) := fun x hx => prV_valB n x (by have := Vl.size_item hx; omega) (List.all_eq_true.1 hi x hx)
    have hj : ∀ b ∈ Lib.join (v.items.map prV) [44, 32], b ≠ 9 ∧ b ≠ 10 ∧ b ≠ 13 ∧ b ≠ 35 := fun b hb => by
      rcases mem_joinE _ _ _ hb with h | ⟨x, hx, h⟩
      · simp only [List.mem_cons, List.not_mem_nil, or_false] at h
        rcases h with rfl | rfl <;> decide
      · obtain ⟨y, hy, rfl⟩ := List.mem_map.1 hx
        exact (hit y hy).2 b h
    have hc : ∀ a : UInt8, (a ≠ 9 ∧ a ≠ 10 ∧ a ≠ 13 ∧ a ≠ 35) → ∀ b ∈ a :: Lib.join (v.items.map prV) [44, 32], b ≠ 9 ∧ b ≠ 10 ∧ b ≠ 13 ∧ b ≠ 35 := fun a ha b hb => by
      rcases List.mem_cons.1 hb with rfl | hb
      · exact ha
      · exact hj b hb
    rw [prV_eq]
    split
    · split
      · exact solid_valB (l := [116, 114, 117, 101]) (by unfold Solid; decide) (by simp)
      · exact solid_valB (l := [102, 97, 108, 115, 101]) (by unfold Solid; decide) (by simp)
    · split
      · refine solid_valB (solid_itoa _) (fun e => ?_)
        obtain ⟨c, r, h1, _⟩ := itoa_first v.int []
        rw [e] at h1
        cases h1
      · split
        · refine wrap_valB (c := 105) (A := Lib.itoa v.int ++ (if 0 ≤ v.im then [43] else []) ++ Lib.itoa v.im) (by decide) (fun b hb => ?_) rfl
          have hs : Solid (Lib.itoa v.int ++ (if 0 ≤ v.im then [43] else []) ++ Lib.itoa v.im) := solid_app (solid_app (solid_itoa _) (by split <;> (unfold Solid; decide))) (solid_itoa _)
          have := hs b hb
          exact ⟨this.1, this.2.1, this.2.2.1, this.2.2.2.2⟩
        · split
          · rename_i k1 k2 k3 k4
            unfold goodB at hg
            rw [if_neg (by omega), if_neg (by omega), if_pos k4] at hg
            unfold symB at hg
            simp only [Bool.and_eq_true, beq_iff_eq] at hg
            obtain ⟨h1, h2⟩ := name_solid hg.2
            exact solid_valB h2 h1
          · split
            · split
              · exact wrap_valB (c := 41) (A := 40 :: Lib.join (v.items.map prV) [44, 32] ++ [44]) (by decide) (fun b hb => by
                  rcases List.mem_append.1 hb with hb | hb
                  · exact hc 40 (by decide) b hb
                  · simp only [List.mem_cons, List.not_mem_nil, or_false] at hb
                    subst hb
                    decide) (by simp)
              · exact wrap_valB (c := 41) (by decide) (hc 40 (by decide)) rfl
            · split
              · exact wrap_valB (c := 93) (by decide) (hc 91 (by decide)) rfl
              · exact wrap_valB (c := 125) (by decide) (hc 123 (by decide)) rfl
/-- A blank keeps the runes ahead of it as they are. -/
theorem dec32 (l b : List UInt8) (hl : l ≠ []) : Lib.decodeL (l ++ 32 :: b) = Lib.decodeL l := by
  rw [Lib.decodeL_N, Lib.decodeL_N]
  match l, hl with
  | [a], _ => simp [Lib.decodeN]
  | [a, a1], _ => simp [Lib.decodeN]
  | [a, a1, a2], _ => simp [Lib.decodeN]
  | a :: a1 :: a2 :: a3 :: t, _ =>
    have h1 : (a :: a1 :: a2 :: a3 :: t ++ 32 :: b).length = t.length + b.length + 1 + 4 := by simp; omega
    have h2 : (a :: a1 :: a2 :: a3 :: t).length = t.length + 4 := by simp
    rw [h1, h2]
    simp only [List.cons_append, List.getD_cons_zero, List.getD_cons_succ]
    exact decN_ge _ _ _ _ _ _ (by omega) (by omega)
theorem solid_rv {l : List UInt8} (hs : Solid l) (hl : l ≠ []) : isBlank (rv l) = false ∧ rv l ≠ 35 := by
  obtain ⟨c, t, rfl⟩ : ∃ c t, l = c :: t := by cases l with | nil => exact absurd rfl hl | cons c t => exact ⟨c, t, rfl⟩
  obtain ⟨h1, _, h3, h4, h5⟩ := hs c (by simp)
  have ne : ∀ k : UInt8, c ≠ k → c.toNat ≠ k.toNat := fun k h e => h (UInt8.toNat_inj.1 e)
  have n1 : rv (c :: t) ≠ 9 := fun e => ne 9 h1 ((rv_low_iff c t 9 (by decide)).1 e)
  have n3 : rv (c :: t) ≠ 13 := fun e => ne 13 h3 ((rv_low_iff c t 13 (by decide)).1 e)
  have n4 : rv (c :: t) ≠ 32 := fun e => ne 32 h4 ((rv_low_iff c t 32 (by decide)).1 e)
  have n5 : rv (c :: t) ≠ 35 := fun e => ne 35 h5 ((rv_low_iff c t 35 (by decide)).1 e)
  refine ⟨?_, n5⟩
  unfold isBlank
  simp [n1, n3, n4]
theorem solid_drop {l : List UInt8} (h : Solid l) (n : Nat) : Solid (l.drop n) := fun b hb => h b (List.mem_of_mem_drop hb)
theorem wds_in (b : List UInt8) : ∀ (a : List UInt8), Solid a → ∀ (off col : Nat), ∃ col', wds off col true (a ++ 32 :: b) = wds (off + a.length + 1) col' false b := by
  refine ru_ind ?_ ?_
  · intro _ off col
    obtain ⟨h1, h2⟩ := rv_ascii 32 b (by decide)
    refine ⟨col + 1, ?_⟩
    rw [List.nil_append, wds_step _ _ _ _ (by simp), h1, h2, if_pos (by decide)]
    rfl
  · intro l hl ih hs off col
    have hd := dec32 l b hl
    have hr : rv (l ++ 32 :: b) = rv l := by unfold rv; rw [hd]
    have hw : wd (l ++ 32 :: b) = wd l := by unfold wd; rw [hd]
    obtain ⟨s1, _⟩ := solid_rv hs hl
    have hle := wd_le l hl
    obtain ⟨c', h'⟩ := ih (solid_drop hs _) (off + wd l) (col + 1)
    refine ⟨c', ?_⟩
    rw [wds_step _ _ _ _ (by simp), hr, hw, s1, if_neg Bool.false_ne_true, if_pos rfl, List.drop_append_of_le_length hle, h', List.length_drop]
    congr 1
    omega
theorem wds_wordE (off col : Nat) (l : List UInt8) (hl : l ≠ []) (hb : isBlank (rv l) = false) (h35 : rv l ≠ 35) : wds off col false l = ⟨tw l, off, col + 1⟩ :: wds off col true l := by
  rw [wds_step off col false l hl, wds_step off col true l hl, hb]
  simp [h35]
theorem wds_solid {a : List UInt8} (hs : Solid a) (hl : a ≠ []) (off col : Nat) (b : List UInt8) : ∃ col', wds off col false (a ++ 32 :: b) = ⟨a, off, col + 1⟩ :: wds (off + a.length + 1) col' false b := by
  have hd := dec32 a b hl
  have hr : rv (a ++ 32 :: b) = rv a := by unfold rv; rw [hd]
  obtain ⟨s1, s2⟩ := solid_rv hs hl
  have ht : tw (a ++ 32 :: b) = a := by
    unfold tw
    rw [List.takeWhile_append_of_pos (fun x hx => by obtain ⟨h1, _, h3, h4, _⟩ := hs x hx; simp [h1, h3, h4])]
    simp
  obtain ⟨c', h'⟩ := wds_in b a hs off col
  exact ⟨c', by rw [wds_wordE off col _ (by simp) (by rw [hr]; exact s1) (by rw [hr]; exact s2), ht, h']⟩
theorem trimR_valB {l : List UInt8} (h : ValB l) : trimR (32 :: l) = 32 :: l := by
  obtain ⟨⟨m, c, rfl, hc⟩, hb⟩ := h
  obtain ⟨h1, _, h3, _⟩ := hb c (by simp)
  have e : ∀ x : UInt8, (32 :: (m ++ [x])).reverse = x :: (32 :: m).reverse := fun x => by simp
  unfold trimR Lib.trimRightS
  rw [e, List.dropWhile_cons_of_neg (by simp [h1, h3, hc]), ← e, List.reverse_reverse]
/-- An event's line, but for its end. -/
def bodyE (e : Evn) : List UInt8 := if e.kind = 1 then [105, 110, 118] ++ 32 :: (e.proc ++ 32 :: (e.obj ++ 32 :: (e.op ++ 32 :: prV e.val))) else [114, 101, 115] ++ 32 :: (e.proc ++ 32 :: prV e.val)
theorem lnE_body (e : Evn) : lnE e = bodyE e ++ [10] := by
  unfold lnE bodyE
  split <;> simp [Lib.join, List.intercalate, List.intersperse]
theorem prL_flL (l : List Evn) : prL l = flL (l.map bodyE) := by
  unfold prL flL
  rw [List.map_map]
  congr 1
  exact List.map_congr_left fun e _ => lnE_body e
/-- The parts of a right event. -/
theorem right_solid {e : Evn} (h : rightE e = true) : (e.kind = 1 ∧ (e.proc ≠ [] ∧ Solid e.proc) ∧ (e.obj ≠ [] ∧ Solid e.obj) ∧ (e.op ≠ [] ∧ Solid e.op) ∧ fitB true e.proc = true ∧ fitB false e.obj = true ∧ fitB true e.op = true ∧ rightV e.val = true) ∨
    (e.kind = 2 ∧ (e.proc ≠ [] ∧ Solid e.proc) ∧ e.obj = [] ∧ e.op = [] ∧ fitB true e.proc = true ∧ rightV e.val = true) := by
  have sy : ∀ t : List UInt8, symB (bsN t) = true → t ≠ [] ∧ Solid t := fun t h => by
    rw [symB_b] at h
    unfold anyB at h
    simp only [Bool.and_eq_true, beq_iff_eq] at h
    exact name_solid h.2
  unfold rightE at h
  split at h
  · simp only [Bool.and_eq_true] at h
    obtain ⟨⟨⟨h1, h2⟩, h3⟩, h4⟩ := h
    have h2' := h2
    unfold anyB at h2'
    exact .inl ⟨‹_›, sy _ h1, name_solid (beq_iff_eq.1 h2'), sy _ h3, h1, h2, h3, h4⟩
  · split at h
    · simp only [Bool.and_eq_true, List.isEmpty_iff] at h
      obtain ⟨⟨⟨h1, h2⟩, h3⟩, h4⟩ := h
      exact .inr ⟨‹_›, sy _ h1, h2, h3, h1, h4⟩
    · cases h
theorem valB_of {v : Vl} (h : rightV v = true) : ValB (prV v) := prV_valB v.size v (Nat.le_refl _) ((rightV_is v).1 h).2.2
theorem inv_solid : Solid [105, 110, 118] := by unfold Solid; decide
theorem res_solid : Solid [114, 101, 115] := by unfold Solid; decide
theorem body_no {e : Evn} (h : rightE e = true) : ∀ b ∈ bodyE e, b ≠ 10 ∧ b ≠ 35 := by
  have hs : ∀ {l : List UInt8}, Solid l → ∀ b ∈ l, b ≠ 10 ∧ b ≠ 35 := fun h b hb => ⟨(h b hb).2.1, (h b hb).2.2.2.2⟩
  have hv : ∀ {l : List UInt8}, ValB l → ∀ b ∈ l, b ≠ 10 ∧ b ≠ 35 := fun h b hb => ⟨(h.2 b hb).2.1, (h.2 b hb).2.2.2⟩
  have jn : ∀ {A B : List UInt8}, (∀ b ∈ A, b ≠ 10 ∧ b ≠ 35) → (∀ b ∈ B, b ≠ 10 ∧ b ≠ 35) → ∀ b ∈ A ++ 32 :: B, b ≠ 10 ∧ b ≠ 35 := fun hA hB b hb => by
    rcases List.mem_append.1 hb with hb | hb
    · exact hA b hb
    · rcases List.mem_cons.1 hb with rfl | hb
      · decide
      · exact hB b hb
  unfold bodyE
  rcases right_solid h with ⟨hk, h1, h2, h3, _, _, _, h4⟩ | ⟨hk, h1, _, _, _, h4⟩
  · rw [if_pos hk]
    exact jn (hs inv_solid) (jn (hs h1.2) (jn (hs h2.2) (jn (hs h3.2) (hv (valB_of h4)))))
  · rw [if_neg (by omega)]
    exact jn (hs res_solid) (jn (hs h1.2) (hv (valB_of h4)))
theorem ahead_body {e : Evn} (h : rightE e = true) : aheadL (bodyE e) = bodyE e := by
  have := ahead_skip (bodyE e) [] (fun b hb => (body_no h b hb).2)
  rw [List.append_nil] at this
  rw [this]
  simp [aheadL]
theorem ev_body {e : Evn} (h : rightE e = true) (hok : okD 16 e.val) (n st : Nat) : ∃ w r a b c, wds 0 0 false (aheadL (bodyE e)) = w :: r ∧ evM6 (aheadL (bodyE e)) n st (w :: r) = .ok ⟨e.kind, e.proc, e.obj, e.op, e.val, a, b, c⟩ := by
  rw [ahead_body h]
  rcases right_solid h with ⟨hk, h1, h2, h3, f1, f2, f3, h4⟩ | ⟨hk, h1, ho, hp, f1, h4⟩
  · have hbd : bodyE e = [105, 110, 118] ++ 32 :: (e.proc ++ 32 :: (e.obj ++ 32 :: (e.op ++ 32 :: prV e.val))) := by unfold bodyE; rw [if_pos hk]
    rw [hbd]
    obtain ⟨c1, w1⟩ := wds_solid inv_solid (by simp) 0 0 (e.proc ++ 32 :: (e.obj ++ 32 :: (e.op ++ 32 :: prV e.val)))
    obtain ⟨c2, w2⟩ := wds_solid h1.2 h1.1 (0 + ([105, 110, 118] : List UInt8).length + 1) c1 (e.obj ++ 32 :: (e.op ++ 32 :: prV e.val))
    obtain ⟨c3, w3⟩ := wds_solid h2.2 h2.1 (0 + ([105, 110, 118] : List UInt8).length + 1 + e.proc.length + 1) c2 (e.op ++ 32 :: prV e.val)
    obtain ⟨c4, w4⟩ := wds_solid h3.2 h3.1 (0 + ([105, 110, 118] : List UInt8).length + 1 + e.proc.length + 1 + e.obj.length + 1) c3 (prV e.val)
    rw [w1, w2, w3, w4]
    refine ⟨_, _, ((st + 0 : Nat) : Int), (n : Int), ((0 + 1 : Nat) : Int), rfl, ?_⟩
    have hv : valM6 ([105, 110, 118] ++ 32 :: (e.proc ++ 32 :: (e.obj ++ 32 :: (e.op ++ 32 :: prV e.val)))) (0 + ([105, 110, 118] : List UInt8).length + 1 + e.proc.length + 1 + e.obj.length + 1 + e.op.length) = .ok e.val := by
      refine valM6_yes (t := 32 :: prV e.val) ?_ (parM_blank e.val h4 hok)
      have hd : ([105, 110, 118] ++ 32 :: (e.proc ++ 32 :: (e.obj ++ 32 :: (e.op ++ 32 :: prV e.val)))).drop (0 + ([105, 110, 118] : List UInt8).length + 1 + e.proc.length + 1 + e.obj.length + 1 + e.op.length) = 32 :: prV e.val := by
        have e1 : ([105, 110, 118] ++ 32 :: (e.proc ++ 32 :: (e.obj ++ 32 :: (e.op ++ 32 :: prV e.val)))) = ([105, 110, 118] ++ 32 :: (e.proc ++ 32 :: (e.obj ++ 32 :: e.op))) ++ 32 :: prV e.val := by simp
        rw [e1, List.drop_left' (by simp; omega)]
      rw [hd]
      exact trimR_valB (valB_of h4)
    simp only [evM6]
    rw [if_pos (show ([105, 110, 118] : List UInt8) = invL from rfl), nameM6_yes f1]
    simp only
    rw [nameM6_yes f2]
    simp only
    rw [nameM6_yes f3]
    simp only
    rw [hv, hk]
  · have hbd : bodyE e = [114, 101, 115] ++ 32 :: (e.proc ++ 32 :: prV e.val) := by unfold bodyE; rw [if_neg (by omega)]
    rw [hbd]
    obtain ⟨c1, w1⟩ := wds_solid res_solid (by simp) 0 0 (e.proc ++ 32 :: prV e.val)
    obtain ⟨c2, w2⟩ := wds_solid h1.2 h1.1 (0 + ([114, 101, 115] : List UInt8).length + 1) c1 (prV e.val)
    rw [w1, w2]
    refine ⟨_, _, ((st + 0 : Nat) : Int), (n : Int), ((0 + 1 : Nat) : Int), rfl, ?_⟩
    have hv : valM6 ([114, 101, 115] ++ 32 :: (e.proc ++ 32 :: prV e.val)) (0 + ([114, 101, 115] : List UInt8).length + 1 + e.proc.length) = .ok e.val := by
      refine valM6_yes (t := 32 :: prV e.val) ?_ (parM_blank e.val h4 hok)
      have hd : ([114, 101, 115] ++ 32 :: (e.proc ++ 32 :: prV e.val)).drop (0 + ([114, 101, 115] : List UInt8).length + 1 + e.proc.length) = 32 :: prV e.val := by
        have e1 : ([114, 101, 115] ++ 32 :: (e.proc ++ 32 :: prV e.val)) = ([114, 101, 115] ++ 32 :: e.proc) ++ 32 :: prV e.val := by simp
        rw [e1, List.drop_left' (by simp; omega)]
      rw [hd]
      exact trimR_valB (valB_of h4)
    simp only [evM6]
    rw [if_neg (show ¬ ([114, 101, 115] : List UInt8) = invL by decide), if_pos (show ([114, 101, 115] : List UInt8) = resL from rfl), nameM6_yes f1]
    simp only
    rw [hv, hk, ho, hp]
theorem go_back : ∀ (l : List Evn) (acc : List Evn) (st n : Nat), (∀ e ∈ l, rightE e = true ∧ okD 16 e.val) → ∃ l', goM6 acc st (numd n (l.map bodyE)) = .ok (acc ++ l') ∧ l'.map unsE = l.map unsE
  | [], acc, st, n, _ => ⟨[], by rw [List.map_nil, numd, goM6, List.append_nil], rfl⟩
  | e :: l, acc, st, n, h => by
    obtain ⟨h1, h2⟩ := h e (by simp)
    obtain ⟨w, r, a, b, c, hw, he⟩ := ev_body h1 h2 n st
    obtain ⟨l', k1, k2⟩ := go_back l (acc ++ [⟨e.kind, e.proc, e.obj, e.op, e.val, a, b, c⟩]) (st + (bodyE e).length + 1) (n + 1) fun x hx => h x (by simp [hx])
    refine ⟨⟨e.kind, e.proc, e.obj, e.op, e.val, a, b, c⟩ :: l', ?_, ?_⟩
    · rw [List.map_cons, numd, goM6_more (x := (n, bodyE e)) hw he]
      show goM6 _ (st + (bodyE e).length + 1) _ = _
      rw [k1]
      simp
    · rw [List.map_cons, List.map_cons, k2]
      rfl
theorem lines_prL {l : List Evn} (h : ∀ e ∈ l, rightE e = true) : lines (prL l) = numd 1 (l.map bodyE) := by
  have hno : ∀ p ∈ l.map bodyE, (10 : UInt8) ∉ p := fun p hp hm => by
    obtain ⟨e, he, rfl⟩ := List.mem_map.1 hp
    exact (body_no (h e he) 10 hm).1 rfl
  have := lns_flL [] (l.map bodyE) hno
  unfold lines
  rw [prL_flL]
  rw [List.append_nil] at this
  rw [this, lns, if_pos rfl, List.append_nil]
theorem parses_back {l : List Evn} (h : ∀ e ∈ l, rightE e = true ∧ okD 16 e.val) : ∃ l', parsesM (prL l) = .ok l' ∧ l'.map unsE = l.map unsE := by
  obtain ⟨l', h1, h2⟩ := go_back l [] 0 1 h
  refine ⟨l', ?_, h2⟩
  unfold parsesM
  rw [lines_prL fun e he => (h e he).1, h1, List.nil_append]
theorem numd_mem : ∀ (L : List (List UInt8)) (n : Nat) (x : Nat × List UInt8), x ∈ numd n L → x.2 ∈ L
  | [], _, _, h => by cases h
  | p :: L, n, x, h => by
    rw [numd] at h
    rcases List.mem_cons.1 h with rfl | h
    · simp
    · exact List.mem_cons_of_mem _ (numd_mem L (n + 1) x h)
theorem uns_len {l l' : List Evn} (h : l'.map unsE = l.map unsE) : l'.length = l.length := by
  have := congrArg List.length h
  rwa [List.length_map, List.length_map] at this
theorem uns_get {l l' : List Evn} (h : l'.map unsE = l.map unsE) (j : Nat) (h1 : j < l.length) (h2 : j < l'.length) : unsE l'[j] = unsE l[j] := by
  have e : (l'.map unsE)[j]'(by rw [List.length_map]; exact h2) = (l.map unsE)[j]'(by rw [List.length_map]; exact h1) := by congr 1
  rwa [List.getElem_map, List.getElem_map] at e
theorem uns_prL {l l' : List Evn} (h : l'.map unsE = l.map unsE) : prL l' = prL l := by
  have e : ∀ k : List Evn, prL k = ((k.map unsE).map lnE).flatten := fun k => by
    unfold prL
    rw [List.map_map]
    rfl
  rw [e, e, h]
theorem uns_right {l l' : List Evn} (h : l'.map unsE = l.map unsE) (hr : l.all rightE = true) : l'.all rightE = true := by
  have e : ∀ k : List Evn, k.all rightE = (k.map unsE).all rightE := fun k => by
    rw [List.all_map]
    rfl
  rw [e, h, ← e]
  exact hr
theorem uns_same {l l' : List Evn} (h : l'.map unsE = l.map unsE) (hr : l.all rightE = true) : sameB l l' = true :=
  sameB_yes (uns_len h).symm fun j h1 h2 _ => by
    have hv := (right_parts (List.all_eq_true.1 hr _ (List.getElem_mem h1))).2
    have e := uns_get h j h1 h2
    have e2 : simB l[j] l'[j] = simB l[j] (unsE l'[j]) := rfl
    rw [e2, e]
    exact simB_uns _ hv
end Go.Proofs.YthmhcpghfbifiaaGreatDoor
