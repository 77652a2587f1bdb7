/- What is printed of events is read as them: plain mathematics. -/
import Derived.Test.YtcedpdneanjbkaaGreatDoorGEN
import Derived.Test.YtcedpdneanjbkaaGreatDoorGEB
import Derived.Test.YtcedpdneanjbkaaGreatDoorGEF
import Derived.Test.YtcedpdneanjbkaaGreatDoorGEH
import Derived.Test.YtcedpdneanjbkaaGreatDoorGHOpG
import Derived.ChangeMaps5
namespace Go.Proofs.YtcedpdneanjbkaaGreatDoor
open Go.RowKit

/-- No blank, no line's end, no remark. -/
def Solid (l : List UInt8) : Prop := ∀ b ∈ l, b ≠ 9 ∧ b ≠ 10 ∧ b ≠ 13 ∧ b ≠ 32 ∧ b ≠ 35
theorem solid_dig {l : List UInt8} (h : ∀ b ∈ l, isDig b) : Solid l := fun b hb => by
  have h1 := h b hb
  refine ⟨?_, ?_, ?_, ?_, ?_⟩
  all_goals
    intro e
    subst e
    exact absurd h1 (by unfold isDig; decide)
theorem solid_app {a b : List UInt8} (ha : Solid a) (hb : Solid b) : Solid (a ++ b) := fun x hx => by
  rcases List.mem_append.1 hx with h | h
  · exact ha x h
  · exact hb x h
theorem solid_itoa (i : Int) : Solid (Lib.itoa i) := by
  rw [itoa_is]
  split
  · intro b hb
    rcases List.mem_cons.1 hb with rfl | hb
    · decide
    · exact solid_dig (dd_dig _) b hb
  · exact solid_dig (dd_dig _)
theorem okR_solid : ∀ (l : List UInt8) (b : Bool), okR b (ru l) = true → Solid l := by
  refine ru_ind (fun b _ x hx => by simp at hx) ?_
  intro l hl ih b h
  rw [ru_step l hl, okR, Bool.and_eq_true] at h
  obtain ⟨h1, h2⟩ := h
  have key : ∀ c : UInt8, c.toNat < 128 → isLetter (c.toNat : Int) = false → mayF (c.toNat : Int) = false → rv l ≠ (c.toNat : Int) := fun c _ k1 k2 e => by
    dsimp only at h1
    have hraw : raw (c.toNat : Int) = (c.toNat : Int) := by unfold raw; rw [if_neg (by omega)]
    rw [e, hraw, k1, k2] at h1
    simp at h1
  intro x hx
  have hx' : x ∈ l.take (wd l) ∨ x ∈ l.drop (wd l) := by rw [← List.mem_append, List.take_append_drop]; exact hx
  rcases hx' with hx' | hx'
  · exact ⟨take_low 9 (by decide) l hl (key 9 (by decide) (by decide) (by decide)) x hx', take_low 10 (by decide) l hl (key 10 (by decide) (by decide) (by decide)) x hx', take_low 13 (by decide) l hl (key 13 (by decide) (by decide) (by decide)) x hx', take_low 32 (by decide) l hl (key 32 (by decide) (by decide) (by decide)) x hx', take_low 35 (by decide) l hl (key 35 (by decide) (by decide) (by decide)) x hx'⟩
  · exact ih false h2 x hx'
theorem name_solid {t : List UInt8} (h : nameE t = 0) : t ≠ [] ∧ Solid t := by
  unfold nameE at h
  split at h
  · cases h
  · rename_i h1
    split at h
    · rename_i h2
      exact ⟨fun e => h1 (.inl e), okR_solid t true h2⟩
    · cases h
/-- A printed value: no line's end, no remark, no blank at its end. -/
def ValB (l : List UInt8) : Prop := (∃ m c, l = m ++ [c] ∧ c ≠ 32) ∧ ∀ b ∈ l, b ≠ 9 ∧ b ≠ 10 ∧ b ≠ 13 ∧ b ≠ 35
theorem solid_valB {l : List UInt8} (h : Solid l) (hne : l ≠ []) : ValB l := by
  rcases List.eq_nil_or_concat l with e | ⟨m, c, rfl⟩
  · exact absurd e hne
  · rw [List.concat_eq_append] at *
    exact ⟨⟨m, c, rfl, (h c (by simp)).2.2.2.1⟩, fun b hb => ⟨(h b hb).1, (h b hb).2.1, (h b hb).2.2.1, (h b hb).2.2.2.2⟩⟩
theorem mem_joinE (s : List UInt8) (b : UInt8) : ∀ xs : List (List UInt8), b ∈ Lib.join xs s → b ∈ s ∨ ∃ x ∈ xs, b ∈ x
  | [], h => by simp [Lib.join, List.intercalate] at h
  | [x], h => by
    simp [Lib.join, List.intercalate] at h
    exact .inr ⟨x, by simp, h⟩
  | x :: y :: r, h => by
    have e : Lib.join (x :: y :: r) s = x ++ (s ++ Lib.join (y :: r) s) := by simp [Lib.join, List.intercalate]
    rw [e] at h
    rcases List.mem_append.1 h with h | h
    · exact .inr ⟨x, by simp, h⟩
    · rcases List.mem_append.1 h with h | h
      · exact .inl h
      · rcases mem_joinE s b (y :: r) h with h | ⟨z, hz, h⟩
        · exact .inl h
        · exact .inr ⟨z, by simp [List.mem_cons.1 hz], h⟩
theorem wrap_valB {A B : List UInt8} {c : UInt8} (hc : c ≠ 9 ∧ c ≠ 10 ∧ c ≠ 13 ∧ c ≠ 32 ∧ c ≠ 35) (hA : ∀ b ∈ A, b ≠ 9 ∧ b ≠ 10 ∧ b ≠ 13 ∧ b ≠ 35) (e : B = A ++ [c]) : ValB B := by
  subst e
  refine ⟨⟨A, c, rfl, hc.2.2.2.1⟩, fun b hb => ?_⟩
  rcases List.mem_append.1 hb with hb | hb
  · exact hA b hb
  · simp only [List.mem_cons, List.not_mem_nil, or_false] at hb
    subst hb
    exact ⟨hc.1, hc.2.1, hc.2.2.1, hc.2.2.2.2⟩
theorem prV_valB : ∀ (n : Nat) (v : Vl), v.size ≤ n → formV v = true → ValB (prV v)
  | 0, v, h, _ => by have := v.size_pos; omega
  | n + 1, v, h, hf => by
    rw [formV_eq] at hf
    simp only [Bool.and_eq_true] at hf
    obtain ⟨⟨_, hg⟩, hi, _⟩ := hf
    have hit : ∀ x ∈ v.items, ValB (prV x) := fun x hx => prV_valB n x (by have := Vl.size_item hx; omega) (List.all_eq_true.1 hi x hx)
    have hj : ∀ b ∈ Lib.join (v.items.map prV) [44, 32], b ≠ 9 ∧ b ≠ 10 ∧ b ≠ 13 ∧ b ≠ 35 := fun b hb => by
      rcases mem_joinE _ _ _ hb with h | ⟨x, hx, h⟩
      · simp only [List.mem_cons, List.not_mem_nil, or_false] at h
        rcases h with rfl | rfl <;> decide
      · obtain ⟨y, hy, rfl⟩ := List.mem_map.1 hx
        exact (hit y hy).2 b h
    have hc : ∀ a : UInt8, (a ≠ 9 ∧ a ≠ 10 ∧ a ≠ 13 ∧ a ≠ 35) → ∀ b ∈ a :: Lib.join (v.items.map prV) [44, 32], b ≠ 9 ∧ b ≠ 10 ∧ b ≠ 13 ∧ b ≠ 35 := fun a ha b hb => by
      rcases List.mem_cons.1 hb with rfl | hb
      · exact ha
      · exact hj b hb
    rw [prV_eq]
    split
    · split
      · exact solid_valB (l := [116, 114, 117, 101]) (by unfold Solid; decide) (by simp)
      · exact solid_valB (l := [102, 97, 108, 115, 101]) (by unfold Solid; decide) (by simp)
    · split
      · refine solid_valB (solid_itoa _) (fun e => ?_)
        obtain ⟨c, r, h1, _⟩ := itoa_first v.int []
        rw [e] at h1
        cases h1
      · split
        · refine wrap_valB (c := 105) (A := Lib.itoa v.int ++ (if 0 ≤ v.im then [43] else []) ++ Lib.itoa v.im) (by decide) (fun b hb => ?_) rfl
          have hs : Solid (Lib.itoa v.int ++ (if 0 ≤ v.im then [43] else []) ++ Lib.itoa v.im) := solid_app (solid_app (solid_itoa _) (by split <;> (unfold Solid; decide))) (solid_itoa _)
          have := hs b hb
          exact ⟨this.1, this.2.1, this.2.2.1, this.2.2.2.2⟩
        · split
          · rename_i k1 k2 k3 k4
            unfold goodB at hg
            rw [if_neg (by omega), if_neg (by omega), if_pos k4] at hg
            unfold symB at hg
            simp only [Bool.and_eq_true, beq_iff_eq] at hg
            obtain ⟨h1, h2⟩ := name_solid hg.2
            exact solid_valB h2 h1
          · split
            · split
              · exact wrap_valB (c := 41) (A := 40 :: Lib.join (v.items.map prV) [44, 32] ++ [44]) (by decide) (fun b hb => by
                  rcases List.mem_append.1 hb with hb | hb
                  · exact hc 40 (by decide) b hb
                  · simp only [List.mem_cons, List.not_mem_nil, or_false] at hb
                    subst hb
                    decide) (by simp)
              · exact wrap_valB (c := 41) (by decide) (hc 40 (by decide)) rfl
            · split
              · exact wrap_valB (c := 93) (by decide) (hc 91 (by decide)) rfl
              · exact wrap_valB (c := 125) (by decide) (hc 123 (by decide)) rfl
/-- A blank keeps the runes ahead of it as they are. -/
theorem dec32 (l b : List UInt8) (hl : l ≠ []) : Lib.decodeL (l ++ 32 :: b) = Lib.decodeL l := by
  rw [Lib.decodeL_N, Lib.decodeL_N]
  match l, hl with
  | [a], _ => simp [Lib.decodeN]
  | [a, a1], _ => simp [Lib.decodeN]
  | [a, a1, a2], _ => simp [Lib.decodeN]
  | a :: a1 :: a2 :: a3 :: t, _ =>
    have h1 : (a :: a1 :: a2 :: a3 :: t ++ 32 :: b).length = t.length + b.length + 1 + 4 := by simp; omega
    have h2 : (a :: a1 :: a2 :: a3 :: t).length = t.length + 4 := by simp
    rw [h1, h2]
    simp only [List.cons_append, List.getD_cons_zero, List.getD_cons_succ]
    exact decN_ge _ _ _ _ _ _ (by omega) (by omega)
theorem solid_rv {l : List UInt8} (hs : Solid l) (hl : l ≠ []) : isBlank (rv l) = false ∧ rv l ≠ 35 := by
  obtain ⟨c, t, rfl⟩ : ∃ c t, l = c :: t := by cases l with | nil => exact absurd rfl hl | cons c t => exact ⟨c, t, rfl⟩
  obtain ⟨h1, _, h3, h4, h5⟩ := hs c (by simp)
  have ne : ∀ k : UInt8, c ≠ k → c.toNat ≠ k.toNat := fun k h e => h (UInt8.toNat_inj.1 e)
  have n1 : rv (c :: t) ≠ 9 := fun e => ne 9 h1 ((rv_low_iff c t 9 (by decide)).1 e)
  have n3 : rv (c :: t) ≠ 13 := fun e => ne 13 h3 ((rv_low_iff c t 13 (by decide)).1 e)
  have n4 : rv (c :: t) ≠ 32 := fun e => ne 32 h4 ((rv_low_iff c t 32 (by decide)).1 e)
  have n5 : rv (c :: t) ≠ 35 := fun e => ne 35 h5 ((rv_low_iff c t 35 (by decide)).1 e)
  refine ⟨?_, n5⟩
  unfold isBlank
  simp [n1, n3, n4]
theorem solid_drop {l : List UInt8} (h : Solid l) (n : Nat) : Solid (l.drop n) := fun b hb => h b (List.mem_of_mem_drop hb)
theorem wds_in (b : List UInt8) : ∀ (a : List UInt8), Solid a → ∀ (off col : Nat), ∃ col', wds off col true (a ++ 32 :: b) = wds (off + a.length + 1) col' false b := by
  refine ru_ind ?_ ?_
  · intro _ off col
    obtain ⟨h1, h2⟩ := rv_ascii 32 b (by decide)
    refine ⟨col + 1, ?_⟩
    rw [List.nil_append, wds_step _ _ _ _ (by simp), h1, h2, if_pos (by decide)]
    rfl
  · intro l hl ih hs off col
    have hd := dec32 l b hl
    have hr : rv (l ++ 32 :: b) = rv l := by unfold rv; rw [hd]
    have hw : wd (l ++ 32 :: b) = wd l := by unfold wd; rw [hd]
    obtain ⟨s1, _⟩ := solid_rv hs hl
    have hle := wd_le l hl
    obtain ⟨c', h'⟩ := ih (solid_drop hs _) (off + wd l) (col + 1)
    refine ⟨c', ?_⟩
    rw [wds_step _ _ _ _ (by simp), hr, hw, s1, if_neg Bool.false_ne_true, if_pos rfl, List.drop_append_of_le_length hle, h', List.length_drop]
    congr 1
    omega
theorem wds_wordE (off col : Nat) (l : List UInt8) (hl : l ≠ []) (hb : isBlank (rv l) = false) (h35 : rv l ≠ 35) : wds off col false l = ⟨tw l, off, col + 1⟩ :: wds off col true l := by
  rw [wds_step off col false l hl, wds_step off col true l hl, hb]
  simp [h35]
theorem wds_solid {a : List UInt8} (hs : Solid a) (hl : a ≠ []) (off col : Nat) (b : List UInt8) : ∃ col', wds off col false (a ++ 32 :: b) = ⟨a, off, col + 1⟩ :: wds (off + a.length + 1) col' false b := by
  have hd := dec32 a b hl
  have hr : rv (a ++ 32 :: b) = rv a := by unfold rv; rw [hd]
  obtain ⟨s1, s2⟩ := solid_rv hs hl
  have ht : tw (a ++ 32 :: b) = a := by
    unfold tw
    rw [List.takeWhile_append_of_pos (fun x hx => by obtain ⟨h1, _, h3, h4, _⟩ := hs x hx; simp [h1, h3, h4])]
    simp
  obtain ⟨c', h'⟩ := wds_in b a hs off col
  exact ⟨c', by rw [wds_wordE off col _ (by simp) (by rw [hr]; exact s1) (by rw [hr]; exact s2), ht, h']⟩
theorem trimR_valB {l : List UInt8} (h : ValB l) : trimR (32 :: l) = 32 :: l := by
  obtain ⟨⟨m, c, rfl, hc⟩, hb⟩ := h
  obtain ⟨h1, _, h3, _⟩ := hb c (by simp)
  have e : ∀ x : UInt8, (32 :: (m ++ [x])).reverse = x :: (32 :: m).reverse := fun x => by simp
  unfold trimR Lib.trimRightS
  rw [e, List.dropWhile_cons_of_neg (by simp [h1, h3, hc]), ← e, List.reverse_reverse]
/-- An event's line, but for its end. -/
def bodyE (e : Evn) : List UInt8 := if e.kind = 1 then [105, 110, 118] ++ 32 :: (e.proc ++ 32 :: (e.obj ++ 32 :: (e.op ++ 32 :: prV e.val))) else [114, 101, 115] ++ 32 :: (e.proc ++ 32 :: prV e.val)
theorem lnE_body (e : Evn) : lnE e = bodyE e ++ [10] := by
  unfold lnE bodyE
  split <;> simp [Lib.join, List.intercalate, List.intersperse]
theorem prL_flL (l : List Evn) : prL l = flL (l.map bodyE) := by
  unfold prL flL
  rw [List.map_map]
  congr 1
  exact List.map_congr_left fun e _ => lnE_body e
/-- The parts of a right event. -/
theorem right_solid {e : Evn} (h : rightE e = true) : (e.kind = 1 ∧ (e.proc ≠ [] ∧ Solid e.proc) ∧ (e.obj ≠ [] ∧ Solid e.obj) ∧ (e.op ≠ [] ∧ Solid e.op) ∧ fitB true e.proc = true ∧ fitB false e.obj = true ∧ fitB true e.op = true ∧ rightV e.val = true) ∨
    (e.kind = 2 ∧ (e.proc ≠ [] ∧ Solid e.proc) ∧ e.obj = [] ∧ e.op = [] ∧ fitB true e.proc = true ∧ rightV e.val = true) := by
  have sy : ∀ t : List UInt8, symB (bsN t) = true → t ≠ [] ∧ Solid t := fun t h => by
    rw [symB_b] at h
    unfold anyB at h
    simp only [Bool.and_eq_true, beq_iff_eq] at h
    exact name_solid h.2
  unfold rightE at h
  split at h
  · simp only [Bool.and_eq_true] at h
    obtain ⟨⟨⟨h1, h2⟩, h3⟩, h4⟩ := h
    have h2' := h2
    unfold anyB at h2'
    exact .inl ⟨‹_›, sy _ h1, name_solid (beq_iff_eq.1 h2'), sy _ h3, h1, h2, h3, h4⟩
  · split at h
    · simp only [Bool.and_eq_true, List.isEmpty_iff] at h
      obtain ⟨⟨⟨h1, h2⟩, h3⟩, h4⟩ := h
      exact .inr ⟨‹_›, sy _ h1, h2, h3, h1, h4⟩
    · cases h
theorem valB_of {v : Vl} (h : rightV v = true) : ValB (prV v) := prV_valB v.size v (Nat.le_refl _) ((rightV_is v).1 h).2.2
theorem inv_solid : Solid [105, 110, 118] := by unfold Solid; decide
theorem res_solid : Solid [114, 101, 115] := by unfold Solid; decide
theorem body_no {e : Evn} (h : rightE e = true) : ∀ b ∈ bodyE e, b ≠ 10 ∧ b ≠ 35 := by
  have hs : ∀ {l : List UInt8}, Solid l → ∀ b ∈ l, b ≠ 10 ∧ b ≠ 35 := fun h b hb => ⟨(h b hb).2.1, (h b hb).2.2.2.2⟩
  have hv : ∀ {l : List UInt8}, ValB l → ∀ b ∈ l, b ≠ 10 ∧ b ≠ 35 := fun h b hb => ⟨(h.2 b hb).2.1, (h.2 b hb).2.2.2⟩
  have jn : ∀ {A B : List UInt8}, (∀ b ∈ A, b ≠ 10 ∧ b ≠ 35) → (∀ b ∈ B, b ≠ 10 ∧ b ≠ 35) → ∀ b ∈ A ++ 32 :: B, b ≠ 10 ∧ b ≠ 35 := fun hA hB b hb => by
    rcases List.mem_append.1 hb with hb | hb
    · exact hA b hb
    · rcases List.mem_cons.1 hb with rfl | hb
      · decide
      · exact hB b hb
  unfold bodyE
  rcases right_solid h with ⟨hk, h1, h2, h3, _, _, _, h4⟩ | ⟨hk, h1, _, _, _, h4⟩
  · rw [if_pos hk]
    exact jn (hs inv_solid) (jn (hs h1.2) (jn (hs h2.2) (jn (hs h3.2) (hv (valB_of h4)))))
  · rw [if_neg (by omega)]
    exact jn (hs res_solid) (jn (hs h1.2) (hv (valB_of h4)))
theorem ahead_body {e : Evn} (h : rightE e = true) : aheadL (bodyE e) = bodyE e := by
  have := ahead_skip (bodyE e) [] (fun b hb => (body_no h b hb).2)
  rw [List.append_nil] at this
  rw [this]
  simp [aheadL]
theorem ev_body {e : Evn} (h : rightE e = true) (hok : okD 16 e.val) (n st : Nat) : ∃ w r a b c, wds 0 0 false (aheadL (bodyE e)) = w :: r ∧ evM6 (aheadL (bodyE e)) n st (w :: r) = .ok ⟨e.kind, e.proc, e.obj, e.op, e.val, a, b, c⟩ := by
  rw [ahead_body h]
  rcases right_solid h with ⟨hk, h1, h2, h3, f1, f2, f3, h4⟩ | ⟨hk, h1, ho, hp, f1, h4⟩
  · have hbd : bodyE e = [105, 110, 118] ++ 32 :: (e.proc ++ 32 :: (e.obj ++ 32 :: (e.op ++ 32 :: prV e.val))) := by unfold bodyE; rw [if_pos hk]
    rw [hbd]
    obtain ⟨c1, w1⟩ := wds_solid inv_solid (by simp) 0 0 (e.proc ++ 32 :: (e.obj ++ 32 :: (e.op ++ 32 :: prV e.val)))
    obtain ⟨c2, w2⟩ := wds_solid h1.2 h1.1 (0 + ([105, 110, 118] : List UInt8).length + 1) c1 (e.obj ++ 32 :: (e.op ++ 32 :: prV e.val))
    obtain ⟨c3, w3⟩ := wds_solid h2.2 h2.1 (0 + ([105, 110, 118] : List UInt8).length + 1 + e.proc.length + 1) c2 (e.op ++ 32 :: prV e.val)
    obtain ⟨c4, w4⟩ := wds_solid h3.2 h3.1 (0 + ([105, 110, 118] : List UInt8).length + 1 + e.proc.length + 1 + e.obj.length + 1) c3 (prV e.val)
    rw [w1, w2, w3, w4]
    refine ⟨_, _, ((st + 0 : Nat) : Int), (n : Int), ((0 + 1 : Nat) : Int), rfl, ?_⟩
    have hv : valM6 ([105, 110, 118] ++ 32 :: (e.proc ++ 32 :: (e.obj ++ 32 :: (e.op ++ 32 :: prV e.val)))) (0 + ([105, 110, 118] : List UInt8).length + 1 + e.proc.length + 1 + e.obj.length + 1 + e.op.length) = .ok e.val := by
      refine valM6_yes (t := 32 :: prV e.val) ?_ (parM_blank e.val h4 hok)
      have hd : ([105, 110, 118] ++ 32 :: (e.proc ++ 32 :: (e.obj ++ 32 :: (e.op ++ 32 :: prV e.val)))).drop (0 + ([105, 110, 118] : List UInt8).length + 1 + e.proc.length + 1 + e.obj.length + 1 + e.op.length) = 32 :: prV e.val := by
        have e1 : ([105, 110, 118] ++ 32 :: (e.proc ++ 32 :: (e.obj ++ 32 :: (e.op ++ 32 :: prV e.val)))) = ([105, 110, 118] ++ 32 :: (e.proc ++ 32 :: (e.obj ++ 32 :: e.op))) ++ 32 :: prV e.val := by simp
        rw [e1, List.drop_left' (by simp; omega)]
      rw [hd]
      exact trimR_valB (valB_of h4)
    simp only [evM6]
    rw [if_pos (show ([105, 110, 118] : List UInt8) = invL from rfl), nameM6_yes f1]
    simp only
    rw [nameM6_yes f2]
    simp only
    rw [nameM6_yes f3]
    simp only
    rw [hv, hk]
  · have hbd : bodyE e = [114, 101, 115] ++ 32 :: (e.proc ++ 32 :: prV e.val) := by unfold bodyE; rw [if_neg (by omega)]
    rw [hbd]
    obtain ⟨c1, w1⟩ := wds_solid res_solid (by simp) 0 0 (e.proc ++ 32 :: prV e.val)
    obtain ⟨c2, w2⟩ := wds_solid h1.2 h1.1 (0 + ([114, 101, 115] : List UInt8).length + 1) c1 (prV e.val)
    rw [w1, w2]
    refine ⟨_, _, ((st + 0 : Nat) : Int), (n : Int), ((0 + 1 : Nat) : Int), rfl, ?_⟩
    have hv : valM6 ([114, 101, 115] ++ 32 :: (e.proc ++ 32 :: prV e.val)) (0 + ([114, 101, 115] : List UInt8).length + 1 + e.proc.length) = .ok e.val := by
      refine valM6_yes (t := 32 :: prV e.val) ?_ (parM_blank e.val h4 hok)
      have hd : ([114, 101, 115] ++ 32 :: (e.proc ++ 32 :: prV e.val)).drop (0 + ([114, 101, 115] : List UInt8).length + 1 + e.proc.length) = 32 :: prV e.val := by
        have e1 : ([114, 101, 115] ++ 32 :: (e.proc ++ 32 :: prV e.val)) = ([114, 101, 115] ++ 32 :: e.proc) ++ 32 :: prV e.val := by simp
        rw [e1, List.drop_left' (by simp; omega)]
      rw [hd]
      exact trimR_valB (valB_of h4)
    simp only [evM6]
    rw [if_neg (show ¬ ([114, 101, 115] : List UInt8) = invL by decide), if_pos (show ([114, 101, 115] : List UInt8) = resL from rfl), nameM6_yes f1]
    simp only
    rw [hv, hk, ho, hp]
theorem go_back : ∀ (l : List Evn) (acc : List Evn) (st n : Nat), (∀ e ∈ l, rightE e = true ∧ okD 16 e.val) → ∃ l', goM6 acc st (numd n (l.map bodyE)) = .ok (acc ++ l') ∧ l'.map unsE = l.map unsE
  | [], acc, st, n, _ => ⟨[], by rw [List.map_nil, numd, goM6, List.append_nil], rfl⟩
  | e :: l, acc, st, n, h => by
    obtain ⟨h1, h2⟩ := h e (by simp)
    obtain ⟨w, r, a, b, c, hw, he⟩ := ev_body h1 h2 n st
    obtain ⟨l', k1, k2⟩ := go_back l (acc ++ [⟨e.kind, e.proc, e.obj, e.op, e.val, a, b, c⟩]) (st + (bodyE e).length + 1) (n + 1) fun x hx => h x (by simp [hx])
    refine ⟨⟨e.kind, e.proc, e.obj, e.op, e.val, a, b, c⟩ :: l', ?_, ?_⟩
    · rw [List.map_cons, numd, goM6_more (x := (n, bodyE e)) hw he]
      show goM6 _ (st + (bodyE e).length + 1) _ = _
      rw [k1]
      simp
    · rw [List.map_cons, List.map_cons, k2]
      rfl
theorem lines_prL {l : List Evn} (h : ∀ e ∈ l, rightE e = true) : lines (prL l) = numd 1 (l.map bodyE) := by
  have hno : ∀ p ∈ l.map bodyE, (10 : UInt8) ∉ p := fun p hp hm => by
    obtain ⟨e, he, rfl⟩ := List.mem_map.1 hp
    exact (body_no (h e he) 10 hm).1 rfl
  have := lns_flL [] (l.map bodyE) hno
  unfold lines
  rw [prL_flL]
  rw [List.append_nil] at this
  rw [this, lns, if_pos rfl, List.append_nil]
theorem parses_back {l : List Evn} (h : ∀ e ∈ l, rightE e = true ∧ okD 16 e.val) : ∃ l', parsesM (prL l) = .ok l' ∧ l'.map unsE = l.map unsE := by
  obtain ⟨l', h1, h2⟩ := go_back l [] 0 1 h
  refine ⟨l', ?_, h2⟩
  unfold parsesM
  rw [lines_prL fun e he => (h e he).1, h1, List.nil_append]
theorem numd_mem : ∀ (L : List (List UInt8)) (n : Nat) (x : Nat × List UInt8), x ∈ numd n L → x.2 ∈ L
  | [], _, _, h => by cases h
  | p :: L, n, x, h => by
    rw [numd] at h
    rcases List.mem_cons.1 h with rfl | h
    · simp
    · exact List.mem_cons_of_mem _ (numd_mem L (n + 1) x h)
theorem uns_len {l l' : List Evn} (h : l'.map unsE = l.map unsE) : l'.length = l.length := by
  have := congrArg List.length h
  rwa [List.length_map, List.length_map] at this
theorem uns_get {l l' : List Evn} (h : l'.map unsE = l.map unsE) (j : Nat) (h1 : j < l.length) (h2 : j < l'.length) : unsE l'[j] = unsE l[j] := by
  have e : (l'.map unsE)[j]'(by rw [List.length_map]; exact h2) = (l.map unsE)[j]'(by rw [List.length_map]; exact h1) := by congr 1
  rwa [List.getElem_map, List.getElem_map] at e
theorem uns_prL {l l' : List Evn} (h : l'.map unsE = l.map unsE) : prL l' = prL l := by
  have e : ∀ k : List Evn, prL k = ((k.map unsE).map lnE).flatten := fun k => by
    unfold prL
    rw [List.map_map]
    rfl
  rw [e, e, h]
theorem uns_right {l l' : List Evn} (h : l'.map unsE = l.map unsE) (hr : l.all rightE = true) : l'.all rightE = true := by
  have e : ∀ k : List Evn, k.all rightE = (k.map unsE).all rightE := fun k => by
    rw [List.all_map]
    rfl
  rw [e, h, ← e]
  exact hr
theorem uns_same {l l' : List Evn} (h : l'.map unsE = l.map unsE) (hr : l.all rightE = true) : sameB l l' = true :=
  sameB_yes (uns_len h).symm fun j h1 h2 _ => by
    have hv := (right_parts (List.all_eq_true.1 hr _ (List.getElem_mem h1))).2
    have e := uns_get h j h1 h2
    have e2 : simB l[j] l'[j] = simB l[j] (unsE l'[j]) := rfl
    rw [e2, e]
    exact simB_uns _ hv
end Go.Proofs.YtcedpdneanjbkaaGreatDoor

/- EventBack answers true. -/
namespace Go.Proofs.YtcedpdneanjbkaaGreatDoor
open Go.RowKit

theorem front_encL (l : List Evn) (hl : l.length ≤ 1048576) : (front (encL l)).1 < 1000000000 := by
  unfold encL
  rw [front_back l.length (by omega) _]
  show l.length < _
  omega
set_option maxRecDepth 100000 in
set_option maxHeartbeats 1000000 in
theorem eventBack_walk (l : List Evn) (w : World) (n : Nat) (sa : Value) (hT : Tabs w) (ha : EvsAt w w.heap.size n sa l) (hl : l.length ≤ 1048576) :
    Calls Tryz.prog 7 #[sa] w fun e w' => e = .returned (.bool true) ∧ Below w.heap.size w w' := by
  have q0 := fe0
  have HP := hide (print6_k l w n sa hT ha (pr_ok ha hl))
  have HE := hide (fun (U : World) (b : Below w.heap.size w U) => encode6_k l U n sa (hT.below b) ((ha.below b).up b.size) (fun k hk h => Nat.le_trans (enc_ok ha hl k hk h) (by decide)))
  have HA := hide (fun (U : World) (b : Below w.heap.size w U) => alive6_k U (hT.below b))
  unfold PrR at HP
  unfold EncR at HE
  cases hr : l.all rightE with
  | true =>
    have hre : ∀ e ∈ l, rightE e = true := fun e he => List.all_eq_true.1 hr e he
    have hev : ∀ e ∈ l, EvOk e ∧ ∀ m, okD m e.val := fun e he => by
      obtain ⟨j, hj, rfl⟩ := List.getElem_of_mem he
      obtain ⟨aa, ca, rfl, hla⟩ := ha.len
      obtain ⟨b, o, s, _, _, _, _, _, _, _, _, _, _, _, _, _, _, h5, h6, _⟩ := ha.item j hj
      exact ⟨h6, fun m => okD_at n m _ s h6.val h5⟩
    obtain ⟨l', hp, hu⟩ := parses_back (fun e he => ⟨hre e he, (hev e he).2 16⟩)
    have hdc : decL6 (encL l) = some (l.map unsE) := decL6_enc (by omega) fun e he => ⟨hre e he, (hev e he).1, (hev e he).2⟩
    have hpl : (prL l).length ≤ 1000000000000 := by
      have := pr_ok ha hl l.length (Nat.le_refl _) (fun j hj _ => hre _ (List.getElem_mem hj))
      rwa [List.take_length] at this
    have hel : (encL l).length ≤ 1000000000000 := by
      have := enc_ok ha hl l.length (Nat.le_refl _) (fun j hj _ => hre _ (List.getElem_mem hj))
      rw [List.take_length] at this
      exact Nat.le_trans this (by decide)
    have hll : ∀ x ∈ lines (prL l), x.2.length ≤ 1048576 := fun x hx => by
      rw [lines_prL hre] at hx
      obtain ⟨e, he, h2⟩ := List.mem_map.1 (numd_mem _ _ _ hx)
      obtain ⟨j, hj, rfl⟩ := List.getElem_of_mem he
      have := (ev_lens ha j hj (hre _ he)).2
      rw [lnE_body, List.length_append] at this
      rw [← h2]
      omega
    have hln : (lines (prL l)).length ≤ 999999999 := by
      rw [lines_prL hre, numd_length, List.length_map]
      omega
    have hfr := front_encL l hl
    have hl' := uns_len hu
    have hr' := uns_right hu hr
    have hpe := uns_prL hu
    have hs1 := uns_same hu hr
    have hs2 : sameB l (l.map unsE) = true := uns_same (by rw [List.map_map]; exact List.map_congr_left fun e _ => rfl) hr
    have hml : (l.map unsE).length = l.length := List.length_map _
    have HPA := hide (fun (U : World) (b : Below w.heap.size w U) => parse6_kB U (prL l) hpl hll hln (hT.below b))
    have HDE := hide (fun (U : World) (sl : Value) (b : Below w.heap.size w U) (h : BytesIn U 0 U.heap.size sl (encL l)) => decode6_kB U sl (encL l) h hel (.inr hfr) (hT.below b))
    have HP2 := hide (fun (U : World) (sl : Value) (b : Below w.heap.size w U) (h : EvsAt U U.heap.size 16 sl l') => print6_k l' U 16 sl (hT.below b) h (pr_ok h (by rw [hl']; exact hl)))
    have HS1 := hide (fun (U : World) (s2 : Value) (b : Below w.heap.size w U) (h2 : EvsAt U U.heap.size 16 s2 l') => same6_k l l' U n 16 sa s2 (hT.below b) ((ha.below b).up b.size) h2)
    have HS2 := hide (fun (U : World) (s2 : Value) (b : Below w.heap.size w U) (h2 : EvsAt U U.heap.size 4097 s2 (l.map unsE)) => same6_k l (l.map unsE) U n 4097 sa s2 (hT.below b) ((ha.below b).up b.size) h2)
    unfold PrR at HP2
    unfold Pa6 at HPA
    unfold De6 at HDE
    simp only [hr, if_true] at HP HE
    simp only [hr', if_true, hpe] at HP2
    simp only [hp] at HPA
    simp only [hdc] at HDE
    simp only [hs1] at HS1
    simp only [hs2] at HS2
    have hm9 : (l.map unsE).length ≤ 1000000000 := by omega
    have hl9 : l'.length ≤ 1000000000 := by omega
    obtain ⟨a0, c0, rfl, _⟩ := ha.len
    clear ha hT hr hre hev hp hdc hpl hel hll hln hfr hr' hpe hs1 hs2 hu hl' hml
    generalize l.map unsE = m at *
    generalize str (prL l) = s at *
    generalize encL l = EL at *
    go_enter Tryz.func7, Tryz.ntmps7
    go_wp2_with (first
      | (go_at_call 10; refine HP.out.mono ?_; clear HP; rintro e w1 ⟨b1, rfl⟩; have HE1 := hide (HE.out w1 b1); have B1 := hide b1; clear HE b1)
      | (go_at_call 15; refine HE1.out.mono ?_; clear HE1; rintro e w2 ⟨ba, bc, rfl, o2, b2⟩; have BW2 := trans_v B1.out b2; have by2 := (ownsRow_bytes o2).2.mono (fun _ _ _ _ => rfl) (Nat.zero_le _) (Nat.le_refl _); have HPA2 := hide (HPA.out w2 BW2); have S2 := hide (And.intro BW2 by2); clear HPA o2 b2 BW2 by2)
      | (go_at_call 20; refine HPA2.out.mono ?_; clear HPA2; rintro e w3 ⟨b3, v3, rfl, mk3⟩; obtain ⟨va, vc, rfl⟩ := mk3.len; obtain ⟨W3, hW3⟩ : ∃ W3, w3.alloc (.cells #[.int .i64 0, .int .i64 0, .int .i64 0, .int .i64 0] 53) = W3 := ⟨_, rfl⟩; have bA : Below w3.heap.size w3 W3 := (by rw [← hW3]; exact alloc_v (Below.refl _ _) _); have f3 : W3.heap[w3.heap.size]? = some (.cells #[.int .i64 0, .int .i64 0, .int .i64 0, .int .i64 0] 53 (0, 0)) := (by rw [← hW3]; exact World.alloc_heap_new w3 _); have ev3 := ((mk3.evs hl9).below bA).up bA.size; have b23 := trans_v b3 bA; have BW3 := trans_v S2.out.1 b23; have by3 := S2.out.2.mono (fun b' o _ hb' => b23.cell (p := ⟨b', o, none⟩) hb') (Nat.le_refl _) b23.size; have HDE3 := hide (HDE.out W3 _ BW3 by3); have S3 := hide (And.intro BW3 (And.intro ev3 f3)); clear HDE b3 mk3 bA f3 ev3 b23 BW3 by3 S2; subst hW3)
      | (go_at_call 17; refine HDE3.out.mono ?_; clear HDE3; rintro e w4 ⟨b4, v4, rfl, mk4⟩; obtain ⟨da, dc, rfl⟩ := mk4.len; have BW4 := trans_v S3.out.1 b4; have dv4 := mk4.evs hm9; have ev4 := (S3.out.2.1.below b4).up b4.size; have f4 := (b4.block _ (Array.getElem?_eq_some_iff.1 S3.out.2.2).1).trans S3.out.2.2; have HP24 := hide (HP2.out w4 _ BW4 ev4); have S4 := hide (And.intro BW4 (And.intro ev4 (And.intro dv4 f4))); clear HP2 b4 mk4 BW4 dv4 ev4 f4 S3)
      | (go_at_call 10; refine HP24.out.mono ?_; clear HP24; rintro e w5 ⟨b5, rfl⟩; have BW5 := trans_v S4.out.1 b5; have ev5 := (S4.out.2.1.below b5).up b5.size; have dv5 := (S4.out.2.2.1.below b5).up b5.size; have f5 := (b5.block _ (Array.getElem?_eq_some_iff.1 S4.out.2.2.2).1).trans S4.out.2.2.2; have c0 := cells_at f5 0 _ rfl; have c1 := cells_at f5 1 _ rfl; have c2 := cells_at f5 2 _ rfl; have c3 := cells_at f5 3 _ rfl; have HS15 := hide (HS1.out w5 _ BW5 ev5); have S5 := hide (And.intro BW5 dv5); clear HS1 b5 BW5 ev5 dv5 f5 S4)
      | (go_at_call 12; refine (num6_k _ _).mono ?_; rintro e wq ⟨rfl, rfl⟩)
      | (go_at_call 19; refine HS15.out.mono ?_; clear HS15; rintro e w6 ⟨rfl, b6⟩; have BW6 := trans_v S5.out.1 b6; have dv6 := (S5.out.2.below b6).up b6.size; have HS26 := hide (HS2.out w6 _ BW6 dv6); have B6 := hide BW6; clear HS2 b6 BW6 dv6 S5)
      | (go_at_call 19; refine HS26.out.mono ?_; clear HS26; rintro e w7 ⟨rfl, b7⟩; have BW7 := trans_v B6.out b7; have HA7 := hide (HA.out w7 BW7); have B7 := hide BW7; clear HA b7 BW7 B6)
      | (go_at_call 14; refine HA7.out.mono ?_; clear HA7; rintro e w8 ⟨rfl, b8⟩; have B8 := hide (trans_v B7.out b8); clear b8))
    go_ret
    exact ⟨rfl, B8.out⟩
  | false =>
    simp only [hr, Bool.false_eq_true, if_false] at HP HE
    obtain ⟨a0, c0, rfl, _⟩ := ha.len
    clear ha hT hr
    go_enter Tryz.func7, Tryz.ntmps7
    go_wp2_with (first
      | (go_at_call 10; refine HP.out.mono ?_; clear HP; rintro e w1 ⟨b1, rfl⟩; have HE1 := hide (HE.out w1 b1); have B1 := hide b1; clear HE b1)
      | (go_at_call 15; refine HE1.out.mono ?_; clear HE1; rintro e w2 ⟨rfl, b2⟩; have B2 := hide (trans_v B1.out b2); clear b2)
      | (go_at_call 12; refine (num6_k _ _).mono ?_; rintro e wq ⟨rfl, rfl⟩)
      | (go_at_call 14; refine (HA.out _ B2.out).mono ?_; clear HA; rintro e w3 ⟨rfl, b3⟩; have B3 := hide (trans_v B2.out b3); clear b3))
    go_ret
    exact ⟨rfl, B3.out⟩
end Go.Proofs.YtcedpdneanjbkaaGreatDoor

/- EventBack holds of every input within the bulk. -/
namespace Go.Proofs.YtcedpdneanjbkaaGreatDoor.eventBack
open Go.ChangeShapes Go.WideShapes Go.ChangeAt Go.RowKit
open Go.ChangeMaps (open_string)

set_option maxRecDepth 100000 in
theorem contract (H : Type) (enc : TypeId × Value → H) (W : World) (base : Nat) (args : Array Value) (ds gs : List (DataW H)) (before : List MemPlace)
    (hval : ∀ (j : Nat) t v, Tryz.f7.params[j]? = some t → args[j]? = some v → Value.okWide Tryz.prog W .any base t v)
    (hW : DataW.Whole enc Tryz.prog Tryz.f7.params.toList Rows.eventBackSpec.vars false W args.toList ds gs before) (hL : laidMetH Tryz.prog laidE W) (hk : Rows.uptoBulkAll (ds ++ gs) ≤ 1048576) :
    Calls Tryz.prog 7 args W fun e W' => ∃ v, e = .returned v ∧ Rows.eventBackSpec.post enc Tryz.prog Tryz.f7 false true false false W args v W' := by
  have hW' := hW
  obtain ⟨p, q, hA0, hV, rfl, hfz, hnd⟩ := hW
  have hA : DataW.TrodAll enc Tryz.prog W 0 (fun _ => true) true Tryz.f7.params.toList args.toList ds p := hA0
  rw [Tryz.params7] at hA hval
  obtain ⟨v0, vs0, d0, ds0, p0, q0, hargs, rfl, rfl, h0, r0⟩ := trodAll_cons hA
  obtain ⟨rfl, rfl, rfl⟩ := trodAll_nil r0
  obtain rfl : args = #[v0] := by cases args; simp_all
  obtain ⟨rfl, rfl⟩ := trodVars_none hV
  simp only [List.append_nil, Rows.uptoBulkAll] at hk
  obtain ⟨a0, len0, cap0, rfl⟩ := okWide_slice Tryz.underlying22 (hval 0 22 v0 rfl rfl)
  have k0 := h0
  have lt0 : ∀ x ∈ p0, x.block < W.heap.size := by obtain ⟨m, hm⟩ := k0; exact DataW.trod_lt m _ _ _ hm
  obtain ⟨fuel0, hf0⟩ := h0
  obtain ⟨l0, hl0, hI0, hs0⟩ := open_evs hf0 (by omega)
  subst hl0
  clear hA0
  simp only [List.append_nil] at hW'
  refine (eventBack_walk l0 W (fuel0 + 2) _ (tabsE_of_laid hL) hI0 (by omega)).mono fun e W' ⟨he, bel⟩ => ?_
  subst he
  exact ⟨_, rfl, _, _, _, [], _, [], hW', trodAll_mk1 (shut_bool Tryz.underlying4 _), trodAll_cons_mk (Below.trod laidOut (by kernel_rfl) (of_decide_eq_true (by kernel_rfl)) k0 bel lt0) trodAll_mk0, rfl, bel.frame _, fun h => by cases h⟩

theorem laid_met (os : Os) : laidMet Tryz.prog Rows.eventBackUptoRow.laid ((laidWorldE os).forCall (fun _ _ => 0) ⟨#[], #[.slice none 0 0], []⟩).memory :=
  laidMet_of_run' 8 (by kernel_rfl) (by kernel_rfl)
theorem reads (os : Os) {H : Type} (enc : TypeId × Value → H) : ∃ places, DataW.whole enc Tryz.prog ((laidWorldE os).forCall (fun _ _ => 0) ⟨#[], #[.slice none 0 0], []⟩).memory Tryz.f7.params.toList Rows.eventBackSpec.vars false #[Value.slice none 0 0].toList 8 = some ([.nil], [], places) :=
  ⟨[], by kernel_rfl⟩

set_option maxRecDepth 100000 in
theorem liftedUpto (os : Os) (started : os.Started) (H : Type) (enc : TypeId × Value → H) (F : Stop.Interp) :
    ReturnsInHanded {} Tryz.checked os 7 .any ((Rows.OpenSpec.upto Rows.eventBackSpec).preRow enc Tryz.prog Tryz.f7 Rows.eventBackUptoRow.domain false Rows.eventBackUptoRow.laid) (((Rows.OpenSpec.upto Rows.eventBackSpec).at F).post enc Tryz.prog Tryz.f7 false true false false) := by
  obtain ⟨places, hx⟩ := reads os enc
  refine returnsInHanded_of_row (C := Tryz.checked) (s := Rows.OpenSpec.upto Rows.eventBackSpec) own started (by kernel_rfl) Tryz.func7
    (witness_row_at (enc := enc) (C := Tryz.checked) false (laidWorldE os) #[.slice none 0 0] rfl (by kernel_rfl) (by kernel_rfl) (by kernel_rfl)
      (OpenSpec.preRow_of_cond 8 hx (by kernel_rfl) (fun k hk => by cases hk; kernel_rfl) (by kernel_rfl) (laid_met os))) ?_
  intro W base args ds gs before hval hW _ hcond _ hL _ _
  exact contract H enc W base args ds gs before hval hW hL (of_decide_eq_true (hcond _ rfl))

theorem saidUpto : Rows.EventBackUptoSaid :=
  OpenClaim.holds_of_cond 7 Tryz.f7 rfl rfl rfl rfl rfl rfl rfl ⟨rfl, rfl, rfl, rfl, rfl⟩ rfl rfl rfl rfl rfl (by kernel_rfl) Tryz.func7 (by kernel_rfl)
    (of_decide_eq_true (by kernel_rfl)) (by unfold Func.isWrapper; first | (rw [if_pos (by decide +kernel)]; kernel_rfl) | (rw [if_neg (by decide +kernel)]; exact ⟨rfl, rfl⟩))
    (fun os started H enc _ F => by rw [OpenClaim.pre_eq_preRow]; exact liftedUpto os started H enc F)

theorem plain (f : FuncId) (fn : Func) (hf : Tryz.pinned.checked.prog.funcNamed Rows.eventBackRow.func = some f) (hfn : Tryz.pinned.checked.prog.funcs[f]? = some fn) :
    true = Tryz.pinned.checked.prog.looks [] ∧ ∀ (j : Nat) t, fn.params[j]? = some t → Tryz.pinned.checked.prog.wantsStandIn t = false := by
  obtain rfl : f = 7 := Option.some.inj ((show Tryz.prog.funcNamed Rows.eventBackRow.func = some 7 by kernel_rfl).symm.trans hf) |>.symm
  obtain rfl : fn = Tryz.f7 := (Option.some.inj (Tryz.func7.symm.trans hfn)).symm
  refine ⟨by kernel_rfl, fun j t ht => ?_⟩
  rw [Tryz.params7] at ht
  obtain rfl : t = 22 := by simpa using Array.mem_of_getElem? ht
  exact (show Tryz.prog.wantsStandIn 22 = false by kernel_rfl)

theorem cardUpto : Rows.EventBackUptoCardSaid :=
  Claim7.holds_tied_plain_at .later [] _ _ _ _ saidUpto (fun _ h => by cases h) (by kernel_rfl) (fun _ h => by cases h) eventBackUpto_row_tie rfl ⟨rfl, rfl⟩ (by kernel_rfl) rfl plain (by kernel_rfl)
end Go.Proofs.YtcedpdneanjbkaaGreatDoor.eventBack
namespace Go.Proofs.YtcedpdneanjbkaaGreatDoor
theorem eventBack_upto : Rows.EventBackUptoCardSaid := eventBack.cardUpto
#print axioms eventBack_upto
end Go.Proofs.YtcedpdneanjbkaaGreatDoor
