/- What stands ahead of the line that is wrong, and what is put behind it: plain mathematics. -/
import Derived.Test.YthmhcpghfbifiaaGreatDoorGEF
import Derived.Test.YthmhcpghfbifiaaGreatDoorGGvA
namespace Go.Proofs.YthmhcpghfbifiaaGreatDoor
open Go.RowKit

theorem decN_ge (n m b0 b1 b2 b3 : Nat) (hn : 4 ≤ n) (hm : 4 ≤ m) : Lib.decodeN n b0 b1 b2 b3 = Lib.decodeN m b0 b1 b2 b3 := by
  have e1 : 1 < n := by omega
  have e2 : 2 < n := by omega
  have e3 : 3 < n := by omega
  have f1 : 1 < m := by omega
  have f2 : 2 < m := by omega
  have f3 : 3 < m := by omega
  simp only [Lib.decodeN, e1, e2, e3, f1, f2, f3, true_and]
/-- A line's end keeps the runes ahead of it as they are. -/
theorem dec10 (l b : List UInt8) (hl : l ≠ []) : Lib.decodeL (l ++ 10 :: b) = Lib.decodeL l := by
  rw [Lib.decodeL_N, Lib.decodeL_N]
  match l, hl with
  | [a], _ => simp [Lib.decodeN]
  | [a, a1], _ => simp [Lib.decodeN]
  | [a, a1, a2], _ => simp [Lib.decodeN]
  | a :: a1 :: a2 :: a3 :: t, _ =>
    have h1 : (a :: a1 :: a2 :: a3 :: t ++ 10 :: b).length = t.length + b.length + 1 + 4 := by simp; omega
    have h2 : (a :: a1 :: a2 :: a3 :: t).length = t.length + 4 := by simp
    rw [h1, h2]
    simp only [List.cons_append, List.getD_cons_zero, List.getD_cons_succ]
    exact decN_ge _ _ _ _ _ _ (by omega) (by omega)
theorem ru_app10 (b : List UInt8) : ∀ l, ru (l ++ 10 :: b) = ru l ++ ru (10 :: b) := by
  refine ru_ind (by rw [ru_nil]; rfl) ?_
  intro l hl ih
  have hd := dec10 l b hl
  have hr : rv (l ++ 10 :: b) = rv l := by unfold rv; rw [hd]
  have hw : wd (l ++ 10 :: b) = wd l := by unfold wd; rw [hd]
  rw [ru_step _ (by simp), ru_step l hl, hr, hw, List.drop_append_of_le_length (wd_le l hl), ih, List.cons_append]
theorem ruW_sum : ∀ l, ((ru l).map (·.2)).sum = l.length := by
  refine ru_ind (by rw [ru_nil]; rfl) ?_
  intro l hl ih
  have := wd_le l hl
  rw [ru_step l hl, List.map_cons, List.sum_cons, ih, List.length_drop]
  dsimp only
  omega
theorem atR_app (o : Nat) (Y : List (Int × Nat)) : ∀ (X : List (Int × Nat)) (k line col : Nat), o ≤ k + (X.map (·.2)).sum → atR o k line col (X ++ Y) = atR o k line col X
  | [], k, line, col, h => by
    have h' : ¬ k < o := by simp at h; omega
    cases Y with
    | nil => rfl
    | cons y t => obtain ⟨r, n⟩ := y; simp [atR, h']
  | (r, n) :: t, k, line, col, h => by
    rw [List.map_cons, List.sum_cons] at h
    rw [List.cons_append, atR, atR]
    split
    · exact atR_app o Y t _ _ _ (by dsimp only at h; omega)
    · rfl
/-- A text's end, or a line's. -/
def EndR (R : List UInt8) : Prop := R = [] ∨ ∃ t, R = 10 :: t
theorem at_same (a R : List UInt8) (o : Nat) (ho : o ≤ a.length) (hR : EndR R) : atR o 0 1 1 (ru (a ++ R)) = atR o 0 1 1 (ru a) := by
  rcases hR with rfl | ⟨t, rfl⟩
  · rw [List.append_nil]
  · rw [ru_app10]
    exact atR_app o _ _ 0 1 1 (by rw [ruW_sum]; omega)
theorem fcells_same (a R R' : List UInt8) (c : Int) (o : Nat) (ho : o ≤ a.length) (hR : EndR R) (hR' : EndR R') : fcells (a ++ R) c o = fcells (a ++ R') c o := by
  have k1 : clamp (str (a ++ R)) (o : Int) = o := by unfold clamp; rw [str_size, List.length_append]; omega
  have k2 : clamp (str (a ++ R')) (o : Int) = o := by unfold clamp; rw [str_size, List.length_append]; omega
  unfold fcells
  rw [k1, k2, at_same a R o ho hR, at_same a R' o ho hR']
/-- Lines with their ends. -/
def flL (P : List (List UInt8)) : List UInt8 := (P.map (· ++ [10])).flatten
theorem flL_cons (p : List UInt8) (P : List (List UInt8)) : flL (p :: P) = p ++ 10 :: flL P := by simp [flL]
theorem flL_len : ∀ (P : List (List UInt8)) (n : Nat), (flL P).length = stL (numd n P)
  | [], _ => rfl
  | p :: P, n => by
    rw [flL_cons, numd, stL_cons, List.length_append, List.length_cons, flL_len P (n + 1)]
    dsimp only
    omega
/-- A text by its lines. -/
theorem lns_split : ∀ (s cur : List UInt8) (P : List (List UInt8)) (x : List UInt8) (Q : List (List UInt8)), (10 : UInt8) ∉ cur → lns cur s = P ++ x :: Q → (∀ p ∈ P, (10 : UInt8) ∉ p) ∧ (10 : UInt8) ∉ x ∧ ∃ R, EndR R ∧ cur ++ s = flL P ++ (x ++ R)
  | [], cur, P, x, Q, hc, h => by
    rw [lns] at h
    split at h
    · cases P <;> cases h
    · cases P with
      | nil =>
        cases h
        exact ⟨fun p hp => (by cases hp), hc, [], .inl rfl, by simp [flL]⟩
      | cons p P => cases P <;> cases h
  | b :: t, cur, P, x, Q, hc, h => by
    rw [lns] at h
    split at h
    · rename_i hb
      subst hb
      cases P with
      | nil =>
        rw [List.nil_append, List.cons.injEq] at h
        obtain ⟨rfl, rfl⟩ := h
        exact ⟨fun p hp => (by cases hp), hc, 10 :: t, .inr ⟨t, rfl⟩, by simp [flL]⟩
      | cons p P =>
        rw [List.cons_append, List.cons.injEq] at h
        obtain ⟨rfl, h⟩ := h
        obtain ⟨h1, h2, R, h3, h4⟩ := lns_split t [] P x Q (by simp) h
        refine ⟨fun q hq => ?_, h2, R, h3, ?_⟩
        · rcases List.mem_cons.1 hq with rfl | hq
          · exact hc
          · exact h1 q hq
        · rw [List.nil_append] at h4
          rw [flL_cons, h4]
          simp
    · rename_i hb
      obtain ⟨h1, h2, R, h3, h4⟩ := lns_split t (cur ++ [b]) P x Q (by simp [hc]; exact fun e => hb e.symm) h
      exact ⟨h1, h2, R, h3, by rw [← h4]; simp⟩
theorem lns_flL (Z : List UInt8) : ∀ P : List (List UInt8), (∀ p ∈ P, (10 : UInt8) ∉ p) → lns [] (flL P ++ Z) = P ++ lns [] Z
  | [], _ => rfl
  | p :: P, h => by
    have h1 : ∀ b ∈ p, b ≠ 10 := fun b hb e => h p (by simp) (e ▸ hb)
    rw [flL_cons, List.append_assoc, lns_skip p [] _ h1, List.nil_append, List.cons_append, lns, if_pos rfl, lns_flL Z P fun q hq => h q (by simp [hq]), List.cons_append]
theorem numd_app : ∀ (A B : List (List UInt8)) (n : Nat), numd n (A ++ B) = numd n A ++ numd (n + A.length) B
  | [], B, n => rfl
  | a :: A, B, n => by
    rw [List.cons_append, numd, numd, numd_app A B (n + 1), List.cons_append, List.length_cons]
    have : n + 1 + A.length = n + (A.length + 1) := by omega
    rw [this]
theorem numd_split : ∀ (L : List (List UInt8)) (n : Nat) (pre : List (Nat × List UInt8)) (x : Nat × List UInt8) (post : List (Nat × List UInt8)), numd n L = pre ++ x :: post → ∃ P Q, L = P ++ x.2 :: Q ∧ pre = numd n P ∧ x.1 = n + P.length
  | [], n, pre, x, post, h => by cases pre <;> cases h
  | a :: L, n, pre, x, post, h => by
    rw [numd] at h
    cases pre with
    | nil =>
      rw [List.nil_append, List.cons.injEq] at h
      obtain ⟨rfl, _⟩ := h
      exact ⟨[], L, rfl, rfl, rfl⟩
    | cons y pre =>
      rw [List.cons_append, List.cons.injEq] at h
      obtain ⟨rfl, h⟩ := h
      obtain ⟨P, Q, rfl, rfl, hx⟩ := numd_split L (n + 1) pre x post h
      exact ⟨a :: P, Q, rfl, rfl, by rw [hx, List.length_cons]; omega⟩
theorem nameM6_err {p : Bool} {said : List UInt8} {l : List Wd} {c : Int} {o : Nat} (hl : ∀ x ∈ l, x.off + x.text.length ≤ said.length) (h : nameM6 p said l = .error (c, o)) : c ≠ 0 ∧ o ≤ said.length := by
  cases l with
  | nil => cases h; exact ⟨by decide, Nat.le_refl _⟩
  | cons x r =>
    simp only [nameM6] at h
    split at h
    · cases h
    · cases h
      have := hl x (by simp)
      exact ⟨by decide, by omega⟩
theorem clamp_le (s : ByteArray) (o : Int) : clamp s o ≤ s.size := by unfold clamp; omega
theorem valM6_err {said : List UInt8} {rd : Nat} {c : Int} {o : Nat} (hr : rd ≤ said.length) (h : valM6 said rd = .error (c, o)) : c ≠ 0 ∧ o ≤ said.length := by
  unfold valM6 at h
  cases hp : parM (trimR (said.drop rd)) with
  | ok v => rw [hp] at h; cases h
  | error z =>
    obtain ⟨c', o'⟩ := z
    have hc := parM_code hp
    have hc0 : c' ≠ 0 := by unfold CodeOk at hc; omega
    have h1 := clamp_le (str (trimR (said.drop rd))) o'
    have h2 := trimR_len (said.drop rd)
    rw [str_size] at h1
    rw [List.length_drop] at h2
    rw [hp] at h
    simp only at h
    split at h
    · cases h
      exact ⟨hc0, Nat.le_refl _⟩
    · cases h
      exact ⟨hc0, by omega⟩
theorem evM6_err {said : List UInt8} {n start : Nat} {l : List Wd} {c : Int} {o : Nat} (hl : ∀ x ∈ l, x.off + x.text.length ≤ said.length) (h : evM6 said n start l = .error (c, o)) : c ≠ 0 ∧ o ≤ said.length := by
  cases l with
  | nil => cases h; exact ⟨by decide, Nat.zero_le _⟩
  | cons x r =>
    have hx := hl x (by simp)
    have hr : ∀ y ∈ r, y.off + y.text.length ≤ said.length := fun y hy => hl y (by simp [hy])
    simp only [evM6] at h
    split at h
    · cases h0 : nameM6 true said r with
      | error z => rw [h0] at h; cases h; exact nameM6_err hr h0
      | ok z0 =>
        obtain ⟨p, r1, rd1⟩ := z0
        rw [h0] at h
        simp only at h
        obtain ⟨_, y0, e0, _, _⟩ := nameM6_ok h0
        have hr1 : ∀ y ∈ r1, y.off + y.text.length ≤ said.length := fun y hy => hr y (by rw [e0]; simp [hy])
        cases h1 : nameM6 false said r1 with
        | error z => rw [h1] at h; cases h; exact nameM6_err hr1 h1
        | ok z1 =>
          obtain ⟨q, r2, rd2⟩ := z1
          rw [h1] at h
          simp only at h
          obtain ⟨_, y1, e1, _, _⟩ := nameM6_ok h1
          have hr2 : ∀ y ∈ r2, y.off + y.text.length ≤ said.length := fun y hy => hr1 y (by rw [e1]; simp [hy])
          cases h2 : nameM6 true said r2 with
          | error z => rw [h2] at h; cases h; exact nameM6_err hr2 h2
          | ok z2 =>
            obtain ⟨q', r3, rd3⟩ := z2
            rw [h2] at h
            simp only at h
            obtain ⟨_, y2, e2, _, e3⟩ := nameM6_ok h2
            cases h3 : valM6 said rd3 with
            | error z => rw [h3] at h; cases h; exact valM6_err (by rw [e3]; exact hr2 y2 (by rw [e2]; simp)) h3
            | ok v => rw [h3] at h; cases h
    · split at h
      · cases h0 : nameM6 true said r with
        | error z => rw [h0] at h; cases h; exact nameM6_err hr h0
        | ok z0 =>
          obtain ⟨p, r1, rd1⟩ := z0
          rw [h0] at h
          simp only at h
          obtain ⟨_, y0, e0, _, e3⟩ := nameM6_ok h0
          cases h3 : valM6 said rd1 with
          | error z => rw [h3] at h; cases h; exact valM6_err (by rw [e3]; exact hr y0 (by rw [e0]; simp)) h3
          | ok v => rw [h3] at h; cases h
      · cases h
        exact ⟨by decide, by omega⟩
/-- Where the events of lines stop. -/
theorem goM6_err : ∀ (L : List (Nat × List UInt8)) (acc : List Evn) (st : Nat) (c : Int) (o : Nat), goM6 acc st L = .error (c, o) →
    ∃ pre x post, L = pre ++ x :: post ∧ (∃ a, goM6 acc st pre = .ok a) ∧ (∀ R, goM6 acc st (pre ++ x :: R) = .error (c, o)) ∧ st + stL pre ≤ o ∧ o ≤ st + stL pre + x.2.length ∧ c ≠ 0
  | [], acc, st, c, o, h => by cases h
  | x :: more, acc, st, c, o, h => by
    cases hw : wds 0 0 false (aheadL x.2) with
    | nil =>
      rw [goM6_none hw] at h
      obtain ⟨pre, y, post, e, ⟨a, h1⟩, h2, h3, h4, h5⟩ := goM6_err more acc (st + x.2.length + 1) c o h
      exact ⟨x :: pre, y, post, by rw [e]; rfl, ⟨a, by rw [goM6_none hw]; exact h1⟩, fun R => by rw [List.cons_append, goM6_none hw]; exact h2 R, by rw [stL_cons]; omega, by rw [stL_cons]; omega, h5⟩
    | cons y r =>
      cases he : evM6 (aheadL x.2) x.1 st (y :: r) with
      | error z =>
        obtain ⟨c', o'⟩ := z
        obtain ⟨k1, k2⟩ := evM6_err (by rw [← hw]; exact wds_all _) he
        have k3 := ahead_len x.2
        rw [goM6_stop hw he] at h
        cases h
        exact ⟨[], x, more, rfl, ⟨acc, rfl⟩, fun R => goM6_stop hw he, by simp [stL], by simp [stL]; omega, k1⟩
      | ok e =>
        rw [goM6_more hw he] at h
        obtain ⟨pre, z, post, e', ⟨a, h1⟩, h2, h3, h4, h5⟩ := goM6_err more (acc ++ [e]) (st + x.2.length + 1) c o h
        exact ⟨x :: pre, z, post, by rw [e']; rfl, ⟨a, by rw [goM6_more hw he]; exact h1⟩, fun R => by rw [List.cons_append, goM6_more hw he]; exact h2 R, by rw [stL_cons]; omega, by rw [stL_cons]; omega, h5⟩
/-- The first line that is wrong: what is ahead of it parses, and what follows it does not matter. -/
theorem first_err {s : List UInt8} {c : Int} {o : Nat} (h : parsesM s = .error (c, o)) :
    ∃ A x R, s = A ++ (x ++ R) ∧ EndR R ∧ (10 : UInt8) ∉ x ∧ (A = [] ∨ ∃ A', A = A' ++ [10]) ∧ A.length ≤ o ∧ o ≤ A.length + x.length ∧ c ≠ 0 ∧ (∃ a, parsesM A = .ok a) ∧ ∀ more, parsesM (A ++ x ++ 10 :: more) = .error (c, o) := by
  unfold parsesM at h
  obtain ⟨pre, x, post, e, ⟨a, h1⟩, h2, h3, h4, h5⟩ := goM6_err _ _ _ _ _ h
  obtain ⟨P, Q, eL, ep, ex⟩ := numd_split _ 1 pre x post e
  obtain ⟨k1, k2, R, k3, k4⟩ := lns_split s [] P x.2 Q (by simp) eL
  rw [List.nil_append] at k4
  have hl := flL_len P 1
  rw [← ep] at hl
  refine ⟨flL P, x.2, R, k4, k3, k2, ?_, by omega, by omega, h5, ⟨a, ?_⟩, fun more => ?_⟩
  · rcases List.eq_nil_or_concat P with rfl | ⟨P', p, rfl⟩
    · exact .inl rfl
    · exact .inr ⟨flL P' ++ p, by simp [flL]⟩
  · unfold parsesM lines
    have := lns_flL [] P k1
    rw [List.append_nil] at this
    rw [this, lns, if_pos rfl, List.append_nil, ← ep]
    exact h1
  · unfold parsesM lines
    have hx : ∀ b ∈ x.2, b ≠ 10 := fun b hb e => k2 (e ▸ hb)
    rw [List.append_assoc, lns_flL _ P k1, lns_skip x.2 [] _ hx, List.nil_append, lns, if_pos rfl, numd_app, ← ep, numd]
    have := h2 (numd (1 + P.length + 1) (lns [] more))
    have hxx : (1 + P.length, x.2) = x := by rw [← ex]
    rw [hxx]
    exact this
end Go.Proofs.YthmhcpghfbifiaaGreatDoor
