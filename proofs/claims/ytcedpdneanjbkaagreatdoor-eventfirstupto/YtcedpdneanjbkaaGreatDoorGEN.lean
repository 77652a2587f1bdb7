/- What stands ahead of the line that is wrong, and what is put behind it: plain mathematics. -/
import Derived.Test.YtcedpdneanjbkaaGreatDoorGEF
import Derived.Test.YtcedpdneanjbkaaGreatDoorGGvA
import Derived.BigQuiet
import Derived.Test.YtcedpdneanjbkaaGreatDoorGEH
import Derived.Test.YtcedpdneanjbkaaGreatDoorGOpens
import Derived.ChangeMaps5
namespace Go.Proofs.YtcedpdneanjbkaaGreatDoor
open Go.RowKit

theorem decN_ge (n m b0 b1 b2 b3 : Nat) (hn : 4 ≤ n) (hm : 4 ≤ m) : Lib.decodeN n b0 b1 b2 b3 = Lib.decodeN m b0 b1 b2 b3 := by
  have e1 : 1 < n := by omega
  have e2 : 2 < n := by omega
  have e3 : 3 < n := by omega
  have f1 : 1 < m := by omega
  have f2 : 2 < m := by omega
  have f3 : 3 < m := by omega
  simp only [Lib.decodeN, e1, e2, e3, f1, f2, f3, true_and]
/-- A line's end keeps the runes ahead of it as they are. -/
theorem dec10 (l b : List UInt8) (hl : l ≠ []) : Lib.decodeL (l ++ 10 :: b) = Lib.decodeL l := by
  rw [Lib.decodeL_N, Lib.decodeL_N]
  match l, hl with
  | [a], _ => simp [Lib.decodeN]
  | [a, a1], _ => simp [Lib.decodeN]
  | [a, a1, a2], _ => simp [Lib.decodeN]
  | a :: a1 :: a2 :: a3 :: t, _ =>
    have h1 : (a :: a1 :: a2 :: a3 :: t ++ 10 :: b).length = t.length + b.length + 1 + 4 := by simp; omega
    have h2 : (a :: a1 :: a2 :: a3 :: t).length = t.length + 4 := by simp
    rw [h1, h2]
    simp only [List.cons_append, List.getD_cons_zero, List.getD_cons_succ]
    exact decN_ge _ _ _ _ _ _ (by omega) (by omega)
theorem ru_app10 (b : List UInt8) : ∀ l, ru (l ++ 10 :: b) = ru l ++ ru (10 :: b) := by
  refine ru_ind (by rw [ru_nil]; rfl) ?_
  intro l hl ih
  have hd := dec10 l b hl
  have hr : rv (l ++ 10 :: b) = rv l := by unfold rv; rw [hd]
  have hw : wd (l ++ 10 :: b) = wd l := by unfold wd; rw [hd]
  rw [ru_step _ (by simp), ru_step l hl, hr, hw, List.drop_append_of_le_length (wd_le l hl), ih, List.cons_append]
theorem ruW_sum : ∀ l, ((ru l).map (·.2)).sum = l.length := by
  refine ru_ind (by rw [ru_nil]; rfl) ?_
  intro l hl ih
  have := wd_le l hl
  rw [ru_step l hl, List.map_cons, List.sum_cons, ih, List.length_drop]
  dsimp only
  omega
theorem atR_app (o : Nat) (Y : List (Int × Nat)) : ∀ (X : List (Int × Nat)) (k line col : Nat), o ≤ k + (X.map (·.2)).sum → atR o k line col (X ++ Y) = atR o k line col X
  | [], k, line, col, h => by
    have h' : ¬ k < o := by simp at h; omega
    cases Y with
    | nil => rfl
    | cons y t => obtain ⟨r, n⟩ := y; simp [atR, h']
  | (r, n) :: t, k, line, col, h => by
    rw [List.map_cons, List.sum_cons] at h
    rw [List.cons_append, atR, atR]
    split
    · exact atR_app o Y t _ _ _ (by dsimp only at h; omega)
    · rfl
/-- A text's end, or a line's. -/
def EndR (R : List UInt8) : Prop := R = [] ∨ ∃ t, R = 10 :: t
theorem at_same (a R : List UInt8) (o : Nat) (ho : o ≤ a.length) (hR : EndR R) : atR o 0 1 1 (ru (a ++ R)) = atR o 0 1 1 (ru a) := by
  rcases hR with rfl | ⟨t, rfl⟩
  · rw [List.append_nil]
  · rw [ru_app10]
    exact atR_app o _ _ 0 1 1 (by rw [ruW_sum]; omega)
theorem fcells_same (a R R' : List UInt8) (c : Int) (o : Nat) (ho : o ≤ a.length) (hR : EndR R) (hR' : EndR R') : fcells (a ++ R) c o = fcells (a ++ R') c o := by
  have k1 : clamp (str (a ++ R)) (o : Int) = o := by unfold clamp; rw [str_size, List.length_append]; omega
  have k2 : clamp (str (a ++ R')) (o : Int) = o := by unfold clamp; rw [str_size, List.length_append]; omega
  unfold fcells
  rw [k1, k2, at_same a R o ho hR, at_same a R' o ho hR']
/-- Lines with their ends. -/
def flL (P : List (List UInt8)) : List UInt8 := (P.map (· ++ [10])).flatten
theorem flL_cons (p : List UInt8) (P : List (List UInt8)) : flL (p :: P) = p ++ 10 :: flL P := by simp [flL]
theorem flL_len : ∀ (P : List (List UInt8)) (n : Nat), (flL P).length = stL (numd n P)
  | [], _ => rfl
  | p :: P, n => by
    rw [flL_cons, numd, stL_cons, List.length_append, List.length_cons, flL_len P (n + 1)]
    dsimp only
    omega
/-- A text by its lines. -/
theorem lns_split : ∀ (s cur : List UInt8) (P : List (List UInt8)) (x : List UInt8) (Q : List (List UInt8)), (10 : UInt8) ∉ cur → lns cur s = P ++ x :: Q → (∀ p ∈ P, (10 : UInt8) ∉ p) ∧ (10 : UInt8) ∉ x ∧ ∃ R, EndR R ∧ cur ++ s = flL P ++ (x ++ R)
  | [], cur, P, x, Q, hc, h => by
    rw [lns] at h
    split at h
    · cases P <;> cases h
    · cases P with
      | nil =>
        cases h
        exact ⟨fun p hp => (by cases hp), hc, [], .inl rfl, by simp [flL]⟩
      | cons p P => cases P <;> cases h
  | b :: t, cur, P, x, Q, hc, h => by
    rw [lns] at h
    split at h
    · rename_i hb
      subst hb
      cases P with
      | nil =>
        rw [List.nil_append, List.cons.injEq] at h
        obtain ⟨rfl, rfl⟩ := h
        exact ⟨fun p hp => (by cases hp), hc, 10 :: t, .inr ⟨t, rfl⟩, by simp [flL]⟩
      | cons p P =>
        rw [List.cons_append, List.cons.injEq] at h
        obtain ⟨rfl, h⟩ := h
        obtain ⟨h1, h2, R, h3, h4⟩ := lns_split t [] P x Q (by simp) h
        refine ⟨fun q hq => ?_, h2, R, h3, ?_⟩
        · rcases List.mem_cons.1 hq with rfl | hq
          · exact hc
          · exact h1 q hq
        · rw [List.nil_append] at h4
          rw [flL_cons, h4]
          simp
    · rename_i hb
      obtain ⟨h1, h2, R, h3, h4⟩ := lns_split t (cur ++ [b]) P x Q (by simp [hc]; exact fun e => hb e.symm) h
      exact ⟨h1, h2, R, h3, by rw [← h4]; simp⟩
theorem lns_flL (Z : List UInt8) : ∀ P : List (List UInt8), (∀ p ∈ P, (10 : UInt8) ∉ p) → lns [] (flL P ++ Z) = P ++ lns [] Z
  | [], _ => rfl
  | p :: P, h => by
    have h1 : ∀ b ∈ p, b ≠ 10 := fun b hb e => h p (by simp) (e ▸ hb)
    rw [flL_cons, List.append_assoc, lns_skip p [] _ h1, List.nil_append, List.cons_append, lns, if_pos rfl, lns_flL Z P fun q hq => h q (by simp [hq]), List.cons_append]
theorem numd_app : ∀ (A B : List (List UInt8)) (n : Nat), numd n (A ++ B) = numd n A ++ numd (n + A.length) B
  | [], B, n => rfl
  | a :: A, B, n => by
    rw [List.cons_append, numd, numd, numd_app A B (n + 1), List.cons_append, List.length_cons]
    have : n + 1 + A.length = n + (A.length + 1) := by omega
    rw [this]
theorem numd_split : ∀ (L : List (List UInt8)) (n : Nat) (pre : List (Nat × List UInt8)) (x : Nat × List UInt8) (post : List (Nat × List UInt8)), numd n L = pre ++ x :: post → ∃ P Q, L = P ++ x.2 :: Q ∧ pre = numd n P ∧ x.1 = n + P.length
  | [], n, pre, x, post, h => by cases pre <;> cases h
  | a :: L, n, pre, x, post, h => by
    rw [numd] at h
    cases pre with
    | nil =>
      rw [List.nil_append, List.cons.injEq] at h
      obtain ⟨rfl, _⟩ := h
      exact ⟨[], L, rfl, rfl, rfl⟩
    | cons y pre =>
      rw [List.cons_append, List.cons.injEq] at h
      obtain ⟨rfl, h⟩ := h
      obtain ⟨P, Q, rfl, rfl, hx⟩ := numd_split L (n + 1) pre x post h
      exact ⟨a :: P, Q, rfl, rfl, by rw [hx, List.length_cons]; omega⟩
theorem nameM6_err {p : Bool} {said : List UInt8} {l : List Wd} {c : Int} {o : Nat} (hl : ∀ x ∈ l, x.off + x.text.length ≤ said.length) (h : nameM6 p said l = .error (c, o)) : c ≠ 0 ∧ o ≤ said.length := by
  cases l with
  | nil => cases h; exact ⟨by decide, Nat.le_refl _⟩
  | cons x r =>
    simp only [nameM6] at h
    split at h
    · cases h
    · cases h
      have := hl x (by simp)
      exact ⟨by decide, by omega⟩
theorem clamp_le (s : ByteArray) (o : Int) : clamp s o ≤ s.size := by unfold clamp; omega
theorem valM6_err {said : List UInt8} {rd : Nat} {c : Int} {o : Nat} (hr : rd ≤ said.length) (h : valM6 said rd = .error (c, o)) : c ≠ 0 ∧ o ≤ said.length := by
  unfold valM6 at h
  cases hp : parM (trimR (said.drop rd)) with
  | ok v => rw [hp] at h; cases h
  | error z =>
    obtain ⟨c', o'⟩ := z
    have hc := parM_code hp
    have hc0 : c' ≠ 0 := by unfold CodeOk at hc; omega
    have h1 := clamp_le (str (trimR (said.drop rd))) o'
    have h2 := trimR_len (said.drop rd)
    rw [str_size] at h1
    rw [List.length_drop] at h2
    rw [hp] at h
    simp only at h
    split at h
    · cases h
      exact ⟨hc0, Nat.le_refl _⟩
    · cases h
      exact ⟨hc0, by omega⟩
theorem evM6_err {said : List UInt8} {n start : Nat} {l : List Wd} {c : Int} {o : Nat} (hl : ∀ x ∈ l, x.off + x.text.length ≤ said.length) (h : evM6 said n start l = .error (c, o)) : c ≠ 0 ∧ o ≤ said.length := by
  cases l with
  | nil => cases h; exact ⟨by decide, Nat.zero_le _⟩
  | cons x r =>
    have hx := hl x (by simp)
    have hr : ∀ y ∈ r, y.off + y.text.length ≤ said.length := fun y hy => hl y (by simp [hy])
    simp only [evM6] at h
    split at h
    · cases h0 : nameM6 true said r with
      | error z => rw [h0] at h; cases h; exact nameM6_err hr h0
      | ok z0 =>
        obtain ⟨p, r1, rd1⟩ := z0
        rw [h0] at h
        simp only at h
        obtain ⟨_, y0, e0, _, _⟩ := nameM6_ok h0
        have hr1 : ∀ y ∈ r1, y.off + y.text.length ≤ said.length := fun y hy => hr y (by rw [e0]; simp [hy])
        cases h1 : nameM6 false said r1 with
        | error z => rw [h1] at h; cases h; exact nameM6_err hr1 h1
        | ok z1 =>
          obtain ⟨q, r2, rd2⟩ := z1
          rw [h1] at h
          simp only at h
          obtain ⟨_, y1, e1, _, _⟩ := nameM6_ok h1
          have hr2 : ∀ y ∈ r2, y.off + y.text.length ≤ said.length := fun y hy => hr1 y (by rw [e1]; simp [hy])
          cases h2 : nameM6 true said r2 with
          | error z => rw [h2] at h; cases h; exact nameM6_err hr2 h2
          | ok z2 =>
            obtain ⟨q', r3, rd3⟩ := z2
            rw [h2] at h
            simp only at h
            obtain ⟨_, y2, e2, _, e3⟩ := nameM6_ok h2
            cases h3 : valM6 said rd3 with
            | error z => rw [h3] at h; cases h; exact valM6_err (by rw [e3]; exact hr2 y2 (by rw [e2]; simp)) h3
            | ok v => rw [h3] at h; cases h
    · split at h
      · cases h0 : nameM6 true said r with
        | error z => rw [h0] at h; cases h; exact nameM6_err hr h0
        | ok z0 =>
          obtain ⟨p, r1, rd1⟩ := z0
          rw [h0] at h
          simp only at h
          obtain ⟨_, y0, e0, _, e3⟩ := nameM6_ok h0
          cases h3 : valM6 said rd1 with
          | error z => rw [h3] at h; cases h; exact valM6_err (by rw [e3]; exact hr y0 (by rw [e0]; simp)) h3
          | ok v => rw [h3] at h; cases h
      · cases h
        exact ⟨by decide, by omega⟩
/-- Where the events of lines stop. -/
theorem goM6_err : ∀ (L : List (Nat × List UInt8)) (acc : List Evn) (st : Nat) (c : Int) (o : Nat), goM6 acc st L = .error (c, o) →
    ∃ pre x post, L = pre ++ x :: post ∧ (∃ a, goM6 acc st pre = .ok a) ∧ (∀ R, goM6 acc st (pre ++ x :: R) = .error (c, o)) ∧ st + stL pre ≤ o ∧ o ≤ st + stL pre + x.2.length ∧ c ≠ 0
  | [], acc, st, c, o, h => by cases h
  | x :: more, acc, st, c, o, h => by
    cases hw : wds 0 0 false (aheadL x.2) with
    | nil =>
      rw [goM6_none hw] at h
      obtain ⟨pre, y, post, e, ⟨a, h1⟩, h2, h3, h4, h5⟩ := goM6_err more acc (st + x.2.length + 1) c o h
      exact ⟨x :: pre, y, post, by rw [e]; rfl, ⟨a, by rw [goM6_none hw]; exact h1⟩, fun R => by rw [List.cons_append, goM6_none hw]; exact h2 R, by rw [stL_cons]; omega, by rw [stL_cons]; omega, h5⟩
    | cons y r =>
      cases he : evM6 (aheadL x.2) x.1 st (y :: r) with
      | error z =>
        obtain ⟨c', o'⟩ := z
        obtain ⟨k1, k2⟩ := evM6_err (by rw [← hw]; exact wds_all _) he
        have k3 := ahead_len x.2
        rw [goM6_stop hw he] at h
        cases h
        exact ⟨[], x, more, rfl, ⟨acc, rfl⟩, fun R => goM6_stop hw he, by simp [stL], by simp [stL]; omega, k1⟩
      | ok e =>
        rw [goM6_more hw he] at h
        obtain ⟨pre, z, post, e', ⟨a, h1⟩, h2, h3, h4, h5⟩ := goM6_err more (acc ++ [e]) (st + x.2.length + 1) c o h
        exact ⟨x :: pre, z, post, by rw [e']; rfl, ⟨a, by rw [goM6_more hw he]; exact h1⟩, fun R => by rw [List.cons_append, goM6_more hw he]; exact h2 R, by rw [stL_cons]; omega, by rw [stL_cons]; omega, h5⟩
/-- The first line that is wrong: what is ahead of it parses, and what follows it does not matter. -/
theorem first_err {s : List UInt8} {c : Int} {o : Nat} (h : parsesM s = .error (c, o)) :
    ∃ A x R, s = A ++ (x ++ R) ∧ EndR R ∧ (10 : UInt8) ∉ x ∧ (A = [] ∨ ∃ A', A = A' ++ [10]) ∧ A.length ≤ o ∧ o ≤ A.length + x.length ∧ c ≠ 0 ∧ (∃ a, parsesM A = .ok a) ∧ ∀ more, parsesM (A ++ x ++ 10 :: more) = .error (c, o) := by
  unfold parsesM at h
  obtain ⟨pre, x, post, e, ⟨a, h1⟩, h2, h3, h4, h5⟩ := goM6_err _ _ _ _ _ h
  obtain ⟨P, Q, eL, ep, ex⟩ := numd_split _ 1 pre x post e
  obtain ⟨k1, k2, R, k3, k4⟩ := lns_split s [] P x.2 Q (by simp) eL
  rw [List.nil_append] at k4
  have hl := flL_len P 1
  rw [← ep] at hl
  refine ⟨flL P, x.2, R, k4, k3, k2, ?_, by omega, by omega, h5, ⟨a, ?_⟩, fun more => ?_⟩
  · rcases List.eq_nil_or_concat P with rfl | ⟨P', p, rfl⟩
    · exact .inl rfl
    · exact .inr ⟨flL P' ++ p, by simp [flL]⟩
  · unfold parsesM lines
    have := lns_flL [] P k1
    rw [List.append_nil] at this
    rw [this, lns, if_pos rfl, List.append_nil, ← ep]
    exact h1
  · unfold parsesM lines
    have hx : ∀ b ∈ x.2, b ≠ 10 := fun b hb e => k2 (e ▸ hb)
    rw [List.append_assoc, lns_flL _ P k1, lns_skip x.2 [] _ hx, List.nil_append, lns, if_pos rfl, numd_app, ← ep, numd]
    have := h2 (numd (1 + P.length + 1) (lns [] more))
    have hxx : (1 + P.length, x.2) = x := by rw [← ex]
    rw [hxx]
    exact this
end Go.Proofs.YtcedpdneanjbkaaGreatDoor

/- EventFirst answers true. -/
namespace Go.Proofs.YtcedpdneanjbkaaGreatDoor
open Go.RowKit
open Go.Lib (intOf)

theorem fltEqE (c o l k : Int) (w : World) : (binOp BinOp.eql 53 (.agg #[.int .i64 c, .int .i64 o, .int .i64 l, .int .i64 k]) (.agg #[.int .i64 c, .int .i64 o, .int .i64 l, .int .i64 k])).run Tryz.prog w = .ok (.bool true) w := by
  simp [go_sem]
theorem below_drewE {L : Nat} {W W' : World} (h : Below L W W') (m : Nat) : Below L W (W'.drewN m) := ⟨h.os, h.tape, h.output, h.size, h.block⟩
theorem u8_ne {b : UInt8} (h : b ≠ 10) : ((b.toNat : Int) != 10) = true := by
  have : b.toNat ≠ 10 := fun e => h (UInt8.toNat_inj.1 (by rw [e]; rfl))
  simp; omega
/-- Where the text of a wrong line lies. -/
structure FirL (s : List UInt8) (a b o : Nat) : Prop where
  ao : a ≤ o
  ob : o ≤ b
  bs : b ≤ s.length
  mid : ∀ j (h : j < s.length), a ≤ j → j < b → s[j] ≠ 10
  fst : ∀ h : a - 1 < s.length, 0 < a → s[a - 1] = 10
  lst : ∀ h : b < s.length, s[b] = 10
theorem firL_of {A x R : List UInt8} {o : Nat} (hR : EndR R) (hx : (10 : UInt8) ∉ x) (hA : A = [] ∨ ∃ A', A = A' ++ [10]) (h1 : A.length ≤ o) (h2 : o ≤ A.length + x.length) : FirL (A ++ (x ++ R)) A.length (A.length + x.length) o := by
  refine ⟨h1, h2, by simp, fun j h h3 h4 => ?_, fun h h3 => ?_, fun h => ?_⟩
  · rw [List.getElem_append_right h3, List.getElem_append_left (by omega)]
    exact fun e => hx (e ▸ List.getElem_mem _)
  · rcases hA with rfl | ⟨A', rfl⟩
    · simp at h3
    · rw [List.getElem_append_left (by simp), List.getElem_append_right (by simp)]
      simp
  · rcases hR with rfl | ⟨t, rfl⟩
    · simp at h
    · rw [List.getElem_append_right (by omega), List.getElem_append_right (by omega)]
      simp
set_option maxRecDepth 100000 in
set_option maxHeartbeats 4000000 in
theorem eventFirst_walk (s more : List UInt8) (w : World) (hb : s.length + more.length + 2 ≤ 1048576) (hT : Tabs w) :
    Calls Tryz.prog 8 #[.string (str s), .string (str more)] w fun e w' => e = .returned (.bool true) ∧ Below w.heap.size w w' := by
  have HP1 := hide (parse6_k w s (by omega) hT)
  have HA := hide (fun (U : World) (b : Below w.heap.size w U) => alive6_k U (hT.below b))
  have q0 := fe0
  unfold Pa6 at HP1
  cases hp : parsesM s with
  | ok l =>
    rw [hp] at HP1
    simp only at HP1
    clear hT hb hp
    go_enter Tryz.func8, Tryz.ntmps8
    go_wp2_with (first
      | (go_at_call 20; refine HP1.out.mono ?_; clear HP1; rintro e w1 ⟨b1, v1, rfl, mk1⟩; obtain ⟨va, vc, rfl⟩ := mk1.len; obtain ⟨W1, hW1⟩ : ∃ W1, w1.alloc (.cells #[.int .i64 0, .int .i64 0, .int .i64 0, .int .i64 0] 53) = W1 := ⟨_, rfl⟩; have bA : Below w1.heap.size w1 W1 := (by rw [← hW1]; exact alloc_v (Below.refl _ _) _); have f1 : W1.heap[w1.heap.size]? = some (.cells #[.int .i64 0, .int .i64 0, .int .i64 0, .int .i64 0] 53 (0, 0)) := (by rw [← hW1]; exact World.alloc_heap_new w1 _); have BW1 := hide (trans_v b1 bA); have c0 := cells_at f1 0 _ rfl; have c1 := cells_at f1 1 _ rfl; have c2 := cells_at f1 2 _ rfl; have c3 := cells_at f1 3 _ rfl; clear b1 mk1 bA f1; subst hW1)
      | (go_at_call 12; refine (num6_k _ _).mono ?_; rintro e wq ⟨rfl, rfl⟩)
      | (go_at_call 14; refine (HA.out _ BW1.out).mono ?_; clear HA; rintro e w4 ⟨rfl, b4⟩; have B4 := hide (trans_v BW1.out b4); clear b4))
    go_ret
    exact ⟨rfl, B4.out⟩
  | error z =>
    obtain ⟨c, o⟩ := z
    obtain ⟨A, x, R, hs, hR, hx, hA, h1, h2, hc, ⟨l, hl⟩, hm⟩ := first_err hp
    have hF := firL_of hR hx hA h1 h2
    rw [← hs] at hF
    have ht : s.take (A.length + x.length) = A ++ x := by rw [hs, ← List.append_assoc, List.take_left' (by simp)]
    have ht0 : s.take A.length = A := by rw [hs, List.take_left' rfl]
    have hlen : s.length = A.length + x.length + R.length := by rw [hs]; simp; omega
    have HP2 := hide (fun (U : World) (b : Below w.heap.size w U) => parse6_k U A (by omega) (hT.below b))
    have HP3 := hide (fun (U : World) (b : Below w.heap.size w U) => parse6_k U (A ++ x ++ 10 :: more) (by simp; omega) (hT.below b))
    unfold Pa6 at HP2 HP3
    rw [hl] at HP2
    rw [hm more] at HP3
    rw [hp] at HP1
    simp only at HP1 HP2 HP3
    have hfc : fcells (A ++ x ++ 10 :: more) c o = fcells s c o := by
      rw [hs, ← List.append_assoc]
      exact fcells_same (A ++ x) (10 :: more) R c o (by simpa using h2) (.inr ⟨_, rfl⟩) hR
    have hcl : clamp (str s) (o : Int) = o := by unfold clamp; rw [str_size]; omega
    rw [hfc] at HP3
    unfold fcells at HP1 HP3
    rw [hcl] at HP1 HP3
    clear hfc hcl hT hp hR hx hA hs hm hl
    generalize ((atR o 0 1 1 (ru s)).1 : Int) = ln at *
    generalize ((atR o 0 1 1 (ru s)).2 : Int) = cl at *
    have qf := fltEqE c o ln cl
    have hne : (c == 0) = false := by simpa using hc
    have sl1 := sl_hi s A.length (by omega)
    have sl2 := sl_hi s (A.length + x.length) (by omega)
    rw [ht0] at sl1
    rw [ht] at sl2
    have ct1 : ∀ U, (Op.stringOp .add (str (A ++ x)) ⟨#[10]⟩).run Tryz.prog U = .ok (.string (str (A ++ x ++ [10]))) U := fun U => cat (A ++ x) [10] (by simp; omega) U
    have ct2 : ∀ U, (Op.stringOp .add (str (A ++ x ++ [10])) (str more)).run Tryz.prog U = .ok (.string (str (A ++ x ++ 10 :: more))) U := fun U => by
      have := cat (A ++ x ++ [10]) more (by simp; omega) U
      rw [List.append_assoc (A ++ x), List.singleton_append] at this
      exact this
    generalize str (A ++ x ++ 10 :: more) = t3 at *
    generalize str (A ++ x ++ [10]) = t2 at *
    generalize str (A ++ x) = t1 at *
    generalize str A = t0 at *
    have hsz : (str s).size = s.length := str_size s
    generalize hB : A.length + x.length = B at *
    generalize hAl : A.length = a at *
    have HL := hide hF
    have hao := hF.ao
    have hob := hF.ob
    have hbs := hF.bs
    have SL := hide (And.intro sl1 (And.intro sl2 (And.intro ct1 ct2)))
    have HCU := hide (And.intro hB (And.intro hAl (And.intro ht ht0)))
    have hsl : s.length ≤ 1048576 := by omega
    clear sl1 sl2 ct1 ct2 hF h1 h2 ht ht0 hB hAl hlen hb
    go_enter Tryz.func8, Tryz.ntmps8
    go_wp2_with (first
      | (go_at_call 20; refine HP1.out.mono ?_; clear HP1; rintro e w1 ⟨b1, rfl⟩; obtain ⟨W1, hW1⟩ : ∃ W1, w1.alloc (.cells #[.int .i64 c, .int .i64 o, .int .i64 ln, .int .i64 cl] 53) = W1 := ⟨_, rfl⟩; have bA : Below w1.heap.size w1 W1 := (by rw [← hW1]; exact alloc_v (Below.refl _ _) _); have f1 : W1.heap[w1.heap.size]? = some (.cells #[.int .i64 c, .int .i64 o, .int .i64 ln, .int .i64 cl] 53 (0, 0)) := (by rw [← hW1]; exact World.alloc_heap_new w1 _); have BW1 := hide (trans_v b1 bA); have lf := (Array.getElem?_eq_some_iff.1 f1).1; have F1 := hide f1; have c0 := cells_at f1 0 _ rfl; have c1 := cells_at f1 1 _ rfl; have c2 := cells_at f1 2 _ rfl; have c3 := cells_at f1 3 _ rfl; clear b1 bA f1; subst hW1)
      | (go_at_call 12; refine (num6_k _ _).mono ?_; rintro e wq ⟨rfl, rfl⟩))
    go_quiet (fail)
    go_wp2
    obtain ⟨X, hX⟩ : ∃ X, (w1.alloc (.cells #[.int .i64 c, .int .i64 o, .int .i64 ln, .int .i64 cl] 53)).drewN nq = X := ⟨_, rfl⟩
    have BX : Hid (Below w.heap.size w X) := hide (by rw [← hX]; exact below_drewE BW1.out _)
    have EX : Hid (X.heap[w1.heap.size]? = some (.cells #[.int .i64 c, .int .i64 o, .int .i64 ln, .int .i64 cl] 53 (0, 0))) := hide (by rw [← hX]; exact F1.out)
    rw [hX]
    clear c0 c1 c2 c3 hX lf F1 BW1
    refine Code.wp_mono (Q := fun e a' U => e = .exit 0 ∧ ∃ u46 u47 u48 u49 u50 u51 u52 u53 u54 u55 u56 : Value, a' = ⟨#[.string (str s), .string (str more), undef, undef, .bool false, .slice none 0 0, .pointer (some ⟨w1.heap.size, 0, none⟩), .int .i64 a, .int .i64 o, undef, undef, undef, undef, .tuple #[.slice none 0 0, .agg #[.int .i64 c, .int .i64 o, .int .i64 ln, .int .i64 cl]], .string (str s), .tuple #[.slice none 0 0, .agg #[.int .i64 c, .int .i64 o, .int .i64 ln, .int .i64 cl]], .slice none 0 0, .agg #[.int .i64 c, .int .i64 o, .int .i64 ln, .int .i64 cl], .pointer (some ⟨w1.heap.size, 0, none⟩), .int .i64 c, .int .i64 c, .bool false, undef, undef, undef, undef, undef, undef, .pointer (some ⟨w1.heap.size, 1, none⟩), .pointer (some ⟨w1.heap.size, 1, none⟩), .int .i64 o, .bool (decide ((o : Int) < 0)), .bool (decide ((o : Int) < 0)), .pointer (some ⟨w1.heap.size, 1, none⟩), .pointer (some ⟨w1.heap.size, 1, none⟩), .int .i64 o, .string (str s), .int .i64 s.length, .bool (decide (s.length < o)), .bool (decide ((o : Int) < 0) || decide (s.length < o)), .pointer (some ⟨w1.heap.size, 1, none⟩), .pointer (some ⟨w1.heap.size, 1, none⟩), .int .i64 o, .pointer (some ⟨w1.heap.size, 1, none⟩), .pointer (some ⟨w1.heap.size, 1, none⟩), .int .i64 o, u46, u47, u48, u49, u50, u51, u52, u53, u54, u55, u56, undef, undef, undef, undef, undef, undef, undef, undef, undef, undef, undef, undef, undef, undef, undef, undef, undef, undef, undef, undef, undef, undef, undef, undef, undef, undef, undef, undef, undef, undef, undef, undef, undef, undef, undef, undef, undef, undef, undef, undef], []⟩ ∧ Below X.heap.size X U) ?rest1 ?loop1
    case loop1 =>
      go_loopw [7] (fun i wr => ∃ k : Nat, a ≤ k ∧ k ≤ o ∧ i = .int .i64 k ∧ Below X.heap.size X wr) (fun i _ => (intOf i).toNat)
      case atStart => exact ⟨o, hao, Nat.le_refl _, rfl, Below.refl _ _⟩
      case round =>
        obtain ⟨k, hk1, hk2, rfl, hb2⟩ := hrel
        by_cases hka : a < k
        · obtain ⟨m, rfl⟩ : ∃ m, k = m + 1 := ⟨k - 1, by omega⟩
          have hm : m < s.length := by omega
          have hw : wrap64 (m : Int) = m := by unfold wrap64; omega
          have hix := ix_at s m hm
          have hq := u8_ne (HL.out.mid m hm (by omega) (by omega))
          go_wp2
          go_roundw
          case rel => exact ⟨m, by omega, by omega, by first | rfl | (rw [hw]) | go_num, hb2⟩
          case measure => simp [intOf]
        · obtain rfl : k = a := by omega
          by_cases hz : k = 0
          · have hk0 : ¬ (0 : Int) < (k : Int) := by omega
            clear hz
            go_wp2
            all_goals exact ⟨trivial, _, _, _, _, _, _, _, _, _, _, _, rfl, hb2⟩
          · obtain ⟨m, rfl⟩ : ∃ m, k = m + 1 := ⟨k - 1, by omega⟩
            have hm : m < s.length := by omega
            have hw : wrap64 (m : Int) = m := by unfold wrap64; omega
            have hq : s[m] = 10 := HL.out.fst hm (by omega)
            have hix : ∀ U, (Instr.index 9 (.string (str s)) (.int .i64 (m : Int))).run Tryz.prog U = .ok (.int .u8 10) U := fun U => by have := ix_at s m hm U; rw [hq] at this; exact this
            clear hq hz
            go_wp2
            all_goals exact ⟨trivial, _, _, _, _, _, _, _, _, _, _, _, rfl, hb2⟩
    case rest1 =>
    rintro e a' wr ⟨rfl, u46, u47, u48, u49, u50, u51, u52, u53, u54, u55, u56, rfl, hb2⟩
    have HB2 := hide hb2
    clear hb2 hao
    go_wp2
    refine Code.wp_mono (Q := fun e a' U => e = .exit 2 ∧ ∃ u46 u47 u48 u49 u50 u51 u52 u53 u54 u55 u56 u57 u58 u59 u60 u61 u62 u63 u64 u65 u66 u67 u68 : Value, a' = ⟨#[.string (str s), .string (str more), undef, undef, .bool false, .slice none 0 0, .pointer (some ⟨w1.heap.size, 0, none⟩), .int .i64 a, .int .i64 B, undef, undef, undef, undef, .tuple #[.slice none 0 0, .agg #[.int .i64 c, .int .i64 o, .int .i64 ln, .int .i64 cl]], .string (str s), .tuple #[.slice none 0 0, .agg #[.int .i64 c, .int .i64 o, .int .i64 ln, .int .i64 cl]], .slice none 0 0, .agg #[.int .i64 c, .int .i64 o, .int .i64 ln, .int .i64 cl], .pointer (some ⟨w1.heap.size, 0, none⟩), .int .i64 c, .int .i64 c, .bool false, undef, undef, undef, undef, undef, undef, .pointer (some ⟨w1.heap.size, 1, none⟩), .pointer (some ⟨w1.heap.size, 1, none⟩), .int .i64 o, .bool (decide ((o : Int) < 0)), .bool (decide ((o : Int) < 0)), .pointer (some ⟨w1.heap.size, 1, none⟩), .pointer (some ⟨w1.heap.size, 1, none⟩), .int .i64 o, .string (str s), .int .i64 s.length, .bool (decide (s.length < o)), .bool (decide ((o : Int) < 0) || decide (s.length < o)), .pointer (some ⟨w1.heap.size, 1, none⟩), .pointer (some ⟨w1.heap.size, 1, none⟩), .int .i64 o, .pointer (some ⟨w1.heap.size, 1, none⟩), .pointer (some ⟨w1.heap.size, 1, none⟩), .int .i64 o, u46, u47, u48, u49, u50, u51, u52, u53, u54, u55, u56, u57, u58, u59, u60, u61, u62, u63, u64, u65, u66, u67, u68, undef, undef, undef, undef, undef, undef, undef, undef, undef, undef, undef, undef, undef, undef, undef, undef, undef, undef, undef, undef, undef, undef, undef, undef, undef, undef, undef, undef], []⟩ ∧ Below wr.heap.size wr U) ?rest2 ?loop2
    case loop2 =>
      go_loopw [8] (fun i wt => ∃ q : Nat, o ≤ q ∧ q ≤ B ∧ i = .int .i64 q ∧ Below wr.heap.size wr wt) (fun i _ => B - (intOf i).toNat)
      case atStart => exact ⟨o, Nat.le_refl _, hob, rfl, Below.refl _ _⟩
      case round =>
        obtain ⟨q, hq1, hq2, rfl, hb4⟩ := hrel
        by_cases hqb : q < B
        · have hm : q < s.length := by omega
          have hix := ix_at s q hm
          have hqn := u8_ne (HL.out.mid q hm (by have := HL.out.ao; omega) hqb)
          go_wp2
          go_roundw
          case rel => exact ⟨q + 1, by omega, by omega, by go_num, hb4⟩
          case measure => simp [intOf]; omega
        · obtain rfl : q = B := by omega
          by_cases hze : q < s.length
          · have hq10 : s[q] = 10 := HL.out.lst hze
            have hix := ix_at s q hze
            rw [hq10] at hix
            have hix2 : ∀ U, (Instr.index 9 (.string (str s)) (.int .i64 q)).run Tryz.prog U = .ok (.int .u8 10) U := hix
            clear hq10 hix
            go_wp2
            all_goals exact ⟨trivial, _, _, _, _, _, _, _, _, _, _, _, _, _, _, _, _, _, _, _, _, _, _, _, rfl, hb4⟩
          · go_wp2
            all_goals exact ⟨trivial, _, _, _, _, _, _, _, _, _, _, _, _, _, _, _, _, _, _, _, _, _, _, _, rfl, hb4⟩
    case rest2 =>
    rintro e a' wt ⟨rfl, u46, u47, u48, u49, u50, u51, u52, u53, u54, u55, u56, u57, u58, u59, u60, u61, u62, u63, u64, u65, u66, u67, u68, rfl, hb4⟩
    have HB4 := hide hb4
    clear hb4 hob
    have HY := hide (trans_v BX.out (trans_v HB2.out HB4.out))
    have EY := hide (((trans_v HB2.out HB4.out).block _ (Array.getElem?_eq_some_iff.1 EX.out).1).trans EX.out)
    obtain ⟨sl1, sl2, ct1, ct2⟩ := SL.out
    go_wp2_with (first
      | (go_at_call 20; refine (HP2.out _ HY.out).mono ?_; clear HP2; rintro e w3 ⟨b3, v3, rfl, mk3⟩; obtain ⟨va, vc, rfl⟩ := mk3.len; obtain ⟨W3, hW3⟩ : ∃ W3, w3.alloc (.cells #[.int .i64 0, .int .i64 0, .int .i64 0, .int .i64 0] 53) = W3 := ⟨_, rfl⟩; have bA : Below w3.heap.size w3 W3 := (by rw [← hW3]; exact alloc_v (Below.refl _ _) _); have f3 : W3.heap[w3.heap.size]? = some (.cells #[.int .i64 0, .int .i64 0, .int .i64 0, .int .i64 0] 53 (0, 0)) := (by rw [← hW3]; exact World.alloc_heap_new w3 _); have BW3 := hide (trans_v HY.out (trans_v b3 bA)); have E3 := hide (((trans_v b3 bA).block _ (Array.getElem?_eq_some_iff.1 EY.out).1).trans EY.out); have F3 := hide f3; clear b3 mk3 bA f3; subst hW3)
      | (go_at_call 20; refine (HP3.out _ BW3.out).mono ?_; clear HP3; rintro e w5 ⟨b5, rfl⟩; obtain ⟨W5, hW5⟩ : ∃ W5, w5.alloc (.cells #[.int .i64 c, .int .i64 o, .int .i64 ln, .int .i64 cl] 53) = W5 := ⟨_, rfl⟩; have bA : Below w5.heap.size w5 W5 := (by rw [← hW5]; exact alloc_v (Below.refl _ _) _); have f5 : W5.heap[w5.heap.size]? = some (.cells #[.int .i64 c, .int .i64 o, .int .i64 ln, .int .i64 cl] 53 (0, 0)) := (by rw [← hW5]; exact World.alloc_heap_new w5 _); have BW5 := hide (trans_v BW3.out (trans_v b5 bA)); have g3 := ((trans_v b5 bA).block _ (Array.getElem?_eq_some_iff.1 F3.out).1).trans F3.out; have g1 := ((trans_v b5 bA).block _ (Array.getElem?_eq_some_iff.1 E3.out).1).trans E3.out; have a0 := cells_at g1 0 _ rfl; have a1 := cells_at g1 1 _ rfl; have a2 := cells_at g1 2 _ rfl; have a3 := cells_at g1 3 _ rfl; have d0 := cells_at g3 0 _ rfl; have d1 := cells_at g3 1 _ rfl; have d2 := cells_at g3 2 _ rfl; have d3 := cells_at g3 3 _ rfl; have e0 := cells_at f5 0 _ rfl; have e1 := cells_at f5 1 _ rfl; have e2 := cells_at f5 2 _ rfl; have e3 := cells_at f5 3 _ rfl; clear b5 bA f5 g1 g3; subst hW5)
      | (go_at_call 14; refine (HA.out _ BW5.out).mono ?_; clear HA; rintro e w6 ⟨rfl, b6⟩; have B6 := hide (trans_v BW5.out b6); clear b6))
    go_ret
    exact ⟨rfl, B6.out⟩
theorem eventFirst_walkB (s0 s1 : ByteArray) (w : World) (hb : s0.data.toList.length + s1.data.toList.length + 2 ≤ 1048576) (hT : Tabs w) :
    Calls Tryz.prog 8 #[.string s0, .string s1] w fun e w' => e = .returned (.bool true) ∧ Below w.heap.size w w' := by
  have := eventFirst_walk s0.data.toList s1.data.toList w hb hT
  rw [str_bytes, str_bytes] at this
  exact this
end Go.Proofs.YtcedpdneanjbkaaGreatDoor

/- EventFirst holds of every input within the bulk. -/
namespace Go.Proofs.YtcedpdneanjbkaaGreatDoor.eventFirst
open Go.ChangeShapes Go.WideShapes Go.ChangeAt Go.RowKit
open Go.ChangeMaps (open_string)

set_option maxRecDepth 100000 in
theorem contract (H : Type) (enc : TypeId × Value → H) (W : World) (base : Nat) (args : Array Value) (ds gs : List (DataW H)) (before : List MemPlace)
    (hval : ∀ (j : Nat) t v, Tryz.f8.params[j]? = some t → args[j]? = some v → Value.okWide Tryz.prog W .any base t v)
    (hW : DataW.Whole enc Tryz.prog Tryz.f8.params.toList Rows.eventFirstSpec.vars false W args.toList ds gs before) (hL : laidMetH Tryz.prog laidE W) (hk : Rows.uptoBulkAll (ds ++ gs) ≤ 1048576) :
    Calls Tryz.prog 8 args W fun e W' => ∃ v, e = .returned v ∧ Rows.eventFirstSpec.post enc Tryz.prog Tryz.f8 false true false false W args v W' := by
  have hW' := hW
  obtain ⟨p, q, hA0, hV, rfl, hfz, hnd⟩ := hW
  have hA : DataW.TrodAll enc Tryz.prog W 0 (fun _ => true) true Tryz.f8.params.toList args.toList ds p := hA0
  rw [Tryz.params8] at hA hval
  obtain ⟨v0, vs0, d0, ds0, p0, q0, hargs, rfl, rfl, h0, r0⟩ := trodAll_cons hA
  obtain ⟨v1, vs1, d1, ds1, p1, q1, rfl, rfl, rfl, h1, r1⟩ := trodAll_cons r0
  obtain ⟨rfl, rfl, rfl⟩ := trodAll_nil r1
  obtain rfl : args = #[v0, v1] := by cases args; simp_all
  obtain ⟨rfl, rfl⟩ := trodVars_none hV
  have h0' := h0
  obtain ⟨s0, rfl, rfl, rfl, _⟩ := open_string Tryz.underlying9 (hval 0 9 v0 rfl rfl) h0
  have h1' := h1
  obtain ⟨s1, rfl, rfl, rfl, _⟩ := open_string Tryz.underlying9 (hval 1 9 v1 rfl rfl) h1
  clear hA0
  simp only [List.append_nil] at hW'
  have hlen0 : s0.data.toList.length = s0.size := by rw [Array.length_toList]; rfl
  have hlen1 : s1.data.toList.length = s1.size := by rw [Array.length_toList]; rfl
  have hb : s0.data.toList.length + s1.data.toList.length + 2 ≤ 1048576 := by
    simp [Rows.uptoBulkAll, Rows.uptoBulk] at hk
    omega
  refine (eventFirst_walkB s0 s1 W hb (tabsE_of_laid hL)).mono fun e W' ⟨he, bel⟩ => ?_
  subst he
  exact ⟨_, rfl, _, _, _, [], _, [], hW', trodAll_mk1 (shut_bool Tryz.underlying4 _), trodAll_cons_mk (Below.trod laidOut (by kernel_rfl) (of_decide_eq_true (by kernel_rfl)) h0' bel (fun x hx => by cases hx)) (trodAll_cons_mk (Below.trod laidOut (by kernel_rfl) (of_decide_eq_true (by kernel_rfl)) h1' bel (fun x hx => by cases hx)) trodAll_mk0), rfl, bel.frame _, fun h => by cases h⟩

theorem laid_met (os : Os) : laidMet Tryz.prog Rows.eventFirstUptoRow.laid ((laidWorldE os).forCall (fun _ _ => 0) ⟨#[], #[.string ⟨#[]⟩, .string ⟨#[]⟩], []⟩).memory :=
  laidMet_of_run' 8 (by kernel_rfl) (by kernel_rfl)
theorem reads (os : Os) {H : Type} (enc : TypeId × Value → H) : ∃ places, DataW.whole enc Tryz.prog ((laidWorldE os).forCall (fun _ _ => 0) ⟨#[], #[.string ⟨#[]⟩, .string ⟨#[]⟩], []⟩).memory Tryz.f8.params.toList Rows.eventFirstSpec.vars false #[Value.string ⟨#[]⟩, Value.string ⟨#[]⟩].toList 8 = some ([.lit (.string []), .lit (.string [])], [], places) :=
  ⟨[], by kernel_rfl⟩

set_option maxRecDepth 100000 in
theorem liftedUpto (os : Os) (started : os.Started) (H : Type) (enc : TypeId × Value → H) (F : Stop.Interp) :
    ReturnsInHanded {} Tryz.checked os 8 .any ((Rows.OpenSpec.upto Rows.eventFirstSpec).preRow enc Tryz.prog Tryz.f8 Rows.eventFirstUptoRow.domain false Rows.eventFirstUptoRow.laid) (((Rows.OpenSpec.upto Rows.eventFirstSpec).at F).post enc Tryz.prog Tryz.f8 false true false false) := by
  obtain ⟨places, hx⟩ := reads os enc
  refine returnsInHanded_of_row (C := Tryz.checked) (s := Rows.OpenSpec.upto Rows.eventFirstSpec) own started (by kernel_rfl) Tryz.func8
    (witness_row_at (enc := enc) (C := Tryz.checked) false (laidWorldE os) #[.string ⟨#[]⟩, .string ⟨#[]⟩] rfl (by kernel_rfl) (by kernel_rfl) (by kernel_rfl)
      (OpenSpec.preRow_of_cond 8 hx (by kernel_rfl) (fun k hk => by cases hk; kernel_rfl) (by kernel_rfl) (laid_met os))) ?_
  intro W base args ds gs before hval hW _ hcond _ hL _ _
  exact contract H enc W base args ds gs before hval hW hL (of_decide_eq_true (hcond _ rfl))

theorem saidUpto : Rows.EventFirstUptoSaid :=
  OpenClaim.holds_of_cond 8 Tryz.f8 rfl rfl rfl rfl rfl rfl rfl ⟨rfl, rfl, rfl, rfl, rfl⟩ rfl rfl rfl rfl rfl (by kernel_rfl) Tryz.func8 (by kernel_rfl)
    (of_decide_eq_true (by kernel_rfl)) (by unfold Func.isWrapper; first | (rw [if_pos (by decide +kernel)]; kernel_rfl) | (rw [if_neg (by decide +kernel)]; exact ⟨rfl, rfl⟩))
    (fun os started H enc _ F => by rw [OpenClaim.pre_eq_preRow]; exact liftedUpto os started H enc F)

theorem plain (f : FuncId) (fn : Func) (hf : Tryz.pinned.checked.prog.funcNamed Rows.eventFirstRow.func = some f) (hfn : Tryz.pinned.checked.prog.funcs[f]? = some fn) :
    true = Tryz.pinned.checked.prog.looks [] ∧ ∀ (j : Nat) t, fn.params[j]? = some t → Tryz.pinned.checked.prog.wantsStandIn t = false := by
  obtain rfl : f = 8 := Option.some.inj ((show Tryz.prog.funcNamed Rows.eventFirstRow.func = some 8 by kernel_rfl).symm.trans hf) |>.symm
  obtain rfl : fn = Tryz.f8 := (Option.some.inj (Tryz.func8.symm.trans hfn)).symm
  refine ⟨by kernel_rfl, fun j t ht => ?_⟩
  rw [Tryz.params8] at ht
  obtain rfl : t = 9 := by simpa using Array.mem_of_getElem? ht
  exact (show Tryz.prog.wantsStandIn 9 = false by kernel_rfl)

theorem cardUpto : Rows.EventFirstUptoCardSaid :=
  Claim7.holds_tied_plain_at .later [] _ _ _ _ saidUpto (fun _ h => by cases h) (by kernel_rfl) (fun _ h => by cases h) eventFirstUpto_row_tie rfl ⟨rfl, rfl⟩ (by kernel_rfl) rfl plain (by kernel_rfl)
end Go.Proofs.YtcedpdneanjbkaaGreatDoor.eventFirst
namespace Go.Proofs.YtcedpdneanjbkaaGreatDoor
theorem eventFirst_upto : Rows.EventFirstUptoCardSaid := eventFirst.cardUpto
#print axioms eventFirst_upto
end Go.Proofs.YtcedpdneanjbkaaGreatDoor
