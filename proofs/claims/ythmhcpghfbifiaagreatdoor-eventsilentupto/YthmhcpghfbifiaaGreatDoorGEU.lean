/- A text with other blanks, remarks and silent lines says the same events: plain mathematics. -/
import Derived.Test.YthmhcpghfbifiaaGreatDoorGEP
import Derived.Test.YthmhcpghfbifiaaGreatDoorGEF
import Derived.Test.YthmhcpghfbifiaaGreatDoorZESame
import Derived.Test.YthmhcpghfbifiaaGreatDoorGHOpG
import Derived.Test.YthmhcpghfbifiaaGreatDoorGEH
import Derived.Test.YthmhcpghfbifiaaGreatDoorGET
import Derived.ChangeMaps5
namespace Go.Proofs.YthmhcpghfbifiaaGreatDoor
open Go.RowKit

/-- Blanks, by a number. -/
def gapL (n : Nat) (v : Bool) : List UInt8 := match (if v = true then n % 4 else n % 5) with
  | 0 => [32]
  | 1 => [32, 32]
  | 2 => [9]
  | 3 => [32, 9, 32]
  | _ => [32, 13]
theorem gapL_is (n : Nat) (v : Bool) : gapL n v = [32] ∨ gapL n v = [32, 32] ∨ gapL n v = [9] ∨ gapL n v = [32, 9, 32] ∨ (v = false ∧ gapL n v = [32, 13]) := by
  unfold gapL
  cases v
  · simp only [Bool.false_eq_true, if_false]
    have : n % 5 = 0 ∨ n % 5 = 1 ∨ n % 5 = 2 ∨ n % 5 = 3 ∨ n % 5 = 4 := by omega
    rcases this with h | h | h | h | h <;> rw [h] <;> simp
  · simp only [if_true]
    have : n % 4 = 0 ∨ n % 4 = 1 ∨ n % 4 = 2 ∨ n % 4 = 3 := by omega
    rcases this with h | h | h | h <;> rw [h] <;> simp
def sepL : List UInt8 := [32, 35, 32, 120, 32, 35, 32, 121, 13, 10, 9, 10, 35, 10]
/-- A line with its words apart by other blanks: how many words' blanks there are, the number, how many blanks were met. -/
def trF (m n : Nat) : Nat → List UInt8 → List UInt8
  | _, [] => []
  | c, b :: r => if b = 32 then (if c < m then gapL n (!(r.contains 32 && decide (c + 1 < m))) else [32]) ++ trF m n (c + 1) r else b :: trF m n c r
/-- How many of a line's blanks stand ahead of a word. -/
def limE (e : Evn) : Nat := if e.kind = 1 then 4 else 2
def silL (mk : Nat → Nat) : Nat → List Evn → List UInt8
  | _, [] => []
  | k, e :: l => trF (limE e) (mk k) 0 (bodyE e) ++ (sepL ++ silL mk (k + 1) l)
theorem trF_skip (m n : Nat) (r : List UInt8) : ∀ (a : List UInt8) (c : Nat), (∀ b ∈ a, b ≠ 32) → trF m n c (a ++ r) = a ++ trF m n c r
  | [], _, _ => rfl
  | b :: a, c, h => by
    rw [List.cons_append, trF, if_neg (h b (by simp)), trF_skip m n r a c fun x hx => h x (by simp [hx])]
    rfl
theorem trF_end (m n : Nat) : ∀ (l : List UInt8) (c : Nat), m ≤ c → trF m n c l = l
  | [], _, _ => rfl
  | b :: l, c, h => by
    rw [trF]
    split
    · rename_i hb
      rw [if_neg (by omega), trF_end m n l (c + 1) (by omega), hb]
      rfl
    · rw [trF_end m n l c h]
theorem trF_gap (m n c : Nat) (r : List UInt8) (hc : c < m) : trF m n c (32 :: r) = gapL n (!(r.contains 32 && decide (c + 1 < m))) ++ trF m n (c + 1) r := by
  rw [trF, if_pos rfl, if_pos hc]
theorem solid_no32 {a : List UInt8} (h : Solid a) : ∀ b ∈ a, b ≠ 32 := fun b hb => (h b hb).2.2.2.1
/-- What the line of a right event becomes. -/
theorem tr_body {e : Evn} (h : rightE e = true) (n : Nat) : trF (limE e) n 0 (bodyE e) =
    if e.kind = 1 then [105, 110, 118] ++ (gapL n false ++ (e.proc ++ (gapL n false ++ (e.obj ++ (gapL n false ++ (e.op ++ (gapL n true ++ prV e.val))))))) else [114, 101, 115] ++ (gapL n false ++ (e.proc ++ (gapL n true ++ prV e.val))) := by
  unfold limE bodyE
  rcases right_solid h with ⟨hk, h1, h2, h3, _⟩ | ⟨hk, h1, _⟩
  · rw [if_pos hk, if_pos hk, if_pos hk]
    rw [trF_skip _ _ _ _ _ (solid_no32 inv_solid), trF_gap _ _ _ _ (by decide), trF_skip _ _ _ _ _ (solid_no32 h1.2), trF_gap _ _ _ _ (by decide), trF_skip _ _ _ _ _ (solid_no32 h2.2), trF_gap _ _ _ _ (by decide), trF_skip _ _ _ _ _ (solid_no32 h3.2), trF_gap _ _ _ _ (by decide), trF_end _ _ _ _ (by decide)]
    simp
  · rw [if_neg (by omega), if_neg (by omega), if_neg (by omega)]
    rw [trF_skip _ _ _ _ _ (solid_no32 res_solid), trF_gap _ _ _ _ (by decide), trF_skip _ _ _ _ _ (solid_no32 h1.2), trF_gap _ _ _ _ (by decide), trF_end _ _ _ _ (by decide)]
    simp
/-- A blank. -/
def BlkB (b : UInt8) : Prop := b = 32 ∨ b = 9 ∨ b = 13
theorem gapL_blk (n : Nat) (v : Bool) : gapL n v ≠ [] ∧ (∀ b ∈ gapL n v, BlkB b) ∧ (gapL n v).length ≤ 3 ∧ (v = true → ∀ b ∈ gapL n v, b = 32 ∨ b = 9) := by
  rcases gapL_is n v with h | h | h | h | ⟨hv, h⟩
  all_goals
    rw [h]
    refine ⟨by simp, by unfold BlkB; decide, by decide, ?_⟩
  · intro _; decide
  · intro _; decide
  · intro _; decide
  · intro _; decide
  · intro hv'; rw [hv] at hv'; cases hv'
theorem decBl (c : UInt8) (hc : BlkB c) (l b : List UInt8) (hl : l ≠ []) : Lib.decodeL (l ++ c :: b) = Lib.decodeL l := by
  rw [Lib.decodeL_N, Lib.decodeL_N]
  match l, hl with
  | [a], _ => rcases hc with rfl | rfl | rfl <;> simp [Lib.decodeN]
  | [a, a1], _ => rcases hc with rfl | rfl | rfl <;> simp [Lib.decodeN]
  | [a, a1, a2], _ => rcases hc with rfl | rfl | rfl <;> simp [Lib.decodeN]
  | a :: a1 :: a2 :: a3 :: t, _ =>
    have h1 : (a :: a1 :: a2 :: a3 :: t ++ c :: b).length = t.length + b.length + 1 + 4 := by simp; omega
    have h2 : (a :: a1 :: a2 :: a3 :: t).length = t.length + 4 := by simp
    rw [h1, h2]
    simp only [List.cons_append, List.getD_cons_zero, List.getD_cons_succ]
    exact decN_ge _ _ _ _ _ _ (by omega) (by omega)
theorem blk_rv {c : UInt8} (hc : BlkB c) (t : List UInt8) : isBlank (rv (c :: t)) = true ∧ wd (c :: t) = 1 := by
  have h : c.toNat < 128 := by rcases hc with rfl | rfl | rfl <;> decide
  obtain ⟨h1, h2⟩ := rv_ascii c t h
  refine ⟨?_, h2⟩
  rw [h1]
  rcases hc with rfl | rfl | rfl <;> decide
theorem wds_blks : ∀ (g b : List UInt8), (∀ x ∈ g, BlkB x) → ∀ (off col : Nat) (i : Bool), g ≠ [] → ∃ col', wds off col i (g ++ b) = wds (off + g.length) col' false b
  | [], _, _, _, _, _, h => absurd rfl h
  | [x], b, hg, off, col, i, _ => by
    obtain ⟨h1, h2⟩ := blk_rv (hg x (by simp)) b
    exact ⟨col + 1, by rw [List.singleton_append, wds_step _ _ _ _ (by simp), h1, h2, if_pos rfl]; rfl⟩
  | x :: y :: g, b, hg, off, col, i, _ => by
    obtain ⟨h1, h2⟩ := blk_rv (hg x (by simp)) (y :: g ++ b)
    obtain ⟨c', h'⟩ := wds_blks (y :: g) b (fun z hz => hg z (by simp [List.mem_cons.1 hz])) (off + 1) (col + 1) false (by simp)
    refine ⟨c', ?_⟩
    rw [List.cons_append, wds_step _ _ _ _ (by simp), h1, h2, if_pos rfl]
    have e : (x :: (y :: g ++ b)).drop 1 = y :: g ++ b := rfl
    rw [e, h']
    congr 1
    simp only [List.length_cons]
    omega
theorem wds_inG {g b : List UInt8} (hg : ∀ x ∈ g, BlkB x) (hne : g ≠ []) : ∀ (a : List UInt8), Solid a → ∀ (off col : Nat), ∃ col', wds off col true (a ++ (g ++ b)) = wds (off + a.length + g.length) col' false b := by
  obtain ⟨c, g', rfl⟩ : ∃ c g', g = c :: g' := by cases g with | nil => exact absurd rfl hne | cons c g' => exact ⟨c, g', rfl⟩
  refine ru_ind ?_ ?_
  · intro _ off col
    exact wds_blks (c :: g') b hg off col true (by simp)
  · intro l hl ih hs off col
    have hd := decBl c (hg c (by simp)) l (g' ++ b) hl
    have hr : rv (l ++ (c :: g' ++ b)) = rv l := by unfold rv; rw [List.cons_append, hd]
    have hw : wd (l ++ (c :: g' ++ b)) = wd l := by unfold wd; rw [List.cons_append, hd]
    obtain ⟨s1, _⟩ := solid_rv hs hl
    have hle := wd_le l hl
    obtain ⟨c', h'⟩ := ih (solid_drop hs _) (off + wd l) (col + 1)
    refine ⟨c', ?_⟩
    rw [wds_step _ _ _ _ (by simp), hr, hw, s1, if_neg Bool.false_ne_true, if_pos rfl, List.drop_append_of_le_length hle, h', List.length_drop]
    congr 1
    omega
theorem wds_solidG {g a : List UInt8} (hg : ∀ x ∈ g, BlkB x) (hne : g ≠ []) (hs : Solid a) (hl : a ≠ []) (off col : Nat) (b : List UInt8) : ∃ col', wds off col false (a ++ (g ++ b)) = ⟨a, off, col + 1⟩ :: wds (off + a.length + g.length) col' false b := by
  obtain ⟨col', h'⟩ := wds_inG (b := b) hg hne a hs off col
  obtain ⟨c, g', rfl⟩ : ∃ c g', g = c :: g' := by cases g with | nil => exact absurd rfl hne | cons c g' => exact ⟨c, g', rfl⟩
  have hd := decBl c (hg c (by simp)) a (g' ++ b) hl
  have hr : rv (a ++ (c :: g' ++ b)) = rv a := by unfold rv; rw [List.cons_append, hd]
  obtain ⟨s1, s2⟩ := solid_rv hs hl
  have ht : tw (a ++ (c :: g' ++ b)) = a := by
    unfold tw
    rw [List.takeWhile_append_of_pos (fun x hx => by obtain ⟨h1, _, h3, h4, _⟩ := hs x hx; simp [h1, h3, h4])]
    have hc := hg c (by simp)
    rw [List.cons_append, List.takeWhile_cons_of_neg (by rcases hc with rfl | rfl | rfl <;> decide)]
    simp
  exact ⟨col', by rw [wds_wordE off col _ (by simp) (by rw [hr]; exact s1) (by rw [hr]; exact s2), ht, h']⟩
/-- A value behind blanks is read as it. -/
theorem parM_gap (v : Vl) (hr : rightV v = true) (hok : okD 16 v) (g : List UInt8) (hg : ∀ b ∈ g, b = 32 ∨ b = 9) : parM (g ++ prV v) = .ok v := by
  obtain ⟨h1, h2, h3⟩ := (rightV_is v).1 hr
  have hdl : (g ++ prV v).drop g.length = prV v := List.drop_left
  obtain ⟨hv, hb⟩ := back_all 16 v (g ++ prV v) g.length 0 [] h3 h2 hok (by rw [hdl, List.append_nil]) (.inl rfl) (by omega)
  rw [List.append_nil] at hb
  have hrow : ∀ g : List UInt8, (∀ b ∈ g, b = 32 ∨ b = 9) → rowM blankP (g ++ prV v) = g.length := by
    intro g
    induction g with
    | nil => intro _; exact hb
    | cons x g ih =>
      intro hg
      have hx := hg x (by simp)
      rw [List.cons_append, rowM_ascii blankP x _ (by rcases hx with rfl | rfl <;> decide), if_pos (by rcases hx with rfl | rfl <;> decide), ih (fun b hb => hg b (by simp [hb])), List.length_cons]
      omega
  have hc0 : cutM (g ++ prV v) 0 = TokAt (g ++ prV v) g.length := by
    unfold cutM TokAt
    rw [List.drop_zero, hrow g hg, Nat.zero_add]
  unfold parM
  rw [hc0, hv]
  have hd : (g ++ prV v).drop (g.length + (prV v).length) = [] := List.drop_eq_nil_of_le (by rw [List.length_append]; omega)
  have hc : cutM (g ++ prV v) (g.length + (prV v).length) = ⟨-1, g.length + (prV v).length, ⟨#[]⟩⟩ := by
    rw [cut_nb (by rw [hd]; rfl), hd]
    rfl
  simp only [hc]
  rfl
theorem trimR_gap {g l : List UInt8} (h : ValB l) : trimR (g ++ (l ++ [32])) = g ++ l := by
  obtain ⟨⟨m, c, rfl, hc⟩, hb⟩ := h
  obtain ⟨h1, _, h3, _⟩ := hb c (by simp)
  have e : (g ++ (m ++ [c] ++ [32])).reverse = 32 :: c :: (g ++ m).reverse := by simp
  have e2 : (c :: (g ++ m).reverse).reverse = g ++ (m ++ [c]) := by simp
  unfold trimR Lib.trimRightS
  rw [e, List.dropWhile_cons_of_pos (by decide), List.dropWhile_cons_of_neg (by simp [h1, h3, hc]), e2]
/-- What stands behind an event's words in its line. -/
def sepA : List UInt8 := [32, 35, 32, 120, 32, 35, 32, 121, 13]
theorem gap_no (n : Nat) (v : Bool) : ∀ b ∈ gapL n v, b ≠ 10 ∧ b ≠ 35 := fun b hb => by
  rcases (gapL_blk n v).2.1 b hb with rfl | rfl | rfl <;> decide
theorem no_app {A B : List UInt8} (hA : ∀ b ∈ A, b ≠ 10 ∧ b ≠ 35) (hB : ∀ b ∈ B, b ≠ 10 ∧ b ≠ 35) : ∀ b ∈ A ++ B, b ≠ 10 ∧ b ≠ 35 := fun b hb => by
  rcases List.mem_append.1 hb with hb | hb
  · exact hA b hb
  · exact hB b hb
theorem solid_no {l : List UInt8} (h : Solid l) : ∀ b ∈ l, b ≠ 10 ∧ b ≠ 35 := fun b hb => ⟨(h b hb).2.1, (h b hb).2.2.2.2⟩
theorem tr_no {e : Evn} (h : rightE e = true) (n : Nat) : ∀ b ∈ trF (limE e) n 0 (bodyE e), b ≠ 10 ∧ b ≠ 35 := by
  have hv : ∀ {l : List UInt8}, ValB l → ∀ b ∈ l, b ≠ 10 ∧ b ≠ 35 := fun h b hb => ⟨(h.2 b hb).2.1, (h.2 b hb).2.2.2⟩
  rw [tr_body h n]
  rcases right_solid h with ⟨hk, h1, h2, h3, _, _, _, h4⟩ | ⟨hk, h1, _, _, _, h4⟩
  · rw [if_pos hk]
    exact no_app (solid_no inv_solid) (no_app (gap_no _ _) (no_app (solid_no h1.2) (no_app (gap_no _ _) (no_app (solid_no h2.2) (no_app (gap_no _ _) (no_app (solid_no h3.2) (no_app (gap_no _ _) (hv (valB_of h4)))))))))
  · rw [if_neg (by omega)]
    exact no_app (solid_no res_solid) (no_app (gap_no _ _) (no_app (solid_no h1.2) (no_app (gap_no _ _) (hv (valB_of h4)))))
theorem ahead_tr {e : Evn} (h : rightE e = true) (n : Nat) : aheadL (trF (limE e) n 0 (bodyE e) ++ sepA) = trF (limE e) n 0 (bodyE e) ++ [32] := by
  rw [ahead_skip _ sepA (fun b hb => (tr_no h n b hb).2)]
  rfl
theorem ev_sil {e : Evn} (h : rightE e = true) (hok : okD 16 e.val) (k n st : Nat) : ∃ w r a b c, wds 0 0 false (aheadL (trF (limE e) k 0 (bodyE e) ++ sepA)) = w :: r ∧ evM6 (aheadL (trF (limE e) k 0 (bodyE e) ++ sepA)) n st (w :: r) = .ok ⟨e.kind, e.proc, e.obj, e.op, e.val, a, b, c⟩ := by
  obtain ⟨g1, g2, _, _⟩ := gapL_blk k false
  obtain ⟨_, _, _, g4⟩ := gapL_blk k true
  have g5 := g4 rfl
  obtain ⟨v1, v2, _, _⟩ := gapL_blk k true
  rw [ahead_tr h k, tr_body h k]
  generalize gapL k false = g at *
  generalize gapL k true = gv at *
  rcases right_solid h with ⟨hk, h1, h2, h3, f1, f2, f3, h4⟩ | ⟨hk, h1, ho, hp, f1, h4⟩
  · rw [if_pos hk]
    have hbd : [105, 110, 118] ++ (g ++ (e.proc ++ (g ++ (e.obj ++ (g ++ (e.op ++ (gv ++ prV e.val))))))) ++ [32] = [105, 110, 118] ++ (g ++ (e.proc ++ (g ++ (e.obj ++ (g ++ (e.op ++ (gv ++ (prV e.val ++ [32])))))))) := by simp
    rw [hbd]
    obtain ⟨c1, w1⟩ := wds_solidG g2 g1 inv_solid (by simp) 0 0 (e.proc ++ (g ++ (e.obj ++ (g ++ (e.op ++ (gv ++ (prV e.val ++ [32])))))))
    obtain ⟨c2, w2⟩ := wds_solidG g2 g1 h1.2 h1.1 (0 + ([105, 110, 118] : List UInt8).length + g.length) c1 (e.obj ++ (g ++ (e.op ++ (gv ++ (prV e.val ++ [32])))))
    obtain ⟨c3, w3⟩ := wds_solidG g2 g1 h2.2 h2.1 (0 + ([105, 110, 118] : List UInt8).length + g.length + e.proc.length + g.length) c2 (e.op ++ (gv ++ (prV e.val ++ [32])))
    obtain ⟨c4, w4⟩ := wds_solidG v2 v1 h3.2 h3.1 (0 + ([105, 110, 118] : List UInt8).length + g.length + e.proc.length + g.length + e.obj.length + g.length) c3 (prV e.val ++ [32])
    rw [w1, w2, w3, w4]
    refine ⟨_, _, ((st + 0 : Nat) : Int), (n : Int), ((0 + 1 : Nat) : Int), rfl, ?_⟩
    have hv : valM6 ([105, 110, 118] ++ (g ++ (e.proc ++ (g ++ (e.obj ++ (g ++ (e.op ++ (gv ++ (prV e.val ++ [32]))))))))) (0 + ([105, 110, 118] : List UInt8).length + g.length + e.proc.length + g.length + e.obj.length + g.length + e.op.length) = .ok e.val := by
      refine valM6_yes (t := gv ++ prV e.val) ?_ (parM_gap e.val h4 hok gv g5)
      have hd : ([105, 110, 118] ++ (g ++ (e.proc ++ (g ++ (e.obj ++ (g ++ (e.op ++ (gv ++ (prV e.val ++ [32]))))))))).drop (0 + ([105, 110, 118] : List UInt8).length + g.length + e.proc.length + g.length + e.obj.length + g.length + e.op.length) = gv ++ (prV e.val ++ [32]) := by
        have e1 : ([105, 110, 118] ++ (g ++ (e.proc ++ (g ++ (e.obj ++ (g ++ (e.op ++ (gv ++ (prV e.val ++ [32]))))))))) = ([105, 110, 118] ++ (g ++ (e.proc ++ (g ++ (e.obj ++ (g ++ e.op)))))) ++ (gv ++ (prV e.val ++ [32])) := by simp
        rw [e1, List.drop_left' (by simp; omega)]
      rw [hd]
      exact trimR_gap (valB_of h4)
    simp only [evM6]
    rw [if_pos (show ([105, 110, 118] : List UInt8) = invL from rfl), nameM6_yes f1]
    simp only
    rw [nameM6_yes f2]
    simp only
    rw [nameM6_yes f3]
    simp only
    rw [hv, hk]
  · rw [if_neg (by omega)]
    have hbd : [114, 101, 115] ++ (g ++ (e.proc ++ (gv ++ prV e.val))) ++ [32] = [114, 101, 115] ++ (g ++ (e.proc ++ (gv ++ (prV e.val ++ [32])))) := by simp
    rw [hbd]
    obtain ⟨c1, w1⟩ := wds_solidG g2 g1 res_solid (by simp) 0 0 (e.proc ++ (gv ++ (prV e.val ++ [32])))
    obtain ⟨c2, w2⟩ := wds_solidG v2 v1 h1.2 h1.1 (0 + ([114, 101, 115] : List UInt8).length + g.length) c1 (prV e.val ++ [32])
    rw [w1, w2]
    refine ⟨_, _, ((st + 0 : Nat) : Int), (n : Int), ((0 + 1 : Nat) : Int), rfl, ?_⟩
    have hv : valM6 ([114, 101, 115] ++ (g ++ (e.proc ++ (gv ++ (prV e.val ++ [32]))))) (0 + ([114, 101, 115] : List UInt8).length + g.length + e.proc.length) = .ok e.val := by
      refine valM6_yes (t := gv ++ prV e.val) ?_ (parM_gap e.val h4 hok gv g5)
      have hd : ([114, 101, 115] ++ (g ++ (e.proc ++ (gv ++ (prV e.val ++ [32]))))).drop (0 + ([114, 101, 115] : List UInt8).length + g.length + e.proc.length) = gv ++ (prV e.val ++ [32]) := by
        have e1 : ([114, 101, 115] ++ (g ++ (e.proc ++ (gv ++ (prV e.val ++ [32]))))) = ([114, 101, 115] ++ (g ++ e.proc)) ++ (gv ++ (prV e.val ++ [32])) := by simp
        rw [e1, List.drop_left' (by simp; omega)]
      rw [hd]
      exact trimR_gap (valB_of h4)
    simp only [evM6]
    rw [if_neg (show ¬ ([114, 101, 115] : List UInt8) = invL by decide), if_pos (show ([114, 101, 115] : List UInt8) = resL from rfl), nameM6_yes f1]
    simp only
    rw [hv, hk, ho, hp]
/-- The lines of such a text. -/
def silLs (mk : Nat → Nat) : Nat → List Evn → List (List UInt8)
  | _, [] => []
  | k, e :: l => (trF (limE e) (mk k) 0 (bodyE e) ++ sepA) :: [9] :: [35] :: silLs mk (k + 1) l
theorem silL_fl (mk : Nat → Nat) : ∀ (l : List Evn) (k : Nat), silL mk k l = flL (silLs mk k l)
  | [], _ => rfl
  | e :: l, k => by
    rw [silL, silLs, flL_cons, flL_cons, flL_cons, silL_fl mk l (k + 1)]
    have e1 : ∀ (A B : List UInt8), A ++ (sepL ++ B) = A ++ sepA ++ 10 :: ([9] ++ 10 :: ([35] ++ 10 :: B)) := fun A B => by
      have : sepL = sepA ++ [10, 9, 10, 35, 10] := rfl
      rw [this]
      simp
    exact e1 _ _
theorem go_sil (mk : Nat → Nat) : ∀ (l : List Evn) (k : Nat) (acc : List Evn) (st n : Nat), (∀ e ∈ l, rightE e = true ∧ okD 16 e.val) → ∃ l', goM6 acc st (numd n (silLs mk k l)) = .ok (acc ++ l') ∧ l'.map unsE = l.map unsE
  | [], k, acc, st, n, _ => ⟨[], by rw [silLs, numd, goM6, List.append_nil], rfl⟩
  | e :: l, k, acc, st, n, h => by
    obtain ⟨h1, h2⟩ := h e (by simp)
    obtain ⟨w, r, a, b, c, hw, he⟩ := ev_sil h1 h2 (mk k) n st
    obtain ⟨l', k1, k2⟩ := go_sil mk l (k + 1) (acc ++ [⟨e.kind, e.proc, e.obj, e.op, e.val, a, b, c⟩]) (st + (trF (limE e) (mk k) 0 (bodyE e) ++ sepA).length + 1 + ([9] : List UInt8).length + 1 + ([35] : List UInt8).length + 1) (n + 1 + 1 + 1) fun x hx => h x (by simp [hx])
    refine ⟨⟨e.kind, e.proc, e.obj, e.op, e.val, a, b, c⟩ :: l', ?_, ?_⟩
    · rw [silLs, numd, goM6_more (x := (n, trF (limE e) (mk k) 0 (bodyE e) ++ sepA)) hw he, numd, goM6_none (x := (n + 1, [9])) (by kernel_rfl), numd, goM6_none (x := (n + 1 + 1, [35])) (by kernel_rfl)]
      show goM6 _ (st + (trF (limE e) (mk k) 0 (bodyE e) ++ sepA).length + 1 + ([9] : List UInt8).length + 1 + ([35] : List UInt8).length + 1) _ = _
      rw [k1]
      simp
    · rw [List.map_cons, List.map_cons, k2]
      rfl
theorem silLs_no (mk : Nat → Nat) : ∀ (l : List Evn) (k : Nat), (∀ e ∈ l, rightE e = true) → ∀ p ∈ silLs mk k l, (10 : UInt8) ∉ p
  | [], _, _, p, hp => by cases hp
  | e :: l, k, h, p, hp => by
    rw [silLs] at hp
    rcases List.mem_cons.1 hp with rfl | hp
    · intro hm
      rcases List.mem_append.1 hm with hm | hm
      · exact (tr_no (h e (by simp)) (mk k) 10 hm).1 rfl
      · revert hm; unfold sepA; decide
    · rcases List.mem_cons.1 hp with rfl | hp
      · decide
      · rcases List.mem_cons.1 hp with rfl | hp
        · decide
        · exact silLs_no mk l (k + 1) (fun x hx => h x (by simp [hx])) p hp
theorem lines_sil (mk : Nat → Nat) {l : List Evn} (h : ∀ e ∈ l, rightE e = true) : lines (10 :: silL mk 0 l) = numd 1 ([] :: silLs mk 0 l) := by
  have h1 := lns_flL [] (silLs mk 0 l) (silLs_no mk l 0 h)
  rw [List.append_nil] at h1
  unfold lines
  rw [lns, if_pos rfl, silL_fl, h1, lns, if_pos rfl, List.append_nil]
theorem parses_sil (mk : Nat → Nat) {l : List Evn} (h : ∀ e ∈ l, rightE e = true ∧ okD 16 e.val) : ∃ l', parsesM (10 :: silL mk 0 l) = .ok l' ∧ l'.map unsE = l.map unsE := by
  obtain ⟨l', h1, h2⟩ := go_sil mk l 0 [] (0 + ([] : List UInt8).length + 1) (1 + 1) h
  refine ⟨l', ?_, h2⟩
  unfold parsesM
  rw [lines_sil mk fun e he => (h e he).1, numd, goM6_none (x := (1, [])) (by kernel_rfl)]
  rw [List.nil_append] at h1
  exact h1
/- How much it is. -/
theorem trF_len (m n : Nat) : ∀ (l : List UInt8) (c : Nat), (trF m n c l).length ≤ 3 * l.length
  | [], _ => Nat.le_refl _
  | b :: l, c => by
    have ih1 := trF_len m n l c
    have ih2 := trF_len m n l (c + 1)
    rw [trF, List.length_cons]
    split
    · split
      · have := (gapL_blk n (!(l.contains 32 && decide (c + 1 < m)))).2.2.1
        rw [List.length_append]
        omega
      · rw [List.length_append]
        simp
        omega
    · rw [List.length_cons]
      omega
theorem tr_len {e : Evn} (h : rightE e = true) (n : Nat) : (trF (limE e) n 0 (bodyE e)).length ≤ (bodyE e).length + 8 := by
  have g1 := (gapL_blk n false).2.2.1
  have g2 := (gapL_blk n true).2.2.1
  rw [tr_body h n]
  unfold bodyE
  split
  · simp only [List.length_append, List.length_cons, List.length_nil]
    omega
  · simp only [List.length_append, List.length_cons, List.length_nil]
    omega
theorem silLs_len (mk : Nat → Nat) : ∀ (l : List Evn) (k : Nat), (silLs mk k l).length = 3 * l.length
  | [], _ => rfl
  | e :: l, k => by rw [silLs, List.length_cons, List.length_cons, List.length_cons, silLs_len mk l (k + 1), List.length_cons]; omega
theorem silLs_short (mk : Nat → Nat) : ∀ (l : List Evn) (k : Nat), (∀ e ∈ l, rightE e = true ∧ (bodyE e).length ≤ 615000) → ∀ p ∈ silLs mk k l, p.length ≤ 615017
  | [], _, _, p, hp => by cases hp
  | e :: l, k, h, p, hp => by
    rw [silLs] at hp
    rcases List.mem_cons.1 hp with rfl | hp
    · obtain ⟨h1, h2⟩ := h e (by simp)
      have := tr_len h1 (mk k)
      rw [List.length_append]
      have e2 : sepA.length = 9 := rfl
      omega
    · rcases List.mem_cons.1 hp with rfl | hp
      · decide
      · rcases List.mem_cons.1 hp with rfl | hp
        · decide
        · exact silLs_short mk l (k + 1) (fun x hx => h x (by simp [hx])) p hp
theorem silL_len (mk : Nat → Nat) : ∀ (l : List Evn) (k : Nat), (∀ e ∈ l, rightE e = true ∧ (bodyE e).length ≤ 615000) → (silL mk k l).length ≤ 615022 * l.length
  | [], _, _ => Nat.le_refl _
  | e :: l, k, h => by
    obtain ⟨h1, h2⟩ := h e (by simp)
    have h3 := tr_len h1 (mk k)
    have ih := silL_len mk l (k + 1) fun x hx => h x (by simp [hx])
    rw [silL, List.length_append, List.length_append, List.length_cons]
    have e2 : sepL.length = 14 := rfl
    omega
end Go.Proofs.YthmhcpghfbifiaaGreatDoor

/- How far the text with other blanks has come: plain mathematics. -/
namespace Go.Proofs.YthmhcpghfbifiaaGreatDoor
open Go.RowKit

/-- How many blanks stand from a place up to another. -/
def cntS (s : List UInt8) (a o : Nat) : Nat := ((s.take o).drop a).count 32
theorem cntS_zero (s : List UInt8) (a : Nat) : cntS s a a = 0 := by
  unfold cntS
  rw [List.drop_of_length_le (by rw [List.length_take]; omega)]
  rfl
theorem cntS_step (s : List UInt8) (a o : Nat) (h : o < s.length) (ha : a ≤ o) : cntS s a (o + 1) = cntS s a o + (if s[o] = 32 then 1 else 0) := by
  unfold cntS
  rw [List.take_succ_eq_append_getElem h, List.drop_append_of_le_length (by rw [List.length_take]; omega), List.count_append]
  congr 1
  by_cases hb : s[o] = 32
  · rw [hb]; rfl
  · rw [if_neg hb, List.count_eq_zero]
    simp only [List.mem_cons, List.not_mem_nil, or_false]
    exact fun e => hb e.symm
theorem cntS_le (s : List UInt8) (a o : Nat) : cntS s a o ≤ s.length := by
  unfold cntS
  have h1 := List.count_le_length (a := (32 : UInt8)) (l := (s.take o).drop a)
  rw [List.length_drop, List.length_take] at h1
  omega
/-- A line of a text. -/
structure LnS (s : List UInt8) (a b : Nat) (lim : Nat) : Prop where
  ab : a < b
  bs : b < s.length
  mid : ∀ j (h : j < s.length), a ≤ j → j < b → s[j] ≠ 10
  fst : ∀ h : a - 1 < s.length, 0 < a → s[a - 1] = 10
  lst : s[b] = 10
  lm : (s[a]'(by omega) = 105 ∧ lim = 4) ∨ (s[a]'(by omega) ≠ 105 ∧ lim = 2)
theorem prL_app (D F : List Evn) : prL (D ++ F) = prL D ++ prL F := by
  unfold prL
  rw [List.map_append, List.flatten_append]
theorem prL_mid (D : List Evn) (e : Evn) (F : List Evn) : prL (D ++ e :: F) = prL D ++ (bodyE e ++ 10 :: prL F) := by
  rw [prL_app]
  have : prL (e :: F) = bodyE e ++ 10 :: prL F := by
    unfold prL
    rw [List.map_cons, List.flatten_cons, lnE_body]
    simp
  rw [this]
theorem prL_last (D : List Evn) : prL D = [] ∨ ∃ A, prL D = A ++ [10] := by
  rcases List.eq_nil_or_concat D with rfl | ⟨D', e, rfl⟩
  · exact .inl rfl
  · right
    rw [List.concat_eq_append, prL_app]
    refine ⟨prL D' ++ bodyE e, ?_⟩
    unfold prL
    simp [lnE_body]
theorem body_first (e : Evn) : ∃ t, bodyE e = (if e.kind = 1 then 105 else 114) :: t := by
  unfold bodyE
  split
  · exact ⟨_, rfl⟩
  · exact ⟨_, rfl⟩
theorem lnS_of {D : List Evn} {e : Evn} {F : List Evn} (h : rightE e = true) : LnS (prL (D ++ e :: F)) (prL D).length ((prL D).length + (bodyE e).length) (limE e) := by
  obtain ⟨t, ht⟩ := body_first e
  have hpos : 0 < (bodyE e).length := by rw [ht]; simp
  rw [prL_mid]
  refine ⟨by omega, by simp, fun j hj h1 h2 => ?_, fun hj h1 => ?_, ?_, ?_⟩
  · rw [List.getElem_append_right h1, List.getElem_append_left (by omega)]
    exact (body_no h _ (List.getElem_mem _)).1
  · rcases prL_last D with hd | ⟨A, hd⟩
    · rw [hd] at h1; simp at h1
    · rw [List.getElem_append_left (by omega)]
      have e1 : ∀ (L : List UInt8) (hL : L = A ++ [10]) (h : L.length - 1 < L.length), L[L.length - 1] = 10 := fun L hL h => by subst hL; simp
      exact e1 _ hd _
  · rw [List.getElem_append_right (by omega), List.getElem_append_right (by omega)]
    simp
  · have e1 : (prL D ++ (bodyE e ++ 10 :: prL F))[(prL D).length]'(by simp; omega) = if e.kind = 1 then 105 else 114 := by
      rw [List.getElem_append_right (Nat.le_refl _)]
      simp only [Nat.sub_self, ht, List.cons_append, List.getElem_cons_zero]
    unfold limE
    rw [e1]
    split
    · exact .inl ⟨rfl, rfl⟩
    · exact .inr ⟨by decide, rfl⟩
/-- How far the text has come. -/
def MidS (l : List Evn) (mk : Nat → Nat) (i k : Nat) (acc : List UInt8) (D : List Evn) (e : Evn) (F : List Evn) (j : Nat) : Prop :=
  l = D ++ e :: F ∧ i = (prL D).length + j ∧ j ≤ (bodyE e).length ∧ k = D.length ∧ acc ++ (trF (limE e) (mk k) (((bodyE e).take j).count 32) ((bodyE e).drop j) ++ (sepL ++ silL mk (k + 1) F)) = 10 :: silL mk 0 l
def InS (l : List Evn) (mk : Nat → Nat) (i k : Nat) (acc : List UInt8) : Prop := (∃ D e F j, MidS l mk i k acc D e F j) ∨ (i = (prL l).length ∧ acc = 10 :: silL mk 0 l)
theorem inS_start (l : List Evn) (mk : Nat → Nat) : InS l mk 0 0 [10] := by
  cases l with
  | nil => exact .inr ⟨rfl, rfl⟩
  | cons e F => exact .inl ⟨[], e, F, 0, rfl, rfl, Nat.zero_le _, rfl, by simp [silL]⟩
theorem inS_done {l : List Evn} {mk : Nat → Nat} {i k : Nat} {acc : List UInt8} (h : InS l mk i k acc) (hi : ¬ i < (prL l).length) : i = (prL l).length ∧ acc = 10 :: silL mk 0 l := by
  rcases h with ⟨D, e, F, j, hl, hij, hj, _⟩ | h
  · exfalso
    rw [hl, prL_mid] at hi
    simp only [List.length_append, List.length_cons] at hi
    omega
  · exact h
theorem inS_mid {l : List Evn} {mk : Nat → Nat} {i k : Nat} {acc : List UInt8} (h : InS l mk i k acc) (hi : i < (prL l).length) : ∃ D e F j, MidS l mk i k acc D e F j := by
  rcases h with h | h
  · exact h
  · omega
/-- The line's end. -/
theorem mid_end {l : List Evn} {mk : Nat → Nat} {i k : Nat} {acc : List UInt8} {D : List Evn} {e : Evn} {F : List Evn} {j : Nat} (h : MidS l mk i k acc D e F j) (hj : j = (bodyE e).length) : (∀ hi : i < (prL l).length, (prL l)[i] = 10) ∧ InS l mk (i + 1) (k + 1) (acc ++ sepL) := by
  obtain ⟨rfl, rfl, _, rfl, ha⟩ := h
  subst hj
  have hd : (bodyE e).drop (bodyE e).length = [] := List.drop_eq_nil_of_le (Nat.le_refl _)
  rw [hd] at ha
  refine ⟨fun hi => ?_, ?_⟩
  · simp only [prL_mid]
    rw [List.getElem_append_right (by omega), List.getElem_append_right (by omega)]
    simp
  · cases F with
    | nil =>
      refine .inr ⟨?_, ?_⟩
      · rw [prL_mid]
        simp [prL]
        omega
      · rw [← ha]
        simp [trF, silL]
    | cons e' F =>
      refine .inl ⟨D ++ [e], e', F, 0, by simp, ?_, Nat.zero_le _, by simp, ?_⟩
      · rw [prL_mid]
        simp [prL]
        omega
      · rw [← ha]
        simp [trF, silL]
/-- A byte within a line. -/
theorem mid_byte {l : List Evn} {mk : Nat → Nat} {i k : Nat} {acc : List UInt8} {D : List Evn} {e : Evn} {F : List Evn} {j : Nat} (hr : rightE e = true) (h : MidS l mk i k acc D e F j) (hj : j < (bodyE e).length) :
    LnS (prL l) (prL D).length ((prL D).length + (bodyE e).length) (limE e) ∧ (prL D).length ≤ i ∧ i < (prL D).length + (bodyE e).length ∧ ∃ hi : i < (prL l).length, (prL l)[i] ≠ 10 ∧
      ((prL l)[i] ≠ 32 → InS l mk (i + 1) k (acc ++ [(prL l)[i]])) ∧
      ((prL l)[i] = 32 → ¬ cntS (prL l) (prL D).length i < limE e → InS l mk (i + 1) k (acc ++ [32])) ∧
      ((prL l)[i] = 32 → cntS (prL l) (prL D).length i < limE e → InS l mk (i + 1) k (acc ++ gapL (mk k) (!((((prL l).take ((prL D).length + (bodyE e).length)).drop (i + 1)).contains 32 && decide (cntS (prL l) (prL D).length i + 1 < limE e))))) := by
  obtain ⟨rfl, rfl, _, rfl, ha⟩ := h
  have hL := lnS_of (D := D) (F := F) hr
  have hi : (prL D).length + j < (prL (D ++ e :: F)).length := by have := hL.bs; omega
  have hget : (prL (D ++ e :: F))[(prL D).length + j] = (bodyE e)[j] := by
    simp only [prL_mid]
    rw [List.getElem_append_right (by omega), List.getElem_append_left (by omega)]
    congr 1
    omega
  have hcnt : cntS (prL (D ++ e :: F)) (prL D).length ((prL D).length + j) = ((bodyE e).take j).count 32 := by
    unfold cntS
    rw [prL_mid, List.take_append, List.take_of_length_le (by omega), Nat.add_sub_cancel_left, List.drop_left, List.take_append_of_le_length (by omega)]
  have hrest : ((prL (D ++ e :: F)).take ((prL D).length + (bodyE e).length)).drop ((prL D).length + j + 1) = (bodyE e).drop (j + 1) := by
    rw [prL_mid, List.take_append, List.take_of_length_le (by omega), Nat.add_sub_cancel_left, List.take_left, Nat.add_assoc, List.drop_append, List.drop_of_length_le (by omega), List.nil_append, Nat.add_sub_cancel_left]
  have hdrop : (bodyE e).drop j = (bodyE e)[j] :: (bodyE e).drop (j + 1) := List.drop_eq_getElem_cons hj
  have htk : ((bodyE e).take (j + 1)).count 32 = ((bodyE e).take j).count 32 + if (bodyE e)[j] = 32 then 1 else 0 := by
    rw [List.take_succ_eq_append_getElem hj, List.count_append]
    congr 1
    by_cases hb : (bodyE e)[j] = 32
    · rw [hb]; rfl
    · rw [if_neg hb, List.count_eq_zero]
      simp only [List.mem_cons, List.not_mem_nil, or_false]
      exact fun e => hb e.symm
  refine ⟨hL, by omega, by omega, hi, ?_, ?_, ?_, ?_⟩
  · rw [hget]; exact (body_no hr _ (List.getElem_mem _)).1
  · rw [hget]
    intro hb
    refine .inl ⟨D, e, F, j + 1, rfl, by omega, by omega, rfl, ?_⟩
    rw [htk, if_neg hb, Nat.add_zero]
    rw [hdrop, trF, if_neg hb] at ha
    rw [← ha]
    simp
  · rw [hget, hcnt]
    intro hb hc
    refine .inl ⟨D, e, F, j + 1, rfl, by omega, by omega, rfl, ?_⟩
    rw [htk, if_pos hb]
    rw [hdrop, trF, if_pos hb, if_neg hc] at ha
    rw [← ha]
    simp
  · rw [hget, hcnt, hrest]
    intro hb hc
    refine .inl ⟨D, e, F, j + 1, rfl, by omega, by omega, rfl, ?_⟩
    rw [htk, if_pos hb]
    rw [hdrop, trF, if_pos hb, if_pos hc] at ha
    rw [← ha]
    simp
/-- The two, where the text has a name. -/
theorem mid_endS {l : List Evn} {mk : Nat → Nat} {i k : Nat} {acc : List UInt8} {D : List Evn} {e : Evn} {F : List Evn} {j : Nat} {s : List UInt8} (hs : prL l = s) (h : MidS l mk i k acc D e F j) (hj : j = (bodyE e).length) : (∀ hi : i < s.length, s[i] = 10) ∧ InS l mk (i + 1) (k + 1) (acc ++ sepL) := by
  subst hs
  exact mid_end h hj
theorem mid_byteS {l : List Evn} {mk : Nat → Nat} {i k : Nat} {acc : List UInt8} {D : List Evn} {e : Evn} {F : List Evn} {j : Nat} {s : List UInt8} (hs : prL l = s) (hr : rightE e = true) (h : MidS l mk i k acc D e F j) (hj : j < (bodyE e).length) :
    LnS s (prL D).length ((prL D).length + (bodyE e).length) (limE e) ∧ (prL D).length ≤ i ∧ i < (prL D).length + (bodyE e).length ∧ ∃ hi : i < s.length, s[i] ≠ 10 ∧
      (s[i] ≠ 32 → InS l mk (i + 1) k (acc ++ [s[i]])) ∧
      (s[i] = 32 → ¬ cntS s (prL D).length i < limE e → InS l mk (i + 1) k (acc ++ [32])) ∧
      (s[i] = 32 → cntS s (prL D).length i < limE e → InS l mk (i + 1) k (acc ++ gapL (mk k) (!(((s.take ((prL D).length + (bodyE e).length)).drop (i + 1)).contains 32 && decide (cntS s (prL D).length i + 1 < limE e))))) := by
  subst hs
  exact mid_byte hr h hj
end Go.Proofs.YthmhcpghfbifiaaGreatDoor

/- The law's word, more, gap. -/
namespace Go.Proofs.YthmhcpghfbifiaaGreatDoor
open Go.RowKit

theorem u8_neS {b c : UInt8} (h : b ≠ c) : ((b.toNat : Int) == (c.toNat : Int)) = false ∧ ((b.toNat : Int) != (c.toNat : Int)) = true := by
  have : b.toNat ≠ c.toNat := fun e => h (UInt8.toNat_inj.1 e)
  constructor
  · simp; omega
  · simp; omega
set_option maxRecDepth 100000 in
set_option maxHeartbeats 2000000 in
theorem word_kS (w : World) (s : List UInt8) (a b o lim : Nat) (hL : LnS s a b lim) (hao : a ≤ o) (hob : o < b) (hs : s.length ≤ 1000000000000) :
    Calls Tryz.prog 7 #[.string (str s), .int .i64 (o : Int)] w fun e w' => e = .returned (.bool (decide (cntS s a o < lim))) ∧ Below w.heap.size w w' := by
  have hbs := hL.bs
  have hoL : o < s.length := by omega
  have haL : a < s.length := by omega
  have HL := hide hL
  clear hL
  go_enter Tryz.func7, Tryz.ntmps7
  go_wp2
  go_loopw [5] (fun i wr => ∃ k : Nat, a ≤ k ∧ k ≤ o ∧ i = .int .i64 k ∧ Below w.heap.size w wr) (fun i _ => (Lib.intOf i).toNat)
  case atStart => exact ⟨o, hao, Nat.le_refl _, rfl, Below.refl _ _⟩
  case round =>
    obtain ⟨k, hk1, hk2, rfl, hb2⟩ := hrel
    by_cases hka : a < k
    · obtain ⟨m, rfl⟩ : ∃ m, k = m + 1 := ⟨k - 1, by omega⟩
      have hm : m < s.length := by omega
      have hw : wrap64 (m : Int) = m := by unfold wrap64; omega
      have hix := ix_at s m hm
      have hq : ((s[m].toNat : Int) != 10) = true := (u8_neS (HL.out.mid m hm (by omega) (by omega))).2
      go_wp2
      go_roundw
      case rel => exact ⟨m, by omega, by omega, by first | rfl | (rw [hw]) | go_num, hb2⟩
      case measure => simp [Lib.intOf]
    · have hkE : a = k := by omega
      subst hkE
      have HB2 := hide hb2
      clear hb2 hka
      by_cases hz : a = 0
      · have hk0 : ¬ (0 : Int) < (a : Int) := by omega
        clear hz
        go_wp2
        go_loopw [6, 7] (fun nv kv wr => ∃ q : Nat, a ≤ q ∧ q ≤ o ∧ nv = .int .i64 (cntS s a q : Nat) ∧ kv = .int .i64 q ∧ Below w.heap.size w wr) (fun _ kv _ => o - (Lib.intOf kv).toNat)
        case atStart => exact ⟨a, Nat.le_refl _, hao, by rw [cntS_zero]; rfl, rfl, HB2.out⟩
        case round =>
          obtain ⟨q, hq1, hq2, rfl, rfl, hb3⟩ := hrel
          have hcl := cntS_le s a q
          by_cases hqo : q < o
          · have hq : q < s.length := by omega
            have hix := ix_at s q hq
            have hst1 : s[q] = 32 → cntS s a (q + 1) = cntS s a q + 1 := fun h => by rw [cntS_step s a q hq hq1, if_pos h]
            have hst0 : s[q] ≠ 32 → cntS s a (q + 1) = cntS s a q := fun h => by rw [cntS_step s a q hq hq1, if_neg h, Nat.add_zero]
            have hlo : (q : Int) < (o : Int) := by omega
            by_cases h32 : s[q] = 32
            · rw [h32] at hix
              have hst := hide (hst1 h32)
              clear hst1 hst0
              have hix2 : ∀ U, (Instr.index 9 (.string (str s)) (.int .i64 q)).run Tryz.prog U = .ok (.int .u8 32) U := hix
              clear hix
              go_wp2
              go_roundw
              case rel => exact ⟨q + 1, by omega, by omega, by rw [hst.out]; go_num, by go_num, hb3⟩
              case measure => simp [Lib.intOf]; omega
            · have hne : ((s[q].toNat : Int) == 32) = false := (u8_neS h32).1
              have hst := hide (hst0 h32)
              clear hst1 hst0
              go_wp2
              go_roundw
              case rel => exact ⟨q + 1, by omega, by omega, by rw [hst.out], by go_num, hb3⟩
              case measure => simp [Lib.intOf]; omega
          · obtain rfl : q = o := by omega
            have hix := ix_at s a haL
            have hlo : ¬ (q : Int) < (q : Int) := by omega
            rcases HL.out.lm with ⟨h1, h2⟩ | ⟨h1, h2⟩
            · rw [h1] at hix
              have hix2 : ∀ U, (Instr.index 9 (.string (str s)) (.int .i64 a)).run Tryz.prog U = .ok (.int .u8 105) U := hix
              clear hix
              subst h2
              go_wp2
              go_ret
              exact ⟨congrArg (fun b => Ending.returned (Value.bool b)) (decide_eq_decide.2 (by omega)), hb3⟩
            · have hne : ((s[a].toNat : Int) == 105) = false := (u8_neS h1).1
              subst h2
              go_wp2
              go_ret
              exact ⟨congrArg (fun b => Ending.returned (Value.bool b)) (decide_eq_decide.2 (by omega)), hb3⟩
      · obtain ⟨m, hm0⟩ : ∃ m, a = m + 1 := ⟨a - 1, by omega⟩
        have hm : m < s.length := by omega
        have hw : wrap64 ((a : Int) - 1) = m := by unfold wrap64; omega
        have hw2 : wrap64 (m : Int) = m := by unfold wrap64; omega
        have hq : s[m] = 10 := by
          have := HL.out.fst (by omega) (by omega)
          simpa only [hm0, Nat.add_sub_cancel] using this
        have hix0 : ∀ U, (Instr.index 9 (.string (str s)) (.int .i64 (m : Int))).run Tryz.prog U = .ok (.int .u8 10) U := fun U => by have := ix_at s m hm U; rw [hq] at this; exact this
        have hix1 : ∀ U, (Instr.index 9 (.string (str s)) (.int .i64 ((a : Int) - 1))).run Tryz.prog U = .ok (.int .u8 10) U := fun U => by
          rw [show (a : Int) - 1 = (m : Int) by omega]
          exact hix0 U
        have hk0 : (0 : Int) < (a : Int) := by omega
        clear hq hz hm0
        go_wp2
        go_loopw [6, 7] (fun nv kv wr => ∃ q : Nat, a ≤ q ∧ q ≤ o ∧ nv = .int .i64 (cntS s a q : Nat) ∧ kv = .int .i64 q ∧ Below w.heap.size w wr) (fun _ kv _ => o - (Lib.intOf kv).toNat)
        case atStart => exact ⟨a, Nat.le_refl _, hao, by rw [cntS_zero]; rfl, rfl, HB2.out⟩
        case round =>
          obtain ⟨q, hq1, hq2, rfl, rfl, hb3⟩ := hrel
          have hcl := cntS_le s a q
          by_cases hqo : q < o
          · have hq : q < s.length := by omega
            have hix := ix_at s q hq
            have hst1 : s[q] = 32 → cntS s a (q + 1) = cntS s a q + 1 := fun h => by rw [cntS_step s a q hq hq1, if_pos h]
            have hst0 : s[q] ≠ 32 → cntS s a (q + 1) = cntS s a q := fun h => by rw [cntS_step s a q hq hq1, if_neg h, Nat.add_zero]
            have hlo : (q : Int) < (o : Int) := by omega
            by_cases h32 : s[q] = 32
            · rw [h32] at hix
              have hst := hide (hst1 h32)
              clear hst1 hst0
              have hix2 : ∀ U, (Instr.index 9 (.string (str s)) (.int .i64 q)).run Tryz.prog U = .ok (.int .u8 32) U := hix
              clear hix
              go_wp2
              go_roundw
              case rel => exact ⟨q + 1, by omega, by omega, by rw [hst.out]; go_num, by go_num, hb3⟩
              case measure => simp [Lib.intOf]; omega
            · have hne : ((s[q].toNat : Int) == 32) = false := (u8_neS h32).1
              have hst := hide (hst0 h32)
              clear hst1 hst0
              go_wp2
              go_roundw
              case rel => exact ⟨q + 1, by omega, by omega, by rw [hst.out], by go_num, hb3⟩
              case measure => simp [Lib.intOf]; omega
          · obtain rfl : q = o := by omega
            have hix := ix_at s a haL
            have hlo : ¬ (q : Int) < (q : Int) := by omega
            rcases HL.out.lm with ⟨h1, h2⟩ | ⟨h1, h2⟩
            · rw [h1] at hix
              have hix2 : ∀ U, (Instr.index 9 (.string (str s)) (.int .i64 a)).run Tryz.prog U = .ok (.int .u8 105) U := hix
              clear hix
              subst h2
              go_wp2
              go_ret
              exact ⟨congrArg (fun b => Ending.returned (Value.bool b)) (decide_eq_decide.2 (by omega)), hb3⟩
            · have hne : ((s[a].toNat : Int) == 105) = false := (u8_neS h1).1
              subst h2
              go_wp2
              go_ret
              exact ⟨congrArg (fun b => Ending.returned (Value.bool b)) (decide_eq_decide.2 (by omega)), hb3⟩
theorem cntS_const (s : List UInt8) (a : Nat) : ∀ (d p : Nat), a ≤ p → p + d ≤ s.length → (∀ j (h : j < s.length), p ≤ j → j < p + d → s[j] ≠ 32) → cntS s a (p + d) = cntS s a p
  | 0, _, _, _, _ => rfl
  | d + 1, p, h1, h2, h3 => by
    rw [← Nat.add_assoc, cntS_step s a (p + d) (by omega) (by omega), if_neg (h3 (p + d) (by omega) (by omega) (by omega)), Nat.add_zero]
    exact cntS_const s a d p h1 (by omega) fun j h h4 h5 => h3 j h h4 (by omega)
theorem range_yes {s : List UInt8} {p q b : Nat} (hp : p ≤ q) (hq : q < b) (hb : b ≤ s.length) (h : s[q]'(by omega) = 32) : ((s.take b).drop p).contains 32 = true := by
  have hl : q - p < ((s.take b).drop p).length := by rw [List.length_drop, List.length_take]; omega
  have e : ((s.take b).drop p)[q - p] = 32 := by
    rw [List.getElem_drop, List.getElem_take]
    rw [← h]
    congr 1
    omega
  rw [List.contains_iff_mem, ← e]
  exact List.getElem_mem _
theorem range_no {s : List UInt8} {p b : Nat} (h : ∀ j (h : j < s.length), p ≤ j → j < b → s[j] ≠ 32) : ((s.take b).drop p).contains 32 = false := by
  rw [Bool.eq_false_iff]
  intro hc
  rw [List.contains_iff_mem] at hc
  obtain ⟨j, hj, e⟩ := List.getElem_of_mem hc
  rw [List.length_drop, List.length_take] at hj
  rw [List.getElem_drop, List.getElem_take] at e
  exact h (p + j) (by omega) (by omega) (by omega) e
set_option maxRecDepth 100000 in
set_option maxHeartbeats 2000000 in
theorem more_kS (w : World) (s : List UInt8) (a b i lim : Nat) (hL : LnS s a b lim) (hai : a ≤ i) (hib : i < b) (hs : s.length ≤ 1000000000000) (h32 : ∀ h : i < s.length, s[i] = 32) :
    Calls Tryz.prog 9 #[.string (str s), .int .i64 (i : Int)] w fun e w' => e = .returned (.bool (((s.take b).drop (i + 1)).contains 32 && decide (cntS s a i + 1 < lim))) ∧ Below w.heap.size w w' := by
  have hbs := hL.bs
  have hiL : i < s.length := by omega
  have hc1 : cntS s a (i + 1) = cntS s a i + 1 := by rw [cntS_step s a i hiL hai, if_pos (h32 hiL)]
  have HL := hide hL
  have HC := hide hc1
  have hsz : (str s).size = s.length := str_size s
  clear hL hc1 h32
  go_enter Tryz.func9, Tryz.ntmps9
  go_wp2
  go_loopw [5] (fun kv wr => ∃ q : Nat, i + 1 ≤ q ∧ q ≤ b ∧ kv = .int .i64 q ∧ Hid (∀ j (h : j < s.length), i + 1 ≤ j → j < q → s[j] ≠ 32) ∧ Below w.heap.size w wr) (fun kv _ => b - (Lib.intOf kv).toNat)
  case atStart => exact ⟨i + 1, Nat.le_refl _, by omega, by go_num, hide (fun j _ h1 h2 => absurd h2 (by omega)), Below.refl _ _⟩
  case round =>
    obtain ⟨q, hq1, hq2, rfl, HN, hb3⟩ := hrel
    have hqL : q < s.length := by omega
    have hix := ix_at s q hqL
    by_cases hqb : q < b
    · have hq10 : ((s[q].toNat : Int) != 10) = true := (u8_neS (HL.out.mid q hqL (by omega) hqb)).2
      by_cases h32 : s[q] = 32
      · rw [h32] at hix
        have hix2 : ∀ U, (Instr.index 9 (.string (str s)) (.int .i64 q)).run Tryz.prog U = .ok (.int .u8 32) U := hix
        have hcq : cntS s a q = cntS s a i + 1 := by
          have := cntS_const s a (q - (i + 1)) (i + 1) (by omega) (by omega) (fun j h h1 h2 => HN.out j h h1 (by omega))
          rw [show i + 1 + (q - (i + 1)) = q by omega] at this
          rw [this, HC.out]
        have hrg := range_yes (p := i + 1) hq1 hqb (by omega) h32
        have HW := hide (fun (U : World) => word_kS U s a b q lim HL.out (by omega) hqb hs)
        rw [hcq] at HW
        have HRG := hide hrg
        clear hix hq10 hcq hrg h32
        go_wp2_with (go_at_call 7; refine (HW.out _).mono ?_; clear HW; rintro e w4 ⟨rfl, b4⟩)
        go_ret
        exact ⟨by rw [HRG.out]; simp, trans_v hb3 b4⟩
      · have hne : ((s[q].toNat : Int) == 32) = false := (u8_neS h32).1
        go_wp2
        go_roundw
        case rel => exact ⟨q + 1, by omega, by omega, by go_num, hide (fun j h h1 h2 => by
          by_cases hjq : j = q
          · subst hjq; exact h32
          · exact HN.out j h h1 (by omega)), hb3⟩
        case measure => simp [Lib.intOf]; omega
    · have hqE : b = q := by omega
      subst hqE
      have h10 : s[b] = 10 := HL.out.lst
      rw [h10] at hix
      have hix2 : ∀ U, (Instr.index 9 (.string (str s)) (.int .i64 b)).run Tryz.prog U = .ok (.int .u8 10) U := hix
      have hrg := range_no (s := s) (p := i + 1) (b := b) (fun j h h1 h2 => HN.out j h h1 h2)
      have HRG := hide hrg
      clear hix h10 hrg
      go_wp2
      go_ret
      exact ⟨by rw [HRG.out]; simp, hb3⟩
set_option maxRecDepth 100000 in
set_option maxHeartbeats 2000000 in
/-- The law's blanks. -/
theorem gap_kS (w : World) (n : Nat) (hn : n < 256) (v : Bool) :
    Calls Tryz.prog 8 #[.int .u8 (n : Int), .bool v] w fun e w' => e = .returned (.string (str (gapL n v))) ∧ Below w.heap.size w w' := by
  have e1 := World.alloc_heap_new w (.cells #[.string ⟨#[32]⟩, .string ⟨#[32, 32]⟩, .string ⟨#[9]⟩, .string ⟨#[32, 9, 32]⟩, .string ⟨#[32, 13]⟩] 9)
  have c0 := cells_at e1 0 _ rfl
  have c1 := cells_at e1 1 _ rfl
  have c2 := cells_at e1 2 _ rfl
  have c3 := cells_at e1 3 _ rfl
  have c4 := cells_at e1 4 _ rfl
  have bA : Below w.heap.size w (w.alloc (.cells #[.string ⟨#[32]⟩, .string ⟨#[32, 32]⟩, .string ⟨#[9]⟩, .string ⟨#[32, 9, 32]⟩, .string ⟨#[32, 13]⟩] 9)) := alloc_v (Below.refl _ _) _
  have BA := hide bA
  clear e1 bA
  have hw : IntKind.i64.wrap (n : Int) = n := by rw [IntKind.wrap_i64]; omega
  cases v
  · have h5 : n % 5 = 0 ∨ n % 5 = 1 ∨ n % 5 = 2 ∨ n % 5 = 3 ∨ n % 5 = 4 := by omega
    have ht : (n : Int).tmod 5 = ((n % 5 : Nat) : Int) := (Int.ofNat_tmod n 5).symm
    rcases h5 with h | h | h | h | h
    · have hg : gapL n false = [32] := by unfold gapL; rw [if_neg Bool.false_ne_true, h]; rfl
      rw [h] at ht
      rw [hg]
      clear hg h
      go_enter Tryz.func8, Tryz.ntmps8
      go_wp2
      go_ret
      exact ⟨rfl, BA.out⟩
    · have hg : gapL n false = [32, 32] := by unfold gapL; rw [if_neg Bool.false_ne_true, h]; rfl
      rw [h] at ht
      rw [hg]
      clear hg h
      go_enter Tryz.func8, Tryz.ntmps8
      go_wp2
      go_ret
      exact ⟨rfl, BA.out⟩
    · have hg : gapL n false = [9] := by unfold gapL; rw [if_neg Bool.false_ne_true, h]; rfl
      rw [h] at ht
      rw [hg]
      clear hg h
      go_enter Tryz.func8, Tryz.ntmps8
      go_wp2
      go_ret
      exact ⟨rfl, BA.out⟩
    · have hg : gapL n false = [32, 9, 32] := by unfold gapL; rw [if_neg Bool.false_ne_true, h]; rfl
      rw [h] at ht
      rw [hg]
      clear hg h
      go_enter Tryz.func8, Tryz.ntmps8
      go_wp2
      go_ret
      exact ⟨rfl, BA.out⟩
    · have hg : gapL n false = [32, 13] := by unfold gapL; rw [if_neg Bool.false_ne_true, h]; rfl
      rw [h] at ht
      rw [hg]
      clear hg h
      go_enter Tryz.func8, Tryz.ntmps8
      go_wp2
      go_ret
      exact ⟨rfl, BA.out⟩
  · have h4 : n % 4 = 0 ∨ n % 4 = 1 ∨ n % 4 = 2 ∨ n % 4 = 3 := by omega
    have ht : (n : Int).tmod 4 = ((n % 4 : Nat) : Int) := (Int.ofNat_tmod n 4).symm
    rcases h4 with h | h | h | h
    · have hg : gapL n true = [32] := by unfold gapL; rw [if_pos rfl, h]; rfl
      rw [h] at ht
      rw [hg]
      clear hg h
      go_enter Tryz.func8, Tryz.ntmps8
      go_wp2
      go_ret
      exact ⟨rfl, BA.out⟩
    · have hg : gapL n true = [32, 32] := by unfold gapL; rw [if_pos rfl, h]; rfl
      rw [h] at ht
      rw [hg]
      clear hg h
      go_enter Tryz.func8, Tryz.ntmps8
      go_wp2
      go_ret
      exact ⟨rfl, BA.out⟩
    · have hg : gapL n true = [9] := by unfold gapL; rw [if_pos rfl, h]; rfl
      rw [h] at ht
      rw [hg]
      clear hg h
      go_enter Tryz.func8, Tryz.ntmps8
      go_wp2
      go_ret
      exact ⟨rfl, BA.out⟩
    · have hg : gapL n true = [32, 9, 32] := by unfold gapL; rw [if_pos rfl, h]; rfl
      rw [h] at ht
      rw [hg]
      clear hg h
      go_enter Tryz.func8, Tryz.ntmps8
      go_wp2
      go_ret
      exact ⟨rfl, BA.out⟩
end Go.Proofs.YthmhcpghfbifiaaGreatDoor

/- EventSilent answers true. -/
namespace Go.Proofs.YthmhcpghfbifiaaGreatDoor
open Go.RowKit

theorem inS_len {l : List Evn} {mk : Nat → Nat} {i k : Nat} {acc : List UInt8} (h : InS l mk i k acc) : acc.length ≤ (10 :: silL mk 0 l).length := by
  rcases h with ⟨D, e, F, j, hl, hij, hj, hk, ha⟩ | ⟨_, ha⟩
  · have := congrArg List.length ha
    rw [List.length_append] at this
    omega
  · rw [ha]
    exact Nat.le_refl _
set_option maxRecDepth 100000 in
set_option maxHeartbeats 16000000 in
theorem eventSilent_walk (l : List Evn) (mb : List UInt8) (w : World) (n : Nat) (sa sm : Value) (hT : Tabs w) (ha : EvsAt w w.heap.size n sa l) (hm : BytesIn w 0 w.heap.size sm mb) (hl : l.length ≤ 1048576) (hmb : mb.length ≤ 1048576) :
    Calls Tryz.prog 3 #[sa, sm] w fun e w' => e = .returned (.bool true) ∧ Below w.heap.size w w' := by
  have q0 := fe0
  have HP := hide (print6_k l w n sa hT ha (pr_ok ha hl))
  have HA := hide (fun (U : World) (b : Below w.heap.size w U) => alive6_k U (hT.below b))
  unfold PrR at HP
  cases hr : l.all rightE with
  | false =>
    simp only [hr, Bool.false_eq_true, if_false] at HP
    obtain ⟨a0, c0, rfl, _⟩ := ha.len
    clear ha hT hr hm
    go_enter Tryz.func3, Tryz.ntmps3
    go_wp2_with (first
      | (go_at_call 4; refine HP.out.mono ?_; clear HP; rintro e w1 ⟨b1, rfl⟩; have B1 := hide b1; clear b1)
      | (go_at_call 5; refine (num6_k _ _).mono ?_; rintro e wq ⟨rfl, rfl⟩)
      | (go_at_call 6; refine (HA.out _ B1.out).mono ?_; clear HA; rintro e w3 ⟨rfl, b3⟩; have B3 := hide (trans_v B1.out b3); clear b3))
    go_ret
    exact ⟨rfl, B3.out⟩
  | true =>
    have hre : ∀ e ∈ l, rightE e = true := fun e he => List.all_eq_true.1 hr e he
    have hev : ∀ e ∈ l, okD 16 e.val ∧ (bodyE e).length ≤ 615000 := fun e he => by
      obtain ⟨j, hj, rfl⟩ := List.getElem_of_mem he
      obtain ⟨aa, ca, rfl, hla⟩ := ha.len
      obtain ⟨b, o, s, _, _, _, _, _, _, _, _, _, _, _, _, _, _, h5, h6, _⟩ := ha.item j hj
      have := (ev_lens ha j hj (hre _ he)).2
      rw [lnE_body, List.length_append] at this
      exact ⟨okD_at n 16 _ s h6.val h5, by omega⟩
    obtain ⟨mk, hmkd⟩ : ∃ mk : Nat → Nat, (fun k => (mb.getD k 0).toNat) = mk := ⟨_, rfl⟩
    have hmk : ∀ k, mk k < 256 := fun k => by rw [← hmkd]; exact (mb.getD k 0).toNat_lt
    obtain ⟨l', hp, hu⟩ := parses_sil mk (fun e he => ⟨hre e he, (hev e he).1⟩)
    have hs0 : (prL l).length ≤ 1000000000000 := by
      have := pr_ok ha hl l.length (Nat.le_refl _) (fun j hj _ => hre _ (List.getElem_mem hj))
      rwa [List.take_length] at this
    have hTl : (10 :: silL mk 0 l).length ≤ 1000000000000 := by
      have := silL_len mk l 0 (fun e he => ⟨hre e he, (hev e he).2⟩)
      have h2 := Nat.mul_le_mul_left 615022 hl
      rw [List.length_cons]
      omega
    have hll : ∀ x ∈ lines (10 :: silL mk 0 l), x.2.length ≤ 1048576 := fun x hx => by
      rw [lines_sil mk hre] at hx
      rcases List.mem_cons.1 (numd_mem _ _ _ hx) with h2 | h2
      · rw [h2]; simp
      · have := silLs_short mk l 0 (fun e he => ⟨hre e he, (hev e he).2⟩) _ h2
        omega
    have hln : (lines (10 :: silL mk 0 l)).length ≤ 999999999 := by
      rw [lines_sil mk hre, numd_length, List.length_cons, silLs_len]
      omega
    have hl' := uns_len hu
    have hs1 := uns_same hu hr
    have HPA := hide (fun (U : World) (b : Below w.heap.size w U) => parse6_kB U (10 :: silL mk 0 l) hTl hll hln (hT.below b))
    have HSM := hide (fun (U : World) (s2 : Value) (b : Below w.heap.size w U) (h2 : EvsAt U U.heap.size 16 s2 l') => same6_k l l' U n 16 sa s2 (hT.below b) ((ha.below b).up b.size) h2)
    unfold Pa6 at HPA
    simp only [hp] at HPA
    simp only [hs1] at HSM
    simp only [hr, if_true] at HP
    have hl9 : l'.length ≤ 1000000000 := by omega
    obtain ⟨a0, c0, rfl, _⟩ := ha.len
    obtain ⟨ma, mc, rfl, _⟩ := id hm
    have HMB := hide hm
    clear ha hT hr hm hev hp hll hln hs1 hu hl'
    obtain ⟨s, hsl⟩ : ∃ s, prL l = s := ⟨_, rfl⟩
    have hIn0 := inS_start l mk
    rw [hsl] at hs0 HP
    have hs : s.length ≤ 1000000000000 := hs0
    have hsz : (str s).size = s.length := str_size s
    go_enter Tryz.func3, Tryz.ntmps3
    go_wp2_with (first
      | (go_at_call 4; refine HP.out.mono ?_; clear HP; rintro e w1 ⟨b1, rfl⟩; have B1 := hide b1; clear b1)
      | (go_at_call 5; refine (num6_k _ _).mono ?_; rintro e wq ⟨rfl, rfl⟩))
    go_loopw [7, 8, 9] (fun tv iv kv wr => ∃ (iN kN : Nat) (acc : List UInt8), tv = .string (str acc) ∧ iv = .int .i64 iN ∧ kv = .int .i64 kN ∧ iN ≤ s.length ∧ kN ≤ iN ∧ Hid (InS l mk iN kN acc) ∧ Below w.heap.size w wr) (fun _ iv _ _ => s.length - (Lib.intOf iv).toNat)
    case atStart => exact ⟨0, 0, [10], rfl, rfl, rfl, Nat.zero_le _, Nat.le_refl _, hide hIn0, B1.out⟩
    case round =>
      obtain ⟨iN, kN, acc, rfl, rfl, rfl, hi1, hk1, HI, hb2⟩ := hrel
      have hal := inS_len HI.out
      by_cases hlt : iN < s.length
      · obtain ⟨D, e, F, j, hM⟩ := inS_mid HI.out (by rw [hsl]; exact hlt)
        have hix := ix_at s iN hlt
        have hlti : (iN : Int) < (s.length : Int) := by omega
        have hsi : ∀ U, (Instr.slice 9 (.string (str s)) (some (.int .i64 iN)) (some (.int .i64 ((iN : Int) + 1))) none).run Tryz.prog U = .ok (.string (str [s[iN]])) U := fun U => by
          have h1 := sl_mid s iN (iN + 1) (by omega) (by omega) U
          have h2 : (s.take (iN + 1)).drop iN = [s[iN]] := by
            rw [List.take_succ_eq_append_getElem hlt, List.drop_left' (by rw [List.length_take]; omega)]
          rw [h2] at h1
          exact h1
        have hcs : ∀ U, (Op.stringOp .add (str acc) ⟨#[32, 35, 32, 120, 32, 35, 32, 121, 13, 10, 9, 10, 35, 10]⟩).run Tryz.prog U = .ok (.string (str (acc ++ sepL))) U := fun U => cat acc sepL (by have : sepL.length = 14 := rfl; omega) U
        have hcb : ∀ (b : UInt8) U, (Op.stringOp .add (str acc) (str [b])).run Tryz.prog U = .ok (.string (str (acc ++ [b]))) U := fun b U => cat acc [b] (by simp; omega) U
        by_cases hkm : kN < mb.length
        · have hkmi : (kN : Int) < (mb.length : Int) := by omega
          obtain ⟨mbk, mof, rfl, hmc⟩ : ∃ mbk mof, ma = some ⟨mbk, mof, none⟩ ∧ wr.cell? ⟨mbk, mof + kN, none⟩ = some (.int .u8 (mk kN)) := by
            obtain ⟨a', c', e1, _, _, h3⟩ := HMB.out
            cases e1
            obtain ⟨b3, o3, e3, _, h4, h5⟩ := h3 kN hkm
            refine ⟨b3, o3, e3, (hb2.cell (p := ⟨b3, o3 + kN, none⟩) h4).trans ?_⟩
            rw [h5, ← hmkd]
            simp [hkm]
          by_cases hje : j = (bodyE e).length
          · obtain ⟨h10, hnext⟩ := mid_endS hsl hM hje
            have hx := h10 hlt
            rw [hx] at hix
            have hix2 : ∀ U, (Instr.index 9 (.string (str s)) (.int .i64 iN)).run Tryz.prog U = .ok (.int .u8 10) U := hix
            have HN := hide hnext
            clear hix hx h10 hnext hM
            go_wp2
            go_roundw
            case rel => exact ⟨iN + 1, kN + 1, acc ++ sepL, rfl, by go_num, by go_num, by omega, by omega, HN, hb2⟩
            case measure => simp [Lib.intOf]; omega
          · obtain ⟨hLn, ha1, ha2, hi', hn10, hA1, hA2, hA3⟩ := mid_byteS hsl (hre e (by rw [hM.1]; simp)) hM (by have := hM.2.2.1; omega)
            have hne10 : ((s[iN].toNat : Int) == 10) = false := (u8_neS hn10).1
            have HW := hide (fun (U : World) => word_kS U s _ _ iN _ hLn ha1 ha2 hs)
            have HMO := hide (fun (U : World) (h32 : s[iN] = 32) => more_kS U s _ _ iN _ hLn ha1 ha2 hs (fun _ => h32))
            clear hM hLn
            by_cases h32 : s[iN] = 32
            · rw [h32] at hix
              have hix2 : ∀ U, (Instr.index 9 (.string (str s)) (.int .i64 iN)).run Tryz.prog U = .ok (.int .u8 32) U := hix
              have HMO2 := hide (fun (U : World) => HMO.out U h32)
              rw [h32] at hsi
              by_cases hc : cntS s (prL D).length iN < limE e
              · have HN := hide (hA3 h32 hc)
                have hct := decide_eq_true hc
                rw [hct] at HW
                clear hix hne10 hn10 hA1 hA2 hA3 HMO h32 hct hc hsi
                generalize (((s.take ((prL D).length + (bodyE e).length)).drop (iN + 1)).contains 32 && decide (cntS s (prL D).length iN + 1 < limE e)) = mo at *
                have HGP := hide (fun (U : World) => gap_kS U (mk kN) (hmk kN) (!mo))
                have hcg := fun U : World => cat acc (gapL (mk kN) (!mo)) (by have := (gapL_blk (mk kN) (!mo)).2.2.1; omega) U
                go_wp2_with (first
                  | (go_at_call 7; refine (HW.out _).mono ?_; clear HW; rintro e3 w3 ⟨rfl, b3⟩; have B3 := hide (trans_v hb2 b3); clear b3)
                  | (go_at_call 9; refine (HMO2.out _).mono ?_; clear HMO2; rintro e4 w4 ⟨rfl, b4⟩; have B4 := hide (trans_v B3.out b4); clear b4)
                  | (go_at_call 8; refine (HGP.out _).mono ?_; clear HGP; rintro e5 w5 ⟨rfl, b5⟩; have B5 := hide (trans_v B4.out b5); clear b5))
                go_roundw
                case rel => exact ⟨iN + 1, kN, acc ++ gapL (mk kN) (!mo), rfl, by go_num, rfl, by omega, by omega, HN, B5.out⟩
                case measure => simp [Lib.intOf]; omega
              · have HN := hide (hA2 h32 hc)
                have hct := decide_eq_false hc
                rw [hct] at HW
                clear hix hne10 hn10 hA1 hA2 hA3 HMO HMO2 h32 hct hc
                go_wp2_with (go_at_call 7; refine (HW.out _).mono ?_; clear HW; rintro e3 w3 ⟨rfl, b3⟩; have B3 := hide (trans_v hb2 b3); clear b3)
                go_roundw
                case rel => exact ⟨iN + 1, kN, acc ++ [32], rfl, by go_num, rfl, by omega, by omega, HN, B3.out⟩
                case measure => simp [Lib.intOf]; omega
            · have hne32 : ((s[iN].toNat : Int) == 32) = false := (u8_neS h32).1
              have HN := hide (hA1 h32)
              clear hn10 hA1 hA2 hA3 HMO HW h32
              generalize s[iN] = bt at *
              go_wp2
              go_roundw
              case rel => exact ⟨iN + 1, kN, acc ++ [bt], rfl, by go_num, rfl, by omega, by omega, HN, hb2⟩
              case measure => simp [Lib.intOf]; omega
        · have hkmi : ¬ (kN : Int) < (mb.length : Int) := by omega
          have hmz : mk kN = 0 := by
            rw [← hmkd]
            show (mb.getD kN 0).toNat = 0
            rw [List.getD_eq_getElem?_getD, List.getElem?_eq_none (by omega)]
            rfl
          by_cases hje : j = (bodyE e).length
          · obtain ⟨h10, hnext⟩ := mid_endS hsl hM hje
            have hx := h10 hlt
            rw [hx] at hix
            have hix2 : ∀ U, (Instr.index 9 (.string (str s)) (.int .i64 iN)).run Tryz.prog U = .ok (.int .u8 10) U := hix
            have HN := hide hnext
            clear hix hx h10 hnext hM
            go_wp2
            go_roundw
            case rel => exact ⟨iN + 1, kN + 1, acc ++ sepL, rfl, by go_num, by go_num, by omega, by omega, HN, hb2⟩
            case measure => simp [Lib.intOf]; omega
          · obtain ⟨hLn, ha1, ha2, hi', hn10, hA1, hA2, hA3⟩ := mid_byteS hsl (hre e (by rw [hM.1]; simp)) hM (by have := hM.2.2.1; omega)
            have hne10 : ((s[iN].toNat : Int) == 10) = false := (u8_neS hn10).1
            have HW := hide (fun (U : World) => word_kS U s _ _ iN _ hLn ha1 ha2 hs)
            have HMO := hide (fun (U : World) (h32 : s[iN] = 32) => more_kS U s _ _ iN _ hLn ha1 ha2 hs (fun _ => h32))
            clear hM hLn
            by_cases h32 : s[iN] = 32
            · rw [h32] at hix
              have hix2 : ∀ U, (Instr.index 9 (.string (str s)) (.int .i64 iN)).run Tryz.prog U = .ok (.int .u8 32) U := hix
              have HMO2 := hide (fun (U : World) => HMO.out U h32)
              rw [h32] at hsi
              by_cases hc : cntS s (prL D).length iN < limE e
              · have HN := hide (hA3 h32 hc)
                have hct := decide_eq_true hc
                rw [hct] at HW
                clear hix hne10 hn10 hA1 hA2 hA3 HMO h32 hct hc hsi
                generalize (((s.take ((prL D).length + (bodyE e).length)).drop (iN + 1)).contains 32 && decide (cntS s (prL D).length iN + 1 < limE e)) = mo at *
                rw [hmz] at HN
                have HGP := hide (fun (U : World) => gap_kS U 0 (by decide) (!mo))
                have hcg := fun U : World => cat acc (gapL 0 (!mo)) (by have := (gapL_blk 0 (!mo)).2.2.1; omega) U
                go_wp2_with (first
                  | (go_at_call 7; refine (HW.out _).mono ?_; clear HW; rintro e3 w3 ⟨rfl, b3⟩; have B3 := hide (trans_v hb2 b3); clear b3)
                  | (go_at_call 9; refine (HMO2.out _).mono ?_; clear HMO2; rintro e4 w4 ⟨rfl, b4⟩; have B4 := hide (trans_v B3.out b4); clear b4)
                  | (go_at_call 8; refine (HGP.out _).mono ?_; clear HGP; rintro e5 w5 ⟨rfl, b5⟩; have B5 := hide (trans_v B4.out b5); clear b5))
                go_roundw
                case rel => exact ⟨iN + 1, kN, acc ++ gapL 0 (!mo), rfl, by go_num, rfl, by omega, by omega, HN, B5.out⟩
                case measure => simp [Lib.intOf]; omega
              · have HN := hide (hA2 h32 hc)
                have hct := decide_eq_false hc
                rw [hct] at HW
                clear hix hne10 hn10 hA1 hA2 hA3 HMO HMO2 h32 hct hc
                go_wp2_with (go_at_call 7; refine (HW.out _).mono ?_; clear HW; rintro e3 w3 ⟨rfl, b3⟩; have B3 := hide (trans_v hb2 b3); clear b3)
                go_roundw
                case rel => exact ⟨iN + 1, kN, acc ++ [32], rfl, by go_num, rfl, by omega, by omega, HN, B3.out⟩
                case measure => simp [Lib.intOf]; omega
            · have hne32 : ((s[iN].toNat : Int) == 32) = false := (u8_neS h32).1
              have HN := hide (hA1 h32)
              clear hn10 hA1 hA2 hA3 HMO HW h32
              generalize s[iN] = bt at *
              go_wp2
              go_roundw
              case rel => exact ⟨iN + 1, kN, acc ++ [bt], rfl, by go_num, rfl, by omega, by omega, HN, hb2⟩
              case measure => simp [Lib.intOf]; omega
      · obtain ⟨hie, hae⟩ := inS_done HI.out (by rw [hsl]; exact hlt)
        subst hae
        have hlti : ¬ (iN : Int) < (s.length : Int) := by omega
        have HPA2 := hide (HPA.out wr hb2)
        have B2 := hide hb2
        clear HPA hb2 HI hie hal hTl
        generalize 10 :: silL mk 0 l = T at *
        generalize str T = ts at *
        go_wp2_with (first
          | (go_at_call 10; refine HPA2.out.mono ?_; clear HPA2; rintro e w3 ⟨b3, v3, rfl, mk3⟩; obtain ⟨va, vc, rfl⟩ := mk3.len; obtain ⟨W3, hW3⟩ : ∃ W3, w3.alloc (.cells #[.int .i64 0, .int .i64 0, .int .i64 0, .int .i64 0] 34) = W3 := ⟨_, rfl⟩; have bA : Below w3.heap.size w3 W3 := (by rw [← hW3]; exact alloc_v (Below.refl _ _) _); have f3 : W3.heap[w3.heap.size]? = some (.cells #[.int .i64 0, .int .i64 0, .int .i64 0, .int .i64 0] 34 (0, 0)) := (by rw [← hW3]; exact World.alloc_heap_new w3 _); have ev3 := ((mk3.evs hl9).below bA).up bA.size; have BW3 := trans_v B2.out (trans_v b3 bA); have c0 := cells_at f3 0 _ rfl; have c1 := cells_at f3 1 _ rfl; have c2 := cells_at f3 2 _ rfl; have c3 := cells_at f3 3 _ rfl; have HS3 := hide (HSM.out W3 _ BW3 ev3); have B3 := hide BW3; clear HSM b3 mk3 bA f3 ev3 BW3; subst hW3)
          | (go_at_call 11; refine HS3.out.mono ?_; clear HS3; rintro e w6 ⟨rfl, b6⟩; have BW6 := trans_v B3.out b6; have HA6 := hide (HA.out w6 BW6); have B6 := hide BW6; clear HA b6 BW6)
          | (go_at_call 6; refine HA6.out.mono ?_; clear HA6; rintro e w8 ⟨rfl, b8⟩; have B8 := hide (trans_v B6.out b8); clear b8))
        go_ret
        exact ⟨rfl, B8.out⟩
end Go.Proofs.YthmhcpghfbifiaaGreatDoor

/- EventSilent holds of every input within the bulk. -/
namespace Go.Proofs.YthmhcpghfbifiaaGreatDoor.eventSilent
open Go.ChangeShapes Go.WideShapes Go.ChangeAt Go.RowKit
open Go.ChangeMaps (open_string)

set_option maxRecDepth 100000 in
theorem contract (H : Type) (enc : TypeId × Value → H) (W : World) (base : Nat) (args : Array Value) (ds gs : List (DataW H)) (before : List MemPlace)
    (hval : ∀ (j : Nat) t v, Tryz.f3.params[j]? = some t → args[j]? = some v → Value.okWide Tryz.prog W .any base t v)
    (hW : DataW.Whole enc Tryz.prog Tryz.f3.params.toList Rows.eventSilentSpec.vars false W args.toList ds gs before) (hL : laidMetH Tryz.prog laidE W) (hk : Rows.uptoBulkAll (ds ++ gs) ≤ 1048576) :
    Calls Tryz.prog 3 args W fun e W' => ∃ v, e = .returned v ∧ Rows.eventSilentSpec.post enc Tryz.prog Tryz.f3 false true false false W args v W' := by
  have hW' := hW
  obtain ⟨p, q, hA0, hV, rfl, hfz, hnd⟩ := hW
  have hA : DataW.TrodAll enc Tryz.prog W 0 (fun _ => true) true Tryz.f3.params.toList args.toList ds p := hA0
  rw [Tryz.params3] at hA hval
  obtain ⟨v0, vs0, d0, ds0, p0, q0, hargs, rfl, rfl, h0, r0⟩ := trodAll_cons hA
  obtain ⟨v1, vs1, d1, ds1, p1, q1, rfl, rfl, rfl, h1, r1⟩ := trodAll_cons r0
  obtain ⟨rfl, rfl, rfl⟩ := trodAll_nil r1
  obtain rfl : args = #[v0, v1] := by cases args; simp_all
  obtain ⟨rfl, rfl⟩ := trodVars_none hV
  simp only [List.append_nil, Rows.uptoBulkAll] at hk
  obtain ⟨a0, len0, cap0, rfl⟩ := okWide_slice Tryz.underlying22 (hval 0 22 v0 rfl rfl)
  have k0 := h0
  have lt0 : ∀ x ∈ p0, x.block < W.heap.size := by obtain ⟨m, hm⟩ := k0; exact DataW.trod_lt m _ _ _ hm
  obtain ⟨fuel0, hf0⟩ := h0
  obtain ⟨l0, hl0, hI0, hs0⟩ := open_evs hf0 (by omega)
  subst hl0
  obtain ⟨a1, len1, cap1, rfl⟩ := okWide_slice Tryz.underlying23 (hval 1 23 v1 rfl rfl)
  have k1 := h1
  have lt1 : ∀ x ∈ p1, x.block < W.heap.size := by obtain ⟨m, hm⟩ := k1; exact DataW.trod_lt m _ _ _ hm
  obtain ⟨fuel1, hf1⟩ := h1
  obtain ⟨l1, hl1, hb1, hbk1⟩ := open_bytesB hf1
  subst hl1
  clear hA0
  simp only [List.append_nil] at hW'
  refine (eventSilent_walk l0 l1 W (fuel0 + 2) _ _ (tabsE_of_laid hL) hI0 hb1 (by omega) (by omega)).mono fun e W' ⟨he, bel⟩ => ?_
  subst he
  exact ⟨_, rfl, _, _, _, [], _, [], hW', trodAll_mk1 (shut_bool Tryz.underlying4 _), trodAll_cons_mk (Below.trod laidOut (by kernel_rfl) (of_decide_eq_true (by kernel_rfl)) k0 bel lt0) (trodAll_cons_mk (Below.trod laidOut (by kernel_rfl) (of_decide_eq_true (by kernel_rfl)) k1 bel lt1) trodAll_mk0), rfl, bel.frame _, fun h => by cases h⟩

theorem laid_met (os : Os) : laidMet Tryz.prog Rows.eventSilentUptoRow.laid ((laidWorldE os).forCall (fun _ _ => 0) ⟨#[], #[.slice none 0 0, .slice none 0 0], []⟩).memory :=
  laidMet_of_run' 8 (by kernel_rfl) (by kernel_rfl)
theorem reads (os : Os) {H : Type} (enc : TypeId × Value → H) : ∃ places, DataW.whole enc Tryz.prog ((laidWorldE os).forCall (fun _ _ => 0) ⟨#[], #[.slice none 0 0, .slice none 0 0], []⟩).memory Tryz.f3.params.toList Rows.eventSilentSpec.vars false #[Value.slice none 0 0, Value.slice none 0 0].toList 8 = some ([.nil, .nil], [], places) :=
  ⟨[], by kernel_rfl⟩

set_option maxRecDepth 100000 in
theorem liftedUpto (os : Os) (started : os.Started) (H : Type) (enc : TypeId × Value → H) (F : Stop.Interp) :
    ReturnsInHanded {} Tryz.checked os 3 .any ((Rows.OpenSpec.upto Rows.eventSilentSpec).preRow enc Tryz.prog Tryz.f3 Rows.eventSilentUptoRow.domain false Rows.eventSilentUptoRow.laid) (((Rows.OpenSpec.upto Rows.eventSilentSpec).at F).post enc Tryz.prog Tryz.f3 false true false false) := by
  obtain ⟨places, hx⟩ := reads os enc
  refine returnsInHanded_of_row (C := Tryz.checked) (s := Rows.OpenSpec.upto Rows.eventSilentSpec) own started (by kernel_rfl) Tryz.func3
    (witness_row_at (enc := enc) (C := Tryz.checked) false (laidWorldE os) #[.slice none 0 0, .slice none 0 0] rfl (by kernel_rfl) (by kernel_rfl) (by kernel_rfl)
      (OpenSpec.preRow_of_cond 8 hx (by kernel_rfl) (fun k hk => by cases hk; kernel_rfl) (by kernel_rfl) (laid_met os))) ?_
  intro W base args ds gs before hval hW _ hcond _ hL _ _
  exact contract H enc W base args ds gs before hval hW hL (of_decide_eq_true (hcond _ rfl))

theorem saidUpto : Rows.EventSilentUptoSaid :=
  OpenClaim.holds_of_cond 3 Tryz.f3 rfl rfl rfl rfl rfl rfl rfl ⟨rfl, rfl, rfl, rfl, rfl⟩ rfl rfl rfl rfl rfl (by kernel_rfl) Tryz.func3 (by kernel_rfl)
    (of_decide_eq_true (by kernel_rfl)) (by unfold Func.isWrapper; first | (rw [if_pos (by decide +kernel)]; kernel_rfl) | (rw [if_neg (by decide +kernel)]; exact ⟨rfl, rfl⟩))
    (fun os started H enc _ F => by rw [OpenClaim.pre_eq_preRow]; exact liftedUpto os started H enc F)

theorem plain (f : FuncId) (fn : Func) (hf : Tryz.pinned.checked.prog.funcNamed Rows.eventSilentRow.func = some f) (hfn : Tryz.pinned.checked.prog.funcs[f]? = some fn) :
    true = Tryz.pinned.checked.prog.looks [] ∧ ∀ (j : Nat) t, fn.params[j]? = some t → Tryz.pinned.checked.prog.wantsStandIn t = false := by
  obtain rfl : f = 3 := Option.some.inj ((show Tryz.prog.funcNamed Rows.eventSilentRow.func = some 3 by kernel_rfl).symm.trans hf) |>.symm
  obtain rfl : fn = Tryz.f3 := (Option.some.inj (Tryz.func3.symm.trans hfn)).symm
  refine ⟨by kernel_rfl, fun j t ht => ?_⟩
  rw [Tryz.params3] at ht
  have hm : t = 22 ∨ t = 23 := by simpa using Array.mem_of_getElem? ht
  rcases hm with rfl | rfl
  · exact (show Tryz.prog.wantsStandIn 22 = false by kernel_rfl)
  · exact (show Tryz.prog.wantsStandIn 23 = false by kernel_rfl)

theorem cardUpto : Rows.EventSilentUptoCardSaid :=
  Claim7.holds_tied_plain_at .later [] _ _ _ _ saidUpto (fun _ h => by cases h) (by kernel_rfl) (fun _ h => by cases h) eventSilentUpto_row_tie rfl ⟨rfl, rfl⟩ (by kernel_rfl) rfl plain (by kernel_rfl)
end Go.Proofs.YthmhcpghfbifiaaGreatDoor.eventSilent
namespace Go.Proofs.YthmhcpghfbifiaaGreatDoor
theorem eventSilent_upto : Rows.EventSilentUptoCardSaid := eventSilent.cardUpto
#print axioms eventSilent_upto
end Go.Proofs.YthmhcpghfbifiaaGreatDoor
