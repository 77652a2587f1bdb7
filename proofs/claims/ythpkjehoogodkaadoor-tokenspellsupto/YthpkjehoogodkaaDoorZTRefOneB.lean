/- The document's one, where nothing right begins; and so everywhere. -/
import Derived.Test.YthpkjehoogodkaaDoorZTRefOneK
namespace Go.Proofs.YthpkjehoogodkaaDoor
open Go.RowKit

set_option maxRecDepth 100000 in
theorem one_b0 (s : ByteArray) (i : Nat) (hi : i < s.size) (c1 : 128 ≤ bt s i) (c2 : bt s i < 194 ∨ 244 < bt s i) (w : World) : OneK s i (-1) 1 w := by
  have hby := bt_get s i hi
  generalize bt s i = b0 at *
  unfold OneK oneV
  rcases c2 with c2 | c2
  all_goals (
    go_enter Tryd.func39, Tryd.ntmps39
    go_wp2
    refine bodyPost_ret (results_cell_row rfl _ _ w.heap.size _ _ _ _ rfl (heap_alloc_new _ _) Tryd.underlying58 rfl infoRefRune) rfl ?_
    exact ⟨rfl, (Below.refl _ w).alloc (Nat.le_refl _) _⟩)

set_option maxRecDepth 100000 in
theorem one_b2 (s : ByteArray) (hs : s.size ≤ 1048576) (i : Nat) (hi : i < s.size) (h0 : 194 ≤ bt s i) (h1 : bt s i ≤ 223) (hc : cB s (i + 1) 128 191 = false) (w : World) : OneK s i (-1) 1 w := by
  have hby := bt_get s i hi
  generalize bt s i = b0 at *
  have HC := hide hc
  clear hc
  unfold OneK oneV
  go_enter Tryd.func39, Tryd.ntmps39
  go_wp2_with (go_at_call 56; refine (cont_k s hs (i + 1) _ rfl _ _ false HC.out _).mono ?_; clear HC; rintro e w1 ⟨rfl, rfl⟩)
  refine bodyPost_ret (results_cell_row rfl _ _ w.heap.size _ _ _ _ rfl (heap_alloc_new _ _) Tryd.underlying58 rfl infoRefRune) rfl ?_
  exact ⟨rfl, (Below.refl _ w).alloc (Nat.le_refl _) _⟩

set_option maxRecDepth 100000 in
set_option maxHeartbeats 2000000 in
theorem one_b3 (s : ByteArray) (hs : s.size ≤ 1048576) (i : Nat) (hi : i < s.size) (h0 : 224 ≤ bt s i) (h1 : bt s i ≤ 239) (p q : Bool) (lo up : Nat) (hp : ((bt s i : Int) == 224) = p) (hq : ((bt s i : Int) == 237) = q) (hlo : lo = bif p then 160 else 128) (hup : up = bif q then 159 else 191)
    (c d : Bool) (hc : cB s (i + 1) lo up = c) (hd : cB s (i + 2) 128 191 = d) (hn : ¬ (c = true ∧ d = true)) (w : World) : OneK s i (-1) 1 w := by
  have hby := bt_get s i hi
  generalize bt s i = b0 at *
  unfold OneK oneV
  have HC := hide hc
  have HD := hide hd
  clear hc hd
  have hpq : ¬ (p = true ∧ q = true) := by
    rintro ⟨rfl, rfl⟩
    simp at hp hq
    omega
  cases p
  all_goals cases q
  case true.true => exact absurd ⟨rfl, rfl⟩ hpq
  all_goals clear hpq
  all_goals simp only [cond_true, cond_false] at hlo hup
  all_goals subst hlo hup
  all_goals cases c
  all_goals cases d
  all_goals first
    | (exfalso; exact hn ⟨rfl, rfl⟩)
    | clear hn
  all_goals (
    go_enter Tryd.func39, Tryd.ntmps39
    go_wp2_with (first
      | (go_at_call 56; refine (cont_k s hs (i + 1) _ rfl _ _ _ HC.out _).mono ?_; clear HC; rintro e w1 ⟨rfl, rfl⟩)
      | (go_at_call 56; refine (cont_k s hs (i + 2) _ rfl _ _ _ HD.out _).mono ?_; clear HD; rintro e w1 ⟨rfl, rfl⟩))
    refine bodyPost_ret (results_cell_row rfl _ _ w.heap.size _ _ _ _ rfl (heap_alloc_new _ _) Tryd.underlying58 rfl infoRefRune) rfl ?_
    exact ⟨rfl, (Below.refl _ w).alloc (Nat.le_refl _) _⟩)

set_option maxRecDepth 100000 in
set_option maxHeartbeats 4000000 in
theorem one_b4 (s : ByteArray) (hs : s.size ≤ 1048576) (i : Nat) (hi : i < s.size) (h0 : 240 ≤ bt s i) (h1 : bt s i ≤ 244) (p q : Bool) (lo up : Nat) (hp : ((bt s i : Int) == 240) = p) (hq : ((bt s i : Int) == 244) = q) (hlo : lo = bif p then 144 else 128) (hup : up = bif q then 143 else 191)
    (hn : cB s (i + 1) lo up = false ∨ (cB s (i + 1) lo up = true ∧ cB s (i + 2) 128 191 = false) ∨ (cB s (i + 1) lo up = true ∧ cB s (i + 2) 128 191 = true ∧ cB s (i + 3) 128 191 = false)) (w : World) : OneK s i (-1) 1 w := by
  have hby := bt_get s i hi
  generalize bt s i = b0 at *
  unfold OneK oneV
  have hpq : ¬ (p = true ∧ q = true) := by
    rintro ⟨rfl, rfl⟩
    simp at hp hq
    omega
  cases p
  all_goals cases q
  case true.true => exact absurd ⟨rfl, rfl⟩ hpq
  all_goals clear hpq
  all_goals simp only [cond_true, cond_false] at hlo hup
  all_goals subst hlo hup
  all_goals rcases hn with hn | ⟨hn, hm⟩ | ⟨hn, hm, hk⟩
  all_goals have HC := hide hn
  all_goals clear hn
  all_goals try have HD := hide hm
  all_goals try clear hm
  all_goals try have HF := hide hk
  all_goals try clear hk
  all_goals (
    go_enter Tryd.func39, Tryd.ntmps39
    go_wp2_with (first
      | (go_at_call 56; refine (cont_k s hs (i + 1) _ rfl _ _ _ HC.out _).mono ?_; clear HC; rintro e w1 ⟨rfl, rfl⟩)
      | (go_at_call 56; refine (cont_k s hs (i + 2) _ rfl _ _ _ HD.out _).mono ?_; clear HD; rintro e w1 ⟨rfl, rfl⟩)
      | (go_at_call 56; refine (cont_k s hs (i + 3) _ rfl _ _ _ HF.out _).mono ?_; clear HF; rintro e w1 ⟨rfl, rfl⟩))
    refine bodyPost_ret (results_cell_row rfl _ _ w.heap.size _ _ _ _ rfl (heap_alloc_new _ _) Tryd.underlying58 rfl infoRefRune) rfl ?_
    exact ⟨rfl, (Below.refl _ w).alloc (Nat.le_refl _) _⟩)

/-- One answers the rune at a place, the place, and how many bytes. -/
theorem one_k (s : ByteArray) (hs : s.size ≤ 1048576) (i : Nat) (hi : i < s.size) (w : World) : OneK s i (rv (s.data.toList.drop i)) (wd (s.data.toList.drop i)) w := by
  by_cases c1 : bt s i < 128
  · obtain ⟨e1, e2⟩ := one_1 c1
    rw [e1, e2]
    exact one_k1 s i hi c1 w
  by_cases c2 : 194 ≤ bt s i ∧ bt s i ≤ 223
  · cases hc : cB s (i + 1) 128 191 with
    | true =>
      obtain ⟨e1, e2⟩ := one_2 c2.1 c2.2 hc
      rw [e1, e2]
      exact one_k2 s hs i hi c2.1 c2.2 hc w
    | false =>
      obtain ⟨e1, e2⟩ := one_0 c1 (fun h => by rw [hc] at h; exact absurd h.2.2 (by decide)) (fun h => by omega) (fun h => by omega)
      rw [e1, e2]
      exact one_b2 s hs i hi c2.1 c2.2 hc w
  by_cases c3 : 224 ≤ bt s i ∧ bt s i ≤ 239
  · obtain ⟨lo, hlo⟩ : ∃ lo, lo = if bt s i = 224 then 160 else 128 := ⟨_, rfl⟩
    obtain ⟨up, hup⟩ : ∃ up, up = if bt s i = 237 then 159 else 191 := ⟨_, rfl⟩
    have hlo' : lo = bif ((bt s i : Int) == 224) then 160 else 128 := by
      rw [hlo]
      by_cases e : bt s i = 224
      · simp [e]
      · have : ((bt s i : Int) == 224) = false := by simp; omega
        rw [if_neg e, this]
        rfl
    have hup' : up = bif ((bt s i : Int) == 237) then 159 else 191 := by
      rw [hup]
      by_cases e : bt s i = 237
      · simp [e]
      · have : ((bt s i : Int) == 237) = false := by simp; omega
        rw [if_neg e, this]
        rfl
    by_cases hn : cB s (i + 1) lo up = true ∧ cB s (i + 2) 128 191 = true
    · obtain ⟨e1, e2⟩ := one_3 c3.1 c3.2 hlo hup hn.1 hn.2
      rw [e1, e2]
      exact one_k3 s hs i hi c3.1 c3.2 _ _ lo up rfl rfl hlo' hup' hn.1 hn.2 w
    · obtain ⟨e1, e2⟩ := one_0 c1 (fun h => by omega) (fun h => by rw [← hlo, ← hup] at h; exact hn ⟨h.2.2.1, h.2.2.2⟩) (fun h => by omega)
      rw [e1, e2]
      exact one_b3 s hs i hi c3.1 c3.2 _ _ lo up rfl rfl hlo' hup' _ _ rfl rfl hn w
  by_cases c4 : 240 ≤ bt s i ∧ bt s i ≤ 244
  · obtain ⟨lo, hlo⟩ : ∃ lo, lo = if bt s i = 240 then 144 else 128 := ⟨_, rfl⟩
    obtain ⟨up, hup⟩ : ∃ up, up = if bt s i = 244 then 143 else 191 := ⟨_, rfl⟩
    have hlo' : lo = bif ((bt s i : Int) == 240) then 144 else 128 := by
      rw [hlo]
      by_cases e : bt s i = 240
      · simp [e]
      · have : ((bt s i : Int) == 240) = false := by simp; omega
        rw [if_neg e, this]
        rfl
    have hup' : up = bif ((bt s i : Int) == 244) then 143 else 191 := by
      rw [hup]
      by_cases e : bt s i = 244
      · simp [e]
      · have : ((bt s i : Int) == 244) = false := by simp; omega
        rw [if_neg e, this]
        rfl
    by_cases hn : cB s (i + 1) lo up = true ∧ cB s (i + 2) 128 191 = true ∧ cB s (i + 3) 128 191 = true
    · obtain ⟨e1, e2⟩ := one_4 c4.1 c4.2 hlo hup hn.1 hn.2.1 hn.2.2
      rw [e1, e2]
      exact one_k4 s hs i hi c4.1 c4.2 _ _ lo up rfl rfl hlo' hup' hn.1 hn.2.1 hn.2.2 w
    · obtain ⟨e1, e2⟩ := one_0 c1 (fun h => by omega) (fun h => by omega) (fun h => by rw [← hlo, ← hup] at h; exact hn ⟨h.2.2.1, h.2.2.2.1, h.2.2.2.2⟩)
      rw [e1, e2]
      refine one_b4 s hs i hi c4.1 c4.2 _ _ lo up rfl rfl hlo' hup' ?_ w
      cases h1 : cB s (i + 1) lo up with
      | false => exact .inl rfl
      | true =>
        cases h2 : cB s (i + 2) 128 191 with
        | false => exact .inr (.inl ⟨rfl, rfl⟩)
        | true =>
          cases h3 : cB s (i + 3) 128 191 with
          | false => exact .inr (.inr ⟨rfl, rfl, rfl⟩)
          | true => exact absurd ⟨h1, h2, h3⟩ hn
  · obtain ⟨e1, e2⟩ := one_0 c1 (fun h => by omega) (fun h => by omega) (fun h => by omega)
    rw [e1, e2]
    exact one_b0 s i hi (by omega) (by omega) w
end Go.Proofs.YthpkjehoogodkaaDoor
