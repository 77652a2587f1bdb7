/- That words and truths go on saying the same through Turn, Join, Within and Same: plain mathematics. -/
import Derived.Test.YtfagjejknnkhdaaDoorBRefJoin
import Derived.Test.YtfagjejknnkhdaaDoorBWithin
namespace Go.Proofs.YtfagjejknnkhdaaDoor
open Go.RowKit

theorem hasW_zip {f : Nat → Nat → Nat} {ws vs : List Nat} (hl : vs.length = ws.length) (i : Nat) (hi : i < 64 * ws.length) :
    hasW (List.zipWith f ws vs) i = (f (ws.getD (i / 64) 0) (vs.getD (i / 64) 0)).testBit (i % 64) := by
  have h1 : i / 64 < ws.length := by omega
  have h2 : i / 64 < vs.length := by omega
  have h3 : i / 64 < (List.zipWith f ws vs).length := by simp; omega
  unfold hasW
  rw [List.getD_eq_getElem?_getD, List.getElem?_eq_getElem h3]
  simp [h1, h2]
theorem joinB_get (kind : Nat) (bs cs : List Bool) (i : Nat) : (joinB kind bs cs).getD i false = (decide (i < bs.length) && joinO kind (bs.getD i false) (cs.getD i false)) := by
  unfold joinB
  by_cases h : i < bs.length
  · simp [h]
  · simp [h]
theorem Rel.join {ws vs : List Nat} {bs cs : List Bool} (h : Rel ws bs) (k : Rel vs cs) (hl : bs.length = cs.length) (kind : Nat) (f : Nat → Nat → Nat) (hff : ∀ x y, x < 18446744073709551616 → y < 18446744073709551616 → f x y < 18446744073709551616)
    (hf : ∀ x y j, x < 18446744073709551616 → y < 18446744073709551616 → j < 64 → (f x y).testBit j = joinO kind (x.testBit j) (y.testBit j)) (h0 : joinO kind false false = false) : Rel (List.zipWith f ws vs) (joinB kind bs cs) := by
  have hwl : vs.length = ws.length := by rw [h.len, k.len, hl]
  refine ⟨?_, zip_fit hff h.fit k.fit, fun i hi => ?_⟩
  · rw [joinB_len, List.length_zipWith, hwl, Nat.min_self]
    exact h.len
  · rw [List.length_zipWith, hwl, Nat.min_self] at hi
    have q1 : i / 64 < ws.length := by omega
    have q2 : i / 64 < vs.length := by omega
    have x1 : ws.getD (i / 64) 0 < 18446744073709551616 := by simpa [q1] using h.fit _ (List.getElem_mem q1)
    have x2 : vs.getD (i / 64) 0 < 18446744073709551616 := by simpa [q2] using k.fit _ (List.getElem_mem q2)
    rw [hasW_zip hwl i hi, hf _ _ _ x1 x2 (Nat.mod_lt _ (by decide)), joinB_get]
    have e1 := h.bit i hi
    have e2 := k.bit i (by omega)
    unfold hasW at e1 e2
    rw [e1, e2]
    by_cases hb : i < bs.length
    · rw [decide_eq_true hb, Bool.true_and]
    · have a1 : bs.getD i false = false := by simp [hb]
      have a2 : cs.getD i false = false := by simp [show ¬ i < cs.length by omega]
      rw [a1, a2, h0, Bool.and_false]
theorem Rel.or {ws vs : List Nat} {bs cs : List Bool} (h : Rel ws bs) (k : Rel vs cs) (hl : bs.length = cs.length) : Rel (List.zipWith orF ws vs) (joinB 1 bs cs) :=
  h.join k hl 1 orF (fun x y hx hy => Nat.or_lt_two_pow (n := 64) hx hy) (fun x y j _ _ _ => by simp [orF, joinO]) rfl
theorem Rel.and {ws vs : List Nat} {bs cs : List Bool} (h : Rel ws bs) (k : Rel vs cs) (hl : bs.length = cs.length) : Rel (List.zipWith andF ws vs) (joinB 2 bs cs) :=
  h.join k hl 2 andF (fun x y hx _ => and_lt64 _ hx) (fun x y j _ _ _ => by simp [andF, joinO]) rfl
theorem Rel.without {ws vs : List Nat} {bs cs : List Bool} (h : Rel ws bs) (k : Rel vs cs) (hl : bs.length = cs.length) : Rel (List.zipWith woF ws vs) (joinB 3 bs cs) :=
  h.join k hl 3 woF (fun x y hx _ => wo_lt hx) (fun x y j _ hy hj => by rw [tb_wo x y j hy, decide_eq_true hj, Bool.true_and]; rfl) rfl
theorem Rel.turn {ws : List Nat} {bs : List Bool} (h : Rel ws bs) (i : Nat) (hi : i < bs.length) (b : Bool) : Rel (if b then putW ws i else dropW ws i) (bs.set i b) := by
  cases b
  · exact h.drop i hi
  · exact h.put i hi
theorem withinB_inB {ws vs : List Nat} {bs cs : List Bool} (h : Rel ws bs) (k : Rel vs cs) (hl : bs.length = cs.length) : withinB bs cs = inB ws vs := by
  have hwl : vs.length = ws.length := by rw [h.len, k.len, hl]
  have e : withinB bs cs = (List.range bs.length).all fun i => !bs.getD i false || cs.getD i false := by unfold withinB; rw [decide_eq_true hl, Bool.true_and]
  rw [e]
  by_cases hall : ∀ i, i < bs.length → (!bs.getD i false || cs.getD i false) = true
  · rw [List.all_eq_true.2 fun j hj => hall j (List.mem_range.1 hj)]
    refine (inB_yes hwl fun q h1 h2 => ?_).symm
    apply Nat.eq_of_testBit_eq
    intro j
    rw [Nat.zero_testBit]
    by_cases hj : j < 64
    · have y2 := k.fit _ (List.getElem_mem h2)
      rw [tb_wo _ _ _ y2, decide_eq_true hj, Bool.true_and]
      have e1 := h.bit (64 * q + j) (by omega)
      have e2 := k.bit (64 * q + j) (by omega)
      rw [hasW_get hj] at e1 e2
      have g1 : ws.getD q 0 = ws[q] := by simp [h1]
      have g2 : vs.getD q 0 = vs[q] := by simp [h2]
      rw [g1] at e1
      rw [g2] at e2
      rw [e1, e2]
      by_cases hb : 64 * q + j < bs.length
      · have := hall _ hb
        revert this
        cases bs.getD (64 * q + j) false <;> cases cs.getD (64 * q + j) false <;> simp
      · have a1 : bs.getD (64 * q + j) false = false := by simp [hb]
        rw [a1, Bool.false_and]
    · exact tb_hi (wo_lt (h.fit _ (List.getElem_mem h1))) hj
  · have hex : ∃ i, i < bs.length ∧ (!bs.getD i false || cs.getD i false) = false := by
      apply Classical.byContradiction
      intro hn
      apply hall
      intro i hi
      cases hc : (!bs.getD i false || cs.getD i false)
      · exact absurd ⟨i, hi, hc⟩ hn
      · rfl
    obtain ⟨i, hi, hc⟩ := hex
    have e2 : ((List.range bs.length).all fun i => !bs.getD i false || cs.getD i false) = false := List.all_eq_false.2 ⟨i, List.mem_range.2 hi, by rw [hc]; simp⟩
    rw [e2]
    have hwlen := h.len
    have q1 : i / 64 < ws.length := by omega
    have q2 : i / 64 < vs.length := by omega
    refine (inB_no (i / 64) q1 q2 (fun hz => ?_)).symm
    have y2 := k.fit _ (List.getElem_mem q2)
    have t := congrArg (fun x => Nat.testBit x (i % 64)) hz
    simp only [Nat.zero_testBit] at t
    rw [tb_wo _ _ _ y2, decide_eq_true (Nat.mod_lt _ (by decide)), Bool.true_and] at t
    have e3 := h.bit i (by omega)
    have e4 := k.bit i (by omega)
    unfold hasW at e3 e4
    rw [show ws.getD (i / 64) 0 = ws[i / 64] by simp [q1]] at e3
    rw [show vs.getD (i / 64) 0 = vs[i / 64] by simp [q2]] at e4
    rw [e3, e4] at t
    revert t hc
    cases bs.getD i false <;> cases cs.getD i false <;> simp
theorem same_within {ws vs : List Nat} {bs cs : List Bool} (h : Rel ws bs) (k : Rel vs cs) (hl : bs.length = cs.length) : (withinB bs cs && withinB cs bs) = decide (ws = vs) := by
  by_cases e : bs = cs
  · subst e
    have := h.eq k
    subst this
    have h1 : withinB bs bs = true := by
      unfold withinB
      rw [decide_eq_true rfl, Bool.true_and]
      exact List.all_eq_true.2 fun j _ => by cases bs.getD j false <;> rfl
    rw [h1]
    simp
  · have hne : ws ≠ vs := fun e2 => by
      subst e2
      apply e
      apply List.ext_getElem hl
      intro i h1 h2
      have hwlen := h.len
      have a := h.bit i (by omega)
      have b := k.bit i (by omega)
      rw [a] at b
      simpa [h1, h2] using b
    rw [decide_eq_false hne]
    cases h1 : withinB bs cs
    · rfl
    · cases h2 : withinB cs bs
      · rfl
      · exfalso
        apply e
        unfold withinB at h1 h2
        rw [Bool.and_eq_true] at h1 h2
        have a := List.all_eq_true.1 h1.2
        have b := List.all_eq_true.1 h2.2
        apply List.ext_getElem hl
        intro i q1 q2
        have a1 := a i (List.mem_range.2 q1)
        have b1 := b i (List.mem_range.2 q2)
        simp only [List.getD_eq_getElem?_getD, List.getElem?_eq_getElem q1, List.getElem?_eq_getElem q2, Option.getD_some] at a1 b1
        revert a1 b1
        cases bs[i] <;> cases cs[i] <;> simp
end Go.Proofs.YtfagjejknnkhdaaDoor
