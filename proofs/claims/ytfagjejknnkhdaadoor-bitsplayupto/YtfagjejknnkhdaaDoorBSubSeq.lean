/- The iterator that Subsets makes. -/
import Derived.Test.YtfagjejknnkhdaaDoorBSubs
import Derived.Test.YtfagjejknnkhdaaDoorBAll
namespace Go.Proofs.YtfagjejknnkhdaaDoor
open Go.RowKit
attribute [local go_sem] Oper.semAt_some

/-- How many rows of places are left, at most f. -/
def chLen (n : Nat) : Nat → List Nat → Nat
  | 0, _ => 0
  | f + 1, ps => 1 + (match nextP n ps with
    | none => 0
    | some r => chLen n f r)
theorem chLen_eq {n : Nat} : ∀ {f : Nat} {ps : List Nat} {L : List (List Nat)}, chainB n ps L = true → L.length ≤ f → chLen n f ps = L.length := by
  intro f
  induction f with
  | zero =>
    intro ps L h hl
    have : L = [] := List.length_eq_zero_iff.1 (by omega)
    subst this
    simp [chainB] at h
  | succ f ih =>
    intro ps L h hl
    cases L with
    | nil => simp [chainB] at h
    | cons q t =>
      simp only [chainB, Bool.and_eq_true] at h
      rw [chLen]
      cases hn : nextP n ps with
      | none =>
        rw [hn] at h
        simp at h
        simp [h.2]
      | some r =>
        rw [hn] at h
        rw [List.length_cons] at hl
        dsimp only at h ⊢
        rw [ih h.2 (by omega), List.length_cons]
        omega
theorem combos_few : ∀ n, n < 11 → ∀ size, size < 11 → (combos n size 0).length ≤ 2000 := by decide +kernel
def boolOf : Value → Bool
  | .bool b => b
  | _ => false
/-- The places that a block holds. -/
def psOf (W : World) (g size : Nat) : List Nat := (List.range size).map fun k => match W.cell? ⟨g, k, none⟩ with
  | some (.int _ z) => z.toNat
  | _ => 0
theorem psOf_row {W : World} {b g cap : Nat} {ps : List Nat} (h : W.ownsRow b 3 1 (.slice (some ⟨g, 0, none⟩) ps.length cap) ps.length (nats ps)) : psOf W g ps.length = ps := by
  apply List.ext_getElem
  · simp [psOf]
  · intro i h1 h2
    have hc := (h.cellAt i (by omega)).trans (nats_get ps i h2)
    simp [psOf, hc]
/-- How many rounds there are to come. -/
def left (n F : Nat) (v : Value) (W : World) (g size : Nat) : Nat := if boolOf v then chLen n F (psOf W g size) else 0
theorem left_no (n F : Nat) (W : World) (g size : Nat) : left n F (.bool false) W g size = 0 := rfl
theorem left_yes {n F : Nat} {W : World} {b g cap size : Nat} {ps : List Nat} {L : List (List Nat)} (hs : ps.length = size) (h : W.ownsRow b 3 1 (.slice (some ⟨g, 0, none⟩) size cap) size (nats ps)) (hc : chainB n ps L = true) (hl : L.length ≤ F) : left n F (.bool true) W g size = L.length := by
  subst hs
  show chLen n F (psOf W g ps.length) = _
  rw [psOf_row h]
  exact chLen_eq hc hl
theorem placesFrom_step (n size : Nat) (h : size ≤ n) : placesFrom n size (n + 1 - size) = combos n size 0 ++ placesFrom n (size + 1) (n + 1 - (size + 1)) := by
  obtain ⟨f, hf⟩ : ∃ f, n + 1 - size = f + 1 := ⟨n - size, by omega⟩
  rw [hf, placesFrom, show n + 1 - (size + 1) = f by omega]
theorem placesFrom_end (n : Nat) : placesFrom n (n + 1) (n + 1 - (n + 1)) = [] := by
  rw [Nat.sub_self, placesFrom]
theorem chain_in {n : Nat} {ps : List Nat} {L : List (List Nat)} (h : chainB n ps L = true) : ∀ k (hk : k < ps.length), ps[k] < n := by
  cases L with
  | nil => simp [chainB] at h
  | cons q t =>
    simp only [chainB, Bool.and_eq_true, List.all_eq_true, decide_eq_true_eq] at h
    exact fun k hk => h.1.2 _ (List.getElem_mem hk)

def pf (its : List Int) (ps : List Nat) : List Int := ps.map fun p => its.getD p 0
theorem row_keptK {B : Nat} {K S : Blocks} {W W' : World} {base : Nat} {e : TypeId} {size g n cap : Nat} {xs : List Value} (h : W.ownsRow base e size (.slice (some ⟨g, 0, none⟩) n cap) n xs) (hk : KeptP B K S W W') (hg : K g) : W'.ownsRow base e size (.slice (some ⟨g, 0, none⟩) n cap) n xs := by
  refine ⟨h.1, ?_⟩
  rcases h.2 with ⟨h, _⟩ | ⟨g', cap', cur, hv, hb', hh, rest⟩
  · cases h
  · have hv' := hv
    simp only [Value.slice.injEq, Option.some.injEq, Addr.mk.injEq, and_true, true_and] at hv'
    obtain ⟨rfl, rfl⟩ := hv'
    exact .inr ⟨_, _, cur, rfl, hb', hk.box _ _ hg hh, rest⟩
theorem row_same {w W : World} {base : Nat} {e : TypeId} {size g n cap : Nat} {xs : List Value} (h : w.ownsRow base e size (.slice (some ⟨g, 0, none⟩) n cap) n xs) (hl : ∀ k, k < w.heap.size → W.heap[k]? = w.heap[k]?) : W.ownsRow base e size (.slice (some ⟨g, 0, none⟩) n cap) n xs := by
  refine ⟨h.1, ?_⟩
  rcases h.2 with ⟨h, _⟩ | ⟨g', cap', cur, hv, hb', hh, rest⟩
  · cases h
  · exact .inr ⟨g', cap', cur, hv, hb', (hl g' (Array.getElem?_eq_some_iff.1 hh).1).trans hh, rest⟩

/-- What stands between two rounds of the iterator: the items, and what they lie in. -/
structure Its (lo : Nat) (sb gi ci : Nat) (its : List Int) (W : World) : Prop where
  box : Boxed W sb 55 (.slice (some ⟨gi, 0, none⟩) its.length ci)
  row : W.ownsRow 0 3 1 (.slice (some ⟨gi, 0, none⟩) its.length ci) its.length (ints its)
  size : lo ≤ W.heap.size
theorem Its.below {lo sb gi ci : Nat} {its : List Int} {W W' : World} (h : Its lo sb gi ci its W) (hb : Below W.heap.size W W') : Its lo sb gi ci its W' :=
  ⟨(hb.block sb h.box.lt).trans h.box, below_row h.row hb (Nat.le_refl _), Nat.le_trans h.size hb.size⟩
theorem Its.keptP {lo B sb gi ci : Nat} {its : List Int} {S : Blocks} {W W' : World} (h : Its lo sb gi ci its W) (hk : KeptP B (two sb gi) S W W') : Its lo sb gi ci its W' :=
  ⟨hk.box _ _ (.inl rfl) h.box, row_keptK h.row hk (.inr rfl), Nat.le_trans h.size hk.size⟩
theorem Its.grown {lo sb gi ci : Nat} {its : List Int} {W W' : World} {r : Nat} (h : Its lo sb gi ci its W) (hg : W.grownBy W' (some r)) (h1 : r ≠ sb) (h2 : r ≠ gi) : Its lo sb gi ci its W' :=
  ⟨(hg.block sb h.box.lt (by simpa using Ne.symm h1)).trans h.box, h.row.kept hg (.inr (by simpa [Value.ownBlock] using Ne.symm h2)), Nat.le_trans h.size hg.size⟩

set_option maxRecDepth 100000 in
set_option maxHeartbeats 2000000 in
theorem subs_seq (n : Nat) (sb gi ci : Nat) (its : List Int) (w : World) (hsb : Boxed w sb 55 (.slice (some ⟨gi, 0, none⟩) its.length ci)) (hit : w.ownsRow 0 3 1 (.slice (some ⟨gi, 0, none⟩) its.length ci) its.length (ints its)) (hN : its.length ≤ 10) :
    SeqP n Tryd.prog 41 #[.pointer (some ⟨sb, 0, none⟩)] (rowV w.heap.size) (two sb gi) (subs its) w := fun l J Jx W hWs hWlow hJ hJx hY h0 => by
  have hI : Its (w.heap.size + 2) sb gi ci its W := ⟨(hWlow sb hsb.lt).trans hsb, row_same hit hWlow, by omega⟩
  have hsl := hsb.lt
  have hgl := (hit.lt gi rfl).2
  have hT0 : subs its = (placesFrom its.length 1 (its.length + 1 - 1)).map (pf its) := by
    unfold subs pf
    rw [if_pos hN]
    rfl
  clear hsb hit hWlow
  obtain ⟨F, hF⟩ : ∃ F : Nat, 2000 ≤ F := ⟨2000, Nat.le_refl _⟩
  obtain ⟨T, hT⟩ : ∃ T, subs its = T := ⟨_, rfl⟩
  rw [hT] at hY hT0 ⊢
  clear hT
  refine callsIn_of_wp Tryd.func41 rfl trivial ?_ rfl
  simp only [Tryd.ntmps41, List.size_toArray, List.length_cons, List.length_nil, Nat.reduceAdd, Nat.reduceSub, Array.replicate_succ, Array.replicate_zero, List.push_toArray, List.append_toArray, List.nil_append, List.cons_append]
  gi_wp2
  gi_loopw [3, 4, 5] (fun v _ _ wr => ∃ (size : Nat) (pre : List (List Int)) (S : Blocks), 1 ≤ size ∧ size ≤ its.length + 1 ∧ v = .int .i64 size ∧ Its (w.heap.size + 2) sb gi ci its wr ∧ T = pre ++ (placesFrom its.length size (its.length + 1 - size)).map (pf its) ∧ J pre S wr)
    (fun v _ _ _ => its.length + 1 - (intOf v).toNat)
  case atStart => exact ⟨1, [], _, Nat.le_refl _, by omega, rfl, hI, hT0, h0⟩
  case round =>
    obtain ⟨size, pre, S, hs1, hs2, rfl, hIr, hTr, hJr⟩ := hrel
    clear hI hT0 h0
    have hbc := hIr.box.cell
    by_cases hlt : size ≤ its.length
    · rw [placesFrom_step _ _ hlt, List.map_append] at hTr
      have hch := combos_chain its.length (by omega) size (by omega) hs1 hlt
      have hfew := Nat.le_trans (combos_few its.length (by omega) size (by omega)) hF
      have HF := hide (firstPlaces_k size (by omega) wr)
      gi_wp2_with (refine ⟨trivial, (fun h => by cases h), ?_⟩; gi_at_call 42; refine (callsIn_wide.2 HF.out).mono ?_; rintro e w1 ⟨rfl, A1, A2, A3⟩; have B1 := hide A1; have B2 := hide A2; have B3 := hide A3; clear A1 A2 A3)
      have hI1 := hIr.below B2.out
      have hgp : w.heap.size + 2 ≤ wr.heap.size := hIr.size
      have hJ1 : J pre (fun k => k = wr.heap.size) w1 := hJ.below (hJ.claim _ _ _ _ hJr (fun k hk => .inr (by rw [hk]; exact Nat.le_refl _))) B2.out
      obtain ⟨gp, hgpe⟩ : ∃ gp, gp = wr.heap.size := ⟨_, rfl⟩
      have C1 := row_from B1.out (Nat.zero_le _)
      rw [← hgpe] at hgp hJ1 C1 ⊢
      clear hIr hJr hbc HF hgpe
      gi_loopw [5] (fun v wr => ∃ (b : Bool) (pre : List (List Int)) (L : List (List Nat)), v = .bool b ∧ Its (w.heap.size + 2) sb gi ci its wr ∧ J pre (fun k => k = gp) wr ∧ T = pre ++ (L.map (pf its) ++ (placesFrom its.length (size + 1) (its.length + 1 - (size + 1))).map (pf its)) ∧ L.length ≤ F ∧
          ((b = false ∧ L = []) ∨ (b = true ∧ ∃ ps, ps.length = size ∧ chainB its.length ps L = true ∧ wr.ownsRow 0 3 1 (.slice (some ⟨gp, 0, none⟩) size size) size (nats ps))))
        (fun v wr => left its.length F v wr gp size)
      case atStart => exact ⟨true, pre, _, rfl, hI1, hJ1, hTr, hfew, .inr ⟨rfl, _, by simp, hch, C1⟩⟩
      case round =>
        clear hI1 hJ1 hTr hfew hch C1 B1 B2 B3
        obtain ⟨b, pre, L, rfl, hIr, hJr, hTr, hfew, hb⟩ := hrel
        have hbc := hIr.box.cell
        rcases hb with ⟨rfl, rfl⟩ | ⟨rfl, ps, rfl, hch, hrow⟩
        · rw [List.map_nil, List.nil_append] at hTr
          have R := hide (And.intro hIr (And.intro hTr hJr))
          clear hIr hTr hJr
          gi_wp2
          go_roundw
          case rel => exact ⟨size + 1, _, _, by omega, by omega, by go_num, R.out.1, R.out.2.1, R.out.2.2⟩
          case measure => simp [intOf]; omega
        · have hin := chain_in hch
          have hmeas : left its.length F (.bool true) wr gp ps.length = L.length := left_yes rfl hrow hch hfew
          have HM := hide hmeas
          clear hmeas
          obtain ⟨t, hLt⟩ : ∃ t, L = ps :: t := by
            cases L with
            | nil => simp [chainB] at hch
            | cons q t =>
              simp only [chainB, Bool.and_eq_true, beq_iff_eq] at hch
              exact ⟨t, by rw [hch.1.1]⟩
          subst hLt
          have hnx : (nextP its.length ps = none ∧ t = []) ∨ ∃ r, nextP its.length ps = some r ∧ r.length = ps.length ∧ chainB its.length r t = true := by
            have hcl := chain_len hch
            simp only [chainB, Bool.and_eq_true] at hch
            cases hn : nextP its.length ps with
            | none =>
              rw [hn] at hch
              exact .inl ⟨rfl, by simpa using hch.2⟩
            | some r =>
              rw [hn] at hch
              refine .inr ⟨r, rfl, ?_, hch.2⟩
              cases t with
              | nil => simp [chainB] at hch
              | cons q t' =>
                have := hch.2
                simp only [chainB, Bool.and_eq_true, beq_iff_eq] at this
                rw [this.1.1]
                exact hcl q (by simp)
          rw [List.map_cons, List.cons_append] at hTr
          have HP := hide (pick_k hIr.row hrow (by omega) hin hN)
          have hpl : ps.length ≤ 10 := by omega
          have HI := hide hIr
          have HR := hide hrow
          have HJ := hide hJr
          have HT := hide hTr
          have HH := hide hin
          have HC := hide hnx
          have HD := hide hfew
          clear hIr hrow hJr hTr hin hnx hch hfew
          have hgw := (HR.out.lt gp rfl).2
          gi_wp2_with (refine ⟨trivial, (fun h => by cases h), ?_⟩; gi_at_call 44; refine (callsIn_wide.2 HP.out).mono ?_; rintro e w2 ⟨rfl, A1, A2, A3⟩; have B1 := hide A1; have B2 := hide A2; clear A1 A2 A3; have hI2 := HI.out.below B2.out; have hR2 := below_row HR.out B2.out (Nat.le_refl _); have hJ2 := hJ.below HJ.out B2.out; obtain ⟨fn, tmps, assign, body, hyy, hR⟩ := hY pre (pf its ps) (fun k => k = gp) #[.slice (some ⟨wr.heap.size, 0, none⟩) ps.length ps.length] w2 hJ2 ⟨_, HT.out⟩ ⟨wr.heap.size, by simp [pf], by simpa [pf] using row_from B1.out (Nat.zero_le _), by have := HI.out.size; omega, by omega⟩)
          refine ⟨(fun h => by cases h), hR.mono ?_⟩
          rintro e W4 (⟨rfl, hJ4, hk4⟩ | ⟨rfl, hJx4⟩)
          · have hI4 := hI2.keptP hk4
            have hR4 := row_keptP hR2 hk4 rfl
            have hb4 := hI4.box.cell
            have HN2 := hide (nextPlaces_k hR4 hlt hN HH.out)
            have HI4 := hide hI4
            have HJ4 := hide hJ4
            clear hI4 hR4 hJ4 hk4 hI2 hR2 hJ2 hR hyy
            gi_wp2_with (refine ⟨trivial, (fun h => by cases h), ?_⟩; gi_at_call 43; refine (callsIn_wide.2 HN2.out).mono ?_; rintro e w5 ⟨rfl, A1, A2⟩; have D1 := hide A1; have D2 := hide A2; clear A1 A2)
            have hJ5 := hJ.grown _ _ _ _ _ HJ4.out D2.out (fun r e => by cases e; rfl)
            have hI5 := HI4.out.grown D2.out (by omega) (by omega)
            go_roundw
            case rel =>
              rcases HC.out with ⟨hn, rfl⟩ | ⟨r, hn, hrl, hc⟩
              · exact ⟨false, _, [], by rw [hn]; rfl, hI5, hJ5, by rw [HT.out]; simp, by simp, .inl ⟨rfl, rfl⟩⟩
              · refine ⟨true, _, t, by rw [hn]; rfl, hI5, hJ5, by rw [HT.out]; simp, by have := HD.out; simp at this; omega, .inr ⟨rfl, r, hrl, hc, ?_⟩⟩
                have := D1.out
                rw [hn] at this
                exact this
            case measure =>
              have hm := HM.out
              rw [hm, List.length_cons]
              rcases HC.out with ⟨hn, rfl⟩ | ⟨r, hn, hrl, hc⟩
              · rw [hn]
                rw [show (none : Option (List Nat)).isSome = false from rfl, left_no]
                omega
              · have h5 := D1.out
                rw [hn] at h5 ⊢
                rw [show (some r).isSome = true from rfl, left_yes hrl h5 hc (by have := HD.out; simp at this; omega)]
                omega
          · gi_wp2
            refine bodyPost_ret (results_none rfl _ _ _) rfl ?_
            exact ⟨⟨_, rfl⟩, .inr ⟨_, _, _, _, HT.out, hJx4⟩⟩
    · have e : size = its.length + 1 := by omega
      subst e
      rw [placesFrom_end, List.map_nil, List.append_nil] at hTr
      have R := hide hJr
      clear hJr
      gi_wp2
      go_end0
      exact ⟨⟨_, rfl⟩, .inl ⟨_, by rw [hTr]; exact R.out⟩⟩

set_option maxRecDepth 100000 in
set_option maxHeartbeats 2000000 in
theorem subs_none (n : Nat) (sb : Nat) (w : World) (lo : Nat) (K : Blocks) (hsb : Boxed w sb 55 (.slice none 0 0)) :
    SeqP n Tryd.prog 41 #[.pointer (some ⟨sb, 0, none⟩)] (rowV lo) K [] w := fun l J Jx W hWs hWlow hJ hJx hY h0 => by
  have hbW : Boxed W sb 55 (.slice none 0 0) := (hWlow sb hsb.lt).trans hsb
  have hc := hbW.cell
  refine callsIn_of_wp Tryd.func41 rfl trivial ?_ rfl
  simp only [Tryd.ntmps41, List.size_toArray, List.length_cons, List.length_nil, Nat.reduceAdd, Nat.reduceSub, Array.replicate_succ, Array.replicate_zero, List.push_toArray, List.append_toArray, List.nil_append, List.cons_append]
  gi_wp2
  gi_loopw [3, 4, 5] (fun v _ _ wr => v = .int .i64 1 ∧ wr = W) (fun _ _ _ _ => 0)
  case atStart => exact ⟨rfl, rfl⟩
  case round =>
    obtain ⟨rfl, rfl⟩ := hrel
    gi_wp2
    go_end0
    exact ⟨⟨_, rfl⟩, .inl ⟨_, h0⟩⟩
end Go.Proofs.YtfagjejknnkhdaaDoor
