/- The document's Spell. -/
import Derived.Test.YthpkjehoogodkaaDoorZKSpM
import Derived.Test.YthpkjehoogodkaaDoorGRefW
namespace Go.Proofs.YthpkjehoogodkaaDoor
open Go.RowKit

theorem wrT_len2 (x : Tq) (hx : x.ok) (hx1 : x.t.size + 1 ≤ 1048576) : (wrT x.tk).length ≤ 1048576 := by
  unfold wrT Tq.tk
  dsimp only
  split
  · rw [size_toList]; omega
  · split
    · have := dec_len20 x.i hx.lo hx.hi
      omega
    · split
      · rw [List.length_cons, size_toList]; omega
      · simp
/-- Scan of a token's own text, by its three ways. -/
theorem scan_own (t : Tkn) (hl : (wrT t).length ≤ 1048576) :
    (∃ c o l k : Int, c ≠ 0 ∧ spOK t = false ∧ ∀ w, Calls Tryd.prog 8 #[.string (str (wrT t))] w fun e w' => e = .returned (.tuple #[.slice none 0 0, .agg #[.int .i64 c, .int .i64 o, .int .i64 l, .int .i64 k]]) ∧ Below w.heap.size w w') ∨
    (∃ n : Nat, 2 < n ∧ n ≤ 1048577 ∧ spOK t = false ∧ ∀ w, Calls Tryd.prog 8 #[.string (str (wrT t))] w fun e w' => (∃ a cp, e = .returned (.tuple #[.slice a n cp, .agg #[.int .i64 0, .int .i64 0, .int .i64 0, .int .i64 0]])) ∧ Below w.heap.size w w') ∨
    (∃ (n : Nat) (x : Tkn) (o l c : Int), 0 < n ∧ n ≤ 2 ∧ spOK t = tkEq x t ∧ ∀ w, Calls Tryd.prog 8 #[.string (str (wrT t))] w fun e w' => (∃ g cp, e = .returned (.tuple #[.slice (some ⟨g, 0, none⟩) n cp, .agg #[.int .i64 0, .int .i64 0, .int .i64 0, .int .i64 0]]) ∧ w.heap.size ≤ g ∧ (∀ i v, (tcells x.kind o l c (str x.text) x.int)[i]? = some v → w'.cell? ⟨g, i, none⟩ = some v) ∧ (∀ i, w'.frozen? ⟨g, i, none⟩ = false) ∧ g < w'.heap.size) ∧ Below w.heap.size w w') := by
  have hs : (str (wrT t)).size ≤ 1048576 := by rw [str_size]; exact hl
  have hd : (str (wrT t)).data.toList = wrT t := bytes_str _
  have hN : (sc (wrT t) 0).1.length ≤ 1048577 := by have := sc_len (wrT t); omega
  cases hf : (sc (wrT t) 0).2 with
  | some cp =>
    obtain ⟨c, p⟩ := cp
    left
    refine ⟨c, p, (lc (wrT t) p).1, (lc (wrT t) p).2, cut_codes _ _ _ c p hf, ?_, fun w => ?_⟩
    · cases hq : spOK t with
      | false => rfl
      | true => rw [(sp_yes t hq).1] at hf; cases hf
    · refine (refScan_k _ hs w).mono ?_
      rintro e w' ⟨v, he, _, h2, hb⟩
      rw [hd] at he h2
      have h2 := h2 (by rw [hf]; exact fun h => by cases h)
      subst h2
      refine ⟨?_, hb⟩
      rw [he, hf]
      rfl
  | none =>
    right
    by_cases hn : 2 < (sc (wrT t) 0).1.length
    · left
      refine ⟨(sc (wrT t) 0).1.length, hn, hN, ?_, fun w => ?_⟩
      · cases hq : spOK t with
        | false => rfl
        | true => have := (sp_yes t hq).2.1; omega
      · refine (refScan_k _ hs w).mono ?_
        rintro e w' ⟨v, he, h1, _, hb⟩
        rw [hd] at he h1
        obtain ⟨B, _, hr⟩ := h1 hf
        obtain ⟨a, cp, rfl⟩ := row_slice hr
        refine ⟨⟨a, cp, ?_⟩, hb⟩
        rw [he, hf]
        rfl
    · right
      have hpos : 0 < (sc (wrT t) 0).1.length := sc_some _ _ _ hf
      obtain ⟨x, p, r, hx⟩ : ∃ x p r, (sc (wrT t) 0).1 = (x, p) :: r := by
        cases hq : (sc (wrT t) 0).1 with
        | nil => rw [hq] at hpos; simp at hpos
        | cons y r => exact ⟨y.1, y.2, r, rfl⟩
      refine ⟨(sc (wrT t) 0).1.length, x, p, (lc (wrT t) p).1, (lc (wrT t) p).2, hpos, by omega, ?_, fun w => ?_⟩
      · cases hq : tkEq x t with
        | true =>
          have := tkEq_yes hq
          subst this
          exact sp_no x hf p r hx
        | false =>
          cases hq2 : spOK t with
          | false => rfl
          | true =>
            obtain ⟨_, _, p', r', h⟩ := sp_yes t hq2
            rw [hx] at h
            have e := (Prod.mk.inj (List.cons.inj h).1).1
            subst e
            rw [tkEq_self] at hq
            cases hq
      · refine (refScan_k _ hs w).mono ?_
        rintro e w' ⟨v, he, h1, _, hb⟩
        rw [hd] at he h1
        obtain ⟨B, hB, hr⟩ := h1 hf
        obtain ⟨M, hM⟩ : ∃ M, (sc (wrT t) 0).1.length = M + 1 := ⟨_, (Nat.sub_add_cancel hpos).symm⟩
        have hr2 := hr
        rw [hM] at hr2
        obtain ⟨g, cp, e⟩ := ownsRow_succ hr2
        subst e
        rw [← hM] at he
        refine ⟨⟨g, cp, ?_, Nat.le_trans hB (row_block hr2 g rfl).1, fun i u hu => ?_, fun i => ?_, (hr2.lt g rfl).2⟩, hb⟩
        · rw [he, hf]
          rfl
        · refine rowCell hr2 i u ?_
          rw [hx]
          have hi : i < 6 := (Array.getElem?_eq_some_iff.1 hu).1
          have e6 : tkRow (wrT t) ((x, p) :: r) = (tcells x.kind p (lc (wrT t) p).1 (lc (wrT t) p).2 (str x.text) x.int).toList ++ tkRow (wrT t) r := rfl
          rw [e6, List.getElem?_append_left (by simpa using hi)]
          simpa using hu
        · rcases hr2.2 with ⟨h0, _⟩ | ⟨g', cap', cur, hv, _, hh, _⟩
          · cases h0
          · cases hv
            simp only [World.frozen?]
            rw [hh]
            simp

set_option maxRecDepth 100000 in
set_option maxHeartbeats 16000000 in
theorem refSpell_k (x : Tq) (hx : x.ok) (hx1 : x.t.size + 1 ≤ 1048576) (w : World) :
    Calls Tryd.prog 12 #[.agg (tcells x.k x.o x.l x.c x.t x.i)] w fun e w' => e = .returned (.tuple #[.string (bif spOK x.tk then str (wrT x.tk) else ⟨#[]⟩), .int .i64 (bif spOK x.tk then 0 else 2)]) ∧ Below w.heap.size w w' := by
  have hl := wrT_len2 x hx hx1
  have hsc := scan_own x.tk hl
  have hdec := hide (fun w => refDecimal_k x.i hx.lo hx.hi w)
  obtain ⟨k, o, ln, cl, t, i⟩ := x
  dsimp only at *
  obtain ⟨W, hW⟩ : ∃ W, w.alloc (.cells (tcells k 0 0 0 t i) 35) = W := ⟨_, rfl⟩
  have bW : Below w.heap.size w W := by rw [← hW]; exact kalloc (Below.refl _ _) _
  have e1 : W.heap[w.heap.size]? = some (.cells (tcells k 0 0 0 t i) 35 (0, 0)) := by rw [← hW]; exact World.alloc_heap_new w _
  have hz : w.heap.size < W.heap.size := (Array.getElem?_eq_some_iff.1 e1).1
  have x0 := kcells_at e1 0 _ rfl
  have x4 := kcells_at e1 4 _ rfl
  have x5 := kcells_at e1 5 _ rfl
  have HE := hide e1
  have HB := hide bW
  have htz : t.size ≤ 1048575 := by omega
  obtain ⟨q, hq⟩ : ∃ q, str (wrT (Tq.tk ⟨k, o, ln, cl, t, i⟩)) = q := ⟨_, rfl⟩
  rw [hq] at hsc ⊢
  -- the text by kinds
  have hkinds : (k = 1 ∧ q = t) ∨ (k = 4 ∧ q = t) ∨ (k = 3 ∧ (⟨#[35]⟩ : ByteArray) ++ t = q) ∨ (k = 2 ∧ str (Lib.itoa i) = q) ∨ ((k == 1) = false ∧ (k == 4) = false ∧ (k == 3) = false ∧ (k == 2) = false ∧ q = ⟨#[]⟩) := by
    rw [← hq]
    unfold wrT Tq.tk
    dsimp only
    by_cases k1 : k = 1
    · left
      subst k1
      exact ⟨rfl, by rw [if_pos (.inl rfl), str_bytes]⟩
    by_cases k4 : k = 4
    · right; left
      subst k4
      exact ⟨rfl, by rw [if_pos (.inr rfl), str_bytes]⟩
    right; right
    rw [if_neg (fun h => h.elim k1 k4)]
    by_cases k3 : k = 3
    · left
      subst k3
      refine ⟨rfl, ?_⟩
      rw [if_neg (by decide), if_pos rfl, str_app]
      rfl
    right
    by_cases k2 : k = 2
    · left
      subst k2
      exact ⟨rfl, by rw [if_pos rfl]⟩
    right
    rw [if_neg k2, if_neg k3]
    exact ⟨by simpa using k1, by simpa using k4, by simpa using k3, by simpa using k2, rfl⟩
  have hne := fun (X : Tkn) w => tokNe X.kind 0 0 0 (str X.text) X.int k 0 0 0 t i w
  have hneq : ∀ X : Tkn, (!(X.kind == k && ((0 : Int) == 0 && ((0 : Int) == 0 && ((0 : Int) == 0 && ((str X.text).toList == t.toList && X.int == i)))))) = !(tkEq X (Tq.tk ⟨k, o, ln, cl, t, i⟩)) := fun X => by
    unfold tkEq Tq.tk
    dsimp only
    rw [Lib.toList_data, Lib.toList_data, bytes_str]
    simp
  clear e1 bW hq hl hx hx1
  rcases hsc with ⟨c, fo, fl, fk, hc0, hsp, hS⟩ | ⟨n, hn, hn2, hsp, hS⟩ | ⟨n, X, to, tl, tc, hn, hn2, hsp, hS⟩
  · rw [hsp]
    have hc2 : (c != 0) = true := by simpa using hc0
    have HS := hide hS
    clear hS hsp hne hneq hc0
    simp only [cond_false]
    rcases hkinds with ⟨rfl, rfl⟩ | ⟨rfl, rfl⟩ | ⟨rfl, hcat⟩ | ⟨rfl, hdc⟩ | ⟨k1, k4, k3, k2, rfl⟩
    · clear hdec
      go_enter Tryd.func12, Tryd.ntmps12
      go_wp2_with (first
        | (go_at_call 8; refine (HS.out _).mono ?_; clear HS; rintro e w3 ⟨rfl, b3⟩; have B3 := hide (kalloc (ktrans HB.out b3) (.cells #[.int .i64 c, .int .i64 fo, .int .i64 fl, .int .i64 fk] 27)); clear b3))
      go_ret2
      exact ⟨rfl, B3.out⟩
    · clear hdec
      go_enter Tryd.func12, Tryd.ntmps12
      go_wp2_with (first
        | (go_at_call 8; refine (HS.out _).mono ?_; clear HS; rintro e w3 ⟨rfl, b3⟩; have B3 := hide (kalloc (ktrans HB.out b3) (.cells #[.int .i64 c, .int .i64 fo, .int .i64 fl, .int .i64 fk] 27)); clear b3))
      go_ret2
      exact ⟨rfl, B3.out⟩
    · clear hdec
      go_enter Tryd.func12, Tryd.ntmps12
      go_wp2_with (first
        | (go_at_call 8; refine (HS.out _).mono ?_; clear HS; rintro e w3 ⟨rfl, b3⟩; have B3 := hide (kalloc (ktrans HB.out b3) (.cells #[.int .i64 c, .int .i64 fo, .int .i64 fl, .int .i64 fk] 27)); clear b3))
      go_ret2
      exact ⟨rfl, B3.out⟩
    · rw [hdc] at hdec
      go_enter Tryd.func12, Tryd.ntmps12
      go_wp2_with (first
        | (go_at_call 24; refine (hdec.out _).mono ?_; clear hdec; rintro e w2 ⟨rfl, b2⟩; have HB2 := hide (ktrans HB.out b2); have HE2 := hide ((b2.block _ hz).trans HE.out); have hz2 : w.heap.size < w2.heap.size := (by (have := b2.size; omega)); clear b2)
        | (go_at_call 8; refine (HS.out _).mono ?_; clear HS; rintro e w3 ⟨rfl, b3⟩; have B3 := hide (kalloc (ktrans HB2.out b3) (.cells #[.int .i64 c, .int .i64 fo, .int .i64 fl, .int .i64 fk] 27)); clear b3))
      go_ret2
      exact ⟨rfl, B3.out⟩
    · clear hdec
      go_enter Tryd.func12, Tryd.ntmps12
      go_wp2_with (first
        | (go_at_call 8; refine (HS.out _).mono ?_; clear HS; rintro e w3 ⟨rfl, b3⟩; have B3 := hide (kalloc (ktrans HB.out b3) (.cells #[.int .i64 c, .int .i64 fo, .int .i64 fl, .int .i64 fk] 27)); clear b3))
      go_ret2
      exact ⟨rfl, B3.out⟩
  · rw [hsp]
    have hnI : (2 : Int) < (n : Int) := by omega
    have HS := hide hS
    clear hS hsp hne hneq
    simp only [cond_false]
    rcases hkinds with ⟨rfl, rfl⟩ | ⟨rfl, rfl⟩ | ⟨rfl, hcat⟩ | ⟨rfl, hdc⟩ | ⟨k1, k4, k3, k2, rfl⟩
    · clear hdec
      go_enter Tryd.func12, Tryd.ntmps12
      go_wp2_with (first
        | (go_at_call 8; refine (HS.out _).mono ?_; clear HS; rintro e w3 ⟨⟨a3, c3, rfl⟩, b3⟩; have B3 := hide (kalloc (ktrans HB.out b3) (.cells #[.int .i64 0, .int .i64 0, .int .i64 0, .int .i64 0] 27)); clear b3))
      go_ret2
      exact ⟨rfl, B3.out⟩
    · clear hdec
      go_enter Tryd.func12, Tryd.ntmps12
      go_wp2_with (first
        | (go_at_call 8; refine (HS.out _).mono ?_; clear HS; rintro e w3 ⟨⟨a3, c3, rfl⟩, b3⟩; have B3 := hide (kalloc (ktrans HB.out b3) (.cells #[.int .i64 0, .int .i64 0, .int .i64 0, .int .i64 0] 27)); clear b3))
      go_ret2
      exact ⟨rfl, B3.out⟩
    · clear hdec
      go_enter Tryd.func12, Tryd.ntmps12
      go_wp2_with (first
        | (go_at_call 8; refine (HS.out _).mono ?_; clear HS; rintro e w3 ⟨⟨a3, c3, rfl⟩, b3⟩; have B3 := hide (kalloc (ktrans HB.out b3) (.cells #[.int .i64 0, .int .i64 0, .int .i64 0, .int .i64 0] 27)); clear b3))
      go_ret2
      exact ⟨rfl, B3.out⟩
    · rw [hdc] at hdec
      go_enter Tryd.func12, Tryd.ntmps12
      go_wp2_with (first
        | (go_at_call 24; refine (hdec.out _).mono ?_; clear hdec; rintro e w2 ⟨rfl, b2⟩; have HB2 := hide (ktrans HB.out b2); have HE2 := hide ((b2.block _ hz).trans HE.out); have hz2 : w.heap.size < w2.heap.size := (by (have := b2.size; omega)); clear b2)
        | (go_at_call 8; refine (HS.out _).mono ?_; clear HS; rintro e w3 ⟨⟨a3, c3, rfl⟩, b3⟩; have B3 := hide (kalloc (ktrans HB2.out b3) (.cells #[.int .i64 0, .int .i64 0, .int .i64 0, .int .i64 0] 27)); clear b3))
      go_ret2
      exact ⟨rfl, B3.out⟩
    · clear hdec
      go_enter Tryd.func12, Tryd.ntmps12
      go_wp2_with (first
        | (go_at_call 8; refine (HS.out _).mono ?_; clear HS; rintro e w3 ⟨⟨a3, c3, rfl⟩, b3⟩; have B3 := hide (kalloc (ktrans HB.out b3) (.cells #[.int .i64 0, .int .i64 0, .int .i64 0, .int .i64 0] 27)); clear b3))
      go_ret2
      exact ⟨rfl, B3.out⟩
  · have hnI : ¬ (2 : Int) < (n : Int) := by omega
    have hnP : (0 : Int) < (n : Int) := by omega
    have HS := hide hS
    have hcmp : ∀ w, (binOp BinOp.neq 35 (.agg (tcells X.kind 0 0 0 (str X.text) X.int)) (.agg (tcells k 0 0 0 t i))).run Tryd.prog w = .ok (.bool (!(spOK (Tq.tk ⟨k, o, ln, cl, t, i⟩)))) w := fun w => by rw [hne, hneq, hsp]
    clear hS hne hneq hsp
    obtain ⟨xk, xt, xi⟩ := X
    dsimp only at hcmp HS
    generalize str xt = xq at *
    generalize spOK (Tq.tk ⟨k, o, ln, cl, t, i⟩) = b at *
    cases b
    all_goals
      simp only [Bool.not_true, Bool.not_false, cond_true, cond_false] at hcmp ⊢
      rcases hkinds with ⟨rfl, rfl⟩ | ⟨rfl, rfl⟩ | ⟨rfl, hcat⟩ | ⟨rfl, hdc⟩ | ⟨k1, k4, k3, k2, rfl⟩
      · clear hdec
        go_enter Tryd.func12, Tryd.ntmps12
        go_wp2_with (first
          | (go_at_call 8; refine (HS.out _).mono ?_; clear HS; rintro e w3 ⟨⟨g, c3, rfl, hg, hcells, hfz, hgl⟩, b3⟩; have bA : Below w3.heap.size w3 (w3.alloc (.cells #[.int .i64 0, .int .i64 0, .int .i64 0, .int .i64 0] 27)) := kalloc (Below.refl _ _) _; have y0 := kkeepCell (hcells 0 _ rfl) bA; have y1 := kkeepCell (hcells 1 _ rfl) bA; have y2 := kkeepCell (hcells 2 _ rfl) bA; have y3 := kkeepCell (hcells 3 _ rfl) bA; have y4 := kkeepCell (hcells 4 _ rfl) bA; have y5 := kkeepCell (hcells 5 _ rfl) bA; have fz : ∀ i, (w3.alloc (.cells #[.int .i64 0, .int .i64 0, .int .i64 0, .int .i64 0] 27)).frozen? ⟨g, i, none⟩ = false := (fun i => by (have h9 := bA.block g hgl; simp only [World.frozen?]; rw [h9]; exact hfz i)); have p1 := fz 1; have p2 := fz 2; have p3 := fz 3; have g4 := (bA.block _ (Nat.lt_of_lt_of_le hz b3.size)).trans ((b3.block _ hz).trans HE.out); have z0 := kcells_at g4 0 _ rfl; have z1 := kcells_at g4 1 _ rfl; have z2 := kcells_at g4 2 _ rfl; have z3 := kcells_at g4 3 _ rfl; have z4 := kcells_at g4 4 _ rfl; have z5 := kcells_at g4 5 _ rfl; have hgn : w.heap.size ≠ g := (by omega); have hgn2 : g ≠ w.heap.size := (by omega); have B3 := hide (ktrans (ktrans HB.out b3) bA); have HGL : Hid (w.heap.size ≤ g) := (by (show w.heap.size ≤ g; omega)); clear b3 bA g4 fz hcells hfz hgl hg))
        go_quiet (fail)
        go_wp2
        go_ret2
        exact ⟨rfl, ktrans (((B3.out.setCell HGL.out _).setCell HGL.out _).setCell HGL.out _) (below_drewN _ _)⟩
      · clear hdec
        go_enter Tryd.func12, Tryd.ntmps12
        go_wp2_with (first
          | (go_at_call 8; refine (HS.out _).mono ?_; clear HS; rintro e w3 ⟨⟨g, c3, rfl, hg, hcells, hfz, hgl⟩, b3⟩; have bA : Below w3.heap.size w3 (w3.alloc (.cells #[.int .i64 0, .int .i64 0, .int .i64 0, .int .i64 0] 27)) := kalloc (Below.refl _ _) _; have y0 := kkeepCell (hcells 0 _ rfl) bA; have y1 := kkeepCell (hcells 1 _ rfl) bA; have y2 := kkeepCell (hcells 2 _ rfl) bA; have y3 := kkeepCell (hcells 3 _ rfl) bA; have y4 := kkeepCell (hcells 4 _ rfl) bA; have y5 := kkeepCell (hcells 5 _ rfl) bA; have fz : ∀ i, (w3.alloc (.cells #[.int .i64 0, .int .i64 0, .int .i64 0, .int .i64 0] 27)).frozen? ⟨g, i, none⟩ = false := (fun i => by (have h9 := bA.block g hgl; simp only [World.frozen?]; rw [h9]; exact hfz i)); have p1 := fz 1; have p2 := fz 2; have p3 := fz 3; have g4 := (bA.block _ (Nat.lt_of_lt_of_le hz b3.size)).trans ((b3.block _ hz).trans HE.out); have z0 := kcells_at g4 0 _ rfl; have z1 := kcells_at g4 1 _ rfl; have z2 := kcells_at g4 2 _ rfl; have z3 := kcells_at g4 3 _ rfl; have z4 := kcells_at g4 4 _ rfl; have z5 := kcells_at g4 5 _ rfl; have hgn : w.heap.size ≠ g := (by omega); have hgn2 : g ≠ w.heap.size := (by omega); have B3 := hide (ktrans (ktrans HB.out b3) bA); have HGL : Hid (w.heap.size ≤ g) := (by (show w.heap.size ≤ g; omega)); clear b3 bA g4 fz hcells hfz hgl hg))
        go_quiet (fail)
        go_wp2
        go_ret2
        exact ⟨rfl, ktrans (((B3.out.setCell HGL.out _).setCell HGL.out _).setCell HGL.out _) (below_drewN _ _)⟩
      · clear hdec
        go_enter Tryd.func12, Tryd.ntmps12
        go_wp2_with (first
          | (go_at_call 8; refine (HS.out _).mono ?_; clear HS; rintro e w3 ⟨⟨g, c3, rfl, hg, hcells, hfz, hgl⟩, b3⟩; have bA : Below w3.heap.size w3 (w3.alloc (.cells #[.int .i64 0, .int .i64 0, .int .i64 0, .int .i64 0] 27)) := kalloc (Below.refl _ _) _; have y0 := kkeepCell (hcells 0 _ rfl) bA; have y1 := kkeepCell (hcells 1 _ rfl) bA; have y2 := kkeepCell (hcells 2 _ rfl) bA; have y3 := kkeepCell (hcells 3 _ rfl) bA; have y4 := kkeepCell (hcells 4 _ rfl) bA; have y5 := kkeepCell (hcells 5 _ rfl) bA; have fz : ∀ i, (w3.alloc (.cells #[.int .i64 0, .int .i64 0, .int .i64 0, .int .i64 0] 27)).frozen? ⟨g, i, none⟩ = false := (fun i => by (have h9 := bA.block g hgl; simp only [World.frozen?]; rw [h9]; exact hfz i)); have p1 := fz 1; have p2 := fz 2; have p3 := fz 3; have g4 := (bA.block _ (Nat.lt_of_lt_of_le hz b3.size)).trans ((b3.block _ hz).trans HE.out); have z0 := kcells_at g4 0 _ rfl; have z1 := kcells_at g4 1 _ rfl; have z2 := kcells_at g4 2 _ rfl; have z3 := kcells_at g4 3 _ rfl; have z4 := kcells_at g4 4 _ rfl; have z5 := kcells_at g4 5 _ rfl; have hgn : w.heap.size ≠ g := (by omega); have hgn2 : g ≠ w.heap.size := (by omega); have B3 := hide (ktrans (ktrans HB.out b3) bA); have HGL : Hid (w.heap.size ≤ g) := (by (show w.heap.size ≤ g; omega)); clear b3 bA g4 fz hcells hfz hgl hg))
        go_quiet (fail)
        go_wp2
        go_ret2
        exact ⟨rfl, ktrans (((B3.out.setCell HGL.out _).setCell HGL.out _).setCell HGL.out _) (below_drewN _ _)⟩
      · rw [hdc] at hdec
        go_enter Tryd.func12, Tryd.ntmps12
        go_wp2_with (first
          | (go_at_call 24; refine (hdec.out _).mono ?_; clear hdec; rintro e w2 ⟨rfl, b2⟩; have HB2 := hide (ktrans HB.out b2); have HE2 := hide ((b2.block _ hz).trans HE.out); have hz2 : w.heap.size < w2.heap.size := (by (have := b2.size; omega)); clear b2)
          | (go_at_call 8; refine (HS.out _).mono ?_; clear HS; rintro e w3 ⟨⟨g, c3, rfl, hg, hcells, hfz, hgl⟩, b3⟩; have bA : Below w3.heap.size w3 (w3.alloc (.cells #[.int .i64 0, .int .i64 0, .int .i64 0, .int .i64 0] 27)) := kalloc (Below.refl _ _) _; have y0 := kkeepCell (hcells 0 _ rfl) bA; have y1 := kkeepCell (hcells 1 _ rfl) bA; have y2 := kkeepCell (hcells 2 _ rfl) bA; have y3 := kkeepCell (hcells 3 _ rfl) bA; have y4 := kkeepCell (hcells 4 _ rfl) bA; have y5 := kkeepCell (hcells 5 _ rfl) bA; have fz : ∀ i, (w3.alloc (.cells #[.int .i64 0, .int .i64 0, .int .i64 0, .int .i64 0] 27)).frozen? ⟨g, i, none⟩ = false := (fun i => by (have h9 := bA.block g hgl; simp only [World.frozen?]; rw [h9]; exact hfz i)); have p1 := fz 1; have p2 := fz 2; have p3 := fz 3; have g4 := (bA.block _ (Nat.lt_of_lt_of_le hz2 b3.size)).trans ((b3.block _ hz2).trans HE2.out); have z0 := kcells_at g4 0 _ rfl; have z1 := kcells_at g4 1 _ rfl; have z2 := kcells_at g4 2 _ rfl; have z3 := kcells_at g4 3 _ rfl; have z4 := kcells_at g4 4 _ rfl; have z5 := kcells_at g4 5 _ rfl; have hgn : w.heap.size ≠ g := (by omega); have hgn2 : g ≠ w.heap.size := (by omega); have B3 := hide (ktrans (ktrans HB2.out b3) bA); have HGL : Hid (w.heap.size ≤ g) := (by (show w.heap.size ≤ g; omega)); clear b3 bA g4 fz hcells hfz hgl hg))
        go_quiet (fail)
        go_wp2
        go_ret2
        exact ⟨rfl, ktrans (((B3.out.setCell HGL.out _).setCell HGL.out _).setCell HGL.out _) (below_drewN _ _)⟩
      · clear hdec
        go_enter Tryd.func12, Tryd.ntmps12
        go_wp2_with (first
          | (go_at_call 8; refine (HS.out _).mono ?_; clear HS; rintro e w3 ⟨⟨g, c3, rfl, hg, hcells, hfz, hgl⟩, b3⟩; have bA : Below w3.heap.size w3 (w3.alloc (.cells #[.int .i64 0, .int .i64 0, .int .i64 0, .int .i64 0] 27)) := kalloc (Below.refl _ _) _; have y0 := kkeepCell (hcells 0 _ rfl) bA; have y1 := kkeepCell (hcells 1 _ rfl) bA; have y2 := kkeepCell (hcells 2 _ rfl) bA; have y3 := kkeepCell (hcells 3 _ rfl) bA; have y4 := kkeepCell (hcells 4 _ rfl) bA; have y5 := kkeepCell (hcells 5 _ rfl) bA; have fz : ∀ i, (w3.alloc (.cells #[.int .i64 0, .int .i64 0, .int .i64 0, .int .i64 0] 27)).frozen? ⟨g, i, none⟩ = false := (fun i => by (have h9 := bA.block g hgl; simp only [World.frozen?]; rw [h9]; exact hfz i)); have p1 := fz 1; have p2 := fz 2; have p3 := fz 3; have g4 := (bA.block _ (Nat.lt_of_lt_of_le hz b3.size)).trans ((b3.block _ hz).trans HE.out); have z0 := kcells_at g4 0 _ rfl; have z1 := kcells_at g4 1 _ rfl; have z2 := kcells_at g4 2 _ rfl; have z3 := kcells_at g4 3 _ rfl; have z4 := kcells_at g4 4 _ rfl; have z5 := kcells_at g4 5 _ rfl; have hgn : w.heap.size ≠ g := (by omega); have hgn2 : g ≠ w.heap.size := (by omega); have B3 := hide (ktrans (ktrans HB.out b3) bA); have HGL : Hid (w.heap.size ≤ g) := (by (show w.heap.size ≤ g; omega)); clear b3 bA g4 fz hcells hfz hgl hg))
        go_quiet (fail)
        go_wp2
        go_ret2
        exact ⟨rfl, ktrans (((B3.out.setCell HGL.out _).setCell HGL.out _).setCell HGL.out _) (below_drewN _ _)⟩
end Go.Proofs.YthpkjehoogodkaaDoor
