/- The walk of the statement on going through texts again. -/
import Derived.Test.YtpbebcefnkbnlabDoorTPadMath
namespace Go.Proofs.YtpbebcefnkbnlabDoor
open Go.RowKit
attribute [local go_sem] Oper.semAt_some

/-- What is counted of T when one leaves at st. -/
def cnt (st : Int) (T : Nat) : Int := if 0 < st then min (T : Int) st else T

/-- What the statement's own blocks hold. -/
structure Bs (w : World) (s : ByteArray) (st : Int) (W : World) : Prop where
  stop : Boxed W w.heap.size 3 (.int .i64 st)
  rs : Boxed W (w.heap.size + 1) 9 (.string s)
  ls : Boxed W (w.heap.size + 2) 9 (.string s)
  bel : Below w.heap.size w W
theorem boxed_below {W W' : World} {b k : Nat} {t : TypeId} {v : Value} (h : Boxed W k t v) (hb : Below b W W') (hk : k < b) : Boxed W' k t v := (hb.block k hk).trans h
theorem Bs.below {w : World} {s : ByteArray} {st : Int} {W W' : World} {b : Nat} (h : Bs w s st W) (hb : Below b W W') (h3 : w.heap.size + 3 ≤ b) : Bs w s st W' :=
  ⟨boxed_below h.stop hb (by omega), boxed_below h.rs hb (by omega), boxed_below h.ls hb (by omega), h.bel.trans (hb.mono (by omega))⟩
theorem Bs.alloc {w : World} {s : ByteArray} {st : Int} {W : World} (h : Bs w s st W) (o : Obj) : Bs w s st (W.alloc o) :=
  ⟨h.stop.alloc o, h.rs.alloc o, h.ls.alloc o, h.bel.alloc h.bel.size o⟩
theorem ct_own {α : Type} {A : Nat} {KA : Obj → Prop} (W0 : World) (b : Nat) (hb : W0.heap.size = b + 1) (hA : b < A) (f : α → Int) (Pp : α → Prop) :
    OwnB W0.heap.size A KA (fun (x : α) W => Boxed W b 3 (.int .i64 (f x)) ∧ Below b W0 W ∧ Pp x) := by
  rintro x X Y row ⟨h1, h2, h3⟩ hg hr
  exact ⟨heldB h1 rfl (by omega) hg hr, h2.grown hg (by have := h2.size; omega) (fun k e => by have := (hr k e).1; omega), h3⟩
theorem below_put {W0 W : World} {b : Nat} (h : Below b W0 W) (hb : b ≤ W0.heap.size) (v : Value) : Below b W0 (W.setCell ⟨b, 0, none⟩ v) :=
  h.grown (grown_set W b 0 v) (by have := h.size; omega) (fun k e => by cases e; exact Nat.le_refl _)

theorem inBlock_same {id : Nat} {Q : Exit → Act → World → Prop} {a : Act} {W : World} (h : Exit.inBlock id Q .normal a W) : Exit.inBlock id Q (.exit id) a W := by
  show (if id = id then Q .normal a W else Q (.exit id) a W)
  rw [if_pos rfl]
  exact h
/-- One has not left yet; one has left. -/
def Pn (st : Int) (n : Nat) : Prop := ¬ (0 < st ∧ st ≤ (n : Int))
def Ps (st : Int) (T : Nat) : Prop := 0 < st ∧ st ≤ (T : Int)
theorem cnt_all {st : Int} {T : Nat} (h : Pn st T) : cnt st T = (T : Int) := by
  unfold Pn at h
  unfold cnt
  split <;> omega
theorem cnt_left {st : Int} {T : Nat} (h : Ps st T) : cnt st T = st := by
  unfold Ps at h
  unfold cnt
  rw [if_pos h.1]
  omega
theorem dfr_below {W W' : World} {b k : Nat} {o : Obj} (h : W.heap[k]? = some o) (hb : Below b W W') (hk : k < b) : W'.heap[k]? = some o := (hb.block k hk).trans h

set_option maxRecDepth 100000 in
set_option maxHeartbeats 4000000 in
theorem textAgain_neg (s : ByteArray) (hs : s.size ≤ 1048576) (st : Int) (hst0 : st ≤ 0) (w : World) (ht : Tabs w) :
    Calls Tryd.prog 7 #[.string s, .int .i64 st] w fun e w' => e = .returned (.bool true) ∧ Below w.heap.size w w' := by
  have hWd := refWidth_k s hs
  have hLn := refLines_k s hs
  have hal := alive_k
  have hT1 := els_length s.data.toList
  have hT2 : (lines s.data.toList).length = (lns [] s.data.toList).length := by rw [lines, numd_length]
  have hn1 := runesNil
  have hn2 := linesNil
  have hlen : s.data.toList.length = s.size := by rw [Array.length_toList]; rfl
  have hlim1 : (els s.data.toList).length ≤ 1048576 := by
    rw [els_length]
    have := ru_length_le s.data.toList
    omega
  have hlim2 : (lines s.data.toList).length ≤ 1048577 := by
    rw [lines, numd_length]
    have := lns_len s.data.toList []
    omega
  refine (callsIn_wide (n := 9)).1 ?_
  refine callsIn_of_wp_marks Tryd.func7 rfl trivial ?_ rfl
  simp only [Tryd.ntmps7, List.size_toArray, List.length_cons, List.length_nil, Nat.reduceAdd, Nat.reduceSub, Array.replicate_succ, Array.replicate_zero, List.push_toArray, List.append_toArray, List.nil_append, List.cons_append]
  gi_wp2_with (first
    | (refine ⟨trivial, ?_⟩; gi_at_call 25; refine (callsIn_wide.2 (runesMake_k s _)).mono ?_; rintro e w1 ⟨rfl, rfl⟩)
    | (refine ⟨trivial, ?_⟩; gi_at_call 26; refine (callsIn_wide.2 (linesMake_k s _)).mono ?_; rintro e w1 ⟨rfl, rfl⟩))
  clear hn1 hn2
  obtain ⟨V0, hV0⟩ : ∃ V0, ((((w.alloc (.cells #[.int .i64 st] 3)).alloc (.cells #[.string s] 9)).alloc (.cells #[.string s] 9)).alloc (.cells #[.int .i64 0] 3)) = V0 := ⟨_, rfl⟩
  have hz0 : V0.heap.size = w.heap.size + 4 := by rw [← hV0]; simp
  have B0 : Bs w s st V0 := by
    rw [← hV0]
    have a1 := Boxed.new w 3 (.int .i64 st)
    have a2 := Boxed.new (w.alloc (.cells #[.int .i64 st] 3)) 9 (.string s)
    have a3 := Boxed.new ((w.alloc (.cells #[.int .i64 st] 3)).alloc (.cells #[.string s] 9)) 9 (.string s)
    simp only [World.size_alloc] at a2 a3
    exact ⟨((a1.alloc _).alloc _).alloc _, (a2.alloc _).alloc _, a3.alloc _, ((((Below.refl _ w).alloc (Nat.le_refl _) _).alloc (by simp) _).alloc (by simp; omega) _).alloc (by simp; omega) _⟩
  have i0 : Boxed V0 (w.heap.size + 3) 3 (.int .i64 0) := by
    rw [← hV0]
    have a4 := Boxed.new (((w.alloc (.cells #[.int .i64 st] 3)).alloc (.cells #[.string s] 9)).alloc (.cells #[.string s] 9)) 3 (.int .i64 0)
    simp only [World.size_alloc] at a4
    exact a4
  simp only [Nat.add_assoc, Nat.reduceAdd]
  rw [hV0]
  clear hV0
  refine wpIn_loop_rounds 3 ?_
  rw [roundsIn_succ]
  have ci0 := i0.cell
  have HT1 := hide hT1
  have HT2 := hide hT2
  have HL1 := hide hlim1
  have HL2 := hide hlim2
  clear hT1 hT2 hlen
  gi_wp2
  have BX1 := B0
  have iX1 := i0
  obtain ⟨b1, hbX1⟩ : ∃ b1, V0.heap.size = b1 := ⟨_, rfl⟩
  have hb1 : w.heap.size + 4 = b1 := by omega
  clear ci0
  obtain ⟨W1, hW1⟩ : ∃ W1, V0.alloc (.cells #[.int .i64 0] 3) = W1 := ⟨_, rfl⟩
  have hz1 : W1.heap.size = b1 + 1 := by rw [← hW1, World.size_alloc]; omega
  have BW1 : Bs w s st W1 := by rw [← hW1]; exact BX1.alloc _
  have iW1 : Boxed W1 (w.heap.size + 3) 3 (.int .i64 0) := by rw [← hW1]; exact iX1.alloc _
  have nW1 : Boxed W1 b1 3 (.int .i64 0) := by
    rw [← hW1]
    have := Boxed.new V0 3 (.int .i64 0)
    rwa [hbX1] at this
  rw [hW1]
  have hXW1 : Below V0.heap.size V0 W1 := by rw [← hW1]; exact (Below.refl _ _).alloc (Nat.le_refl _) _
  rw [hbX1] at hXW1
  clear hW1
  refine (fun (H : ∀ W : World, Boxed W b1 3 (.int .i64 (((els s.data.toList).length : Nat))) → Below b1 W1 W → W.heap[W1.heap.size]? = some (.deferred (some [])) → (_ : Exit → Act → World → Prop) .normal _ W) =>
    seq_law (gf := 46) (lb := #[.pointer (some ⟨w.heap.size + 1, 0, none⟩)]) rfl (enters_of Tryd.func46 (by kernel_rfl) rfl) (sb := w.heap.size + 1) (A := W1.heap.size + 3) (by omega) (by omega)
    (runes_seq _ s (by omega) _ W1 BW1.rs) (fun _ => rfl)
    (fun pre W => Boxed W b1 3 (.int .i64 (pre.length : Nat)) ∧ Below b1 W1 W ∧ True)
    (fun _ _ _ => False)
    (ct_own W1 b1 hz1 (by omega) (fun pre => ((List.length pre : Nat) : Int)) (fun _ => True))
    (fun _ _ _ _ _ h _ _ => h)
    ⟨nW1, Below.refl _ _, trivial⟩ ?round1
    (fun W h hK => H W h.1 h.2.1 hK)
    (fun _ _ _ _ _ h _ => h.elim)) ?H1
  case round1 =>
    rintro l pre x W ⟨h1, h2, h3⟩ ⟨post, hpost⟩ hAW _
    have hpl : pre.length + 1 ≤ (els s.data.toList).length := by rw [hpost]; simp
    have hpl2 : pre.length + 1 ≤ 1048577 := by omega
    have HP := hide hpl
    have H3 := hide h3
    clear hpost hpl h3 post
    dsimp only [elV]
    gi_wp2
    refine ⟨Kept.refl _ _ _ _, fun _ W₂ => Boxed W₂ b1 3 (.int .i64 (pre.length : Nat)) ∧ Below b1 W1 W₂, ?_, ⟨h1, h2⟩, ?_⟩
    · rintro _ X Y row ⟨h1, h2⟩ hg hr
      exact ⟨heldB h1 rfl (by omega) hg hr, h2.grown hg (by have := h2.size; omega) (fun k e => by have := (hr k e).1; omega)⟩
    clear h1 h2
    rintro W₂ ⟨h1, h2⟩ hAW2 _ _ _
    have c1 := h1.cell
    have c1f := h1.frozen
    have k1 := h1.set (.int .i64 ((pre.length : Int) + 1))
    have ck := k1.cell
    have bp := below_put h2 (by omega) (.int .i64 ((pre.length : Int) + 1))
    have ci := (boxed_below iW1 bp (by omega)).cell
    have cs := (boxed_below BW1.stop bp (by omega)).cell
    have hKK : Kept (b1 + 1) (w.heap.size + 1) (b1 + 1 + 3) W₂ (W₂.setCell ⟨b1, 0, none⟩ (.int .i64 ((pre.length : Int) + 1))) := Kept.grown (grown_set W₂ _ 0 _) (fun r e => by cases e; exact ⟨by omega, by omega, .inl (by omega)⟩)
    have k2 : Boxed (W₂.setCell ⟨b1, 0, none⟩ (.int .i64 ((pre.length : Int) + 1))) b1 3 (.int .i64 ((pre ++ [x]).length : Nat)) := by
      have e : (((pre ++ [x]).length : Nat) : Int) = (pre.length : Int) + 1 := by simp
      rw [e]
      exact k1
    have hst' : (((pre.length : Int) + 1) == st) = false := beq_eq_false_iff_ne.2 (by omega)
    gi_wp2
    (try rw [hz1])
    first
      | exact ⟨hKK, k2, bp, trivial⟩
      | exact ⟨hKK, k2, bp⟩
  case H1 =>
    intro Y1 cY1 bY1 dY1
    rw [hz1] at dY1
    have BY1 : Bs w s st Y1 := BW1.below bY1 (by omega)
    have iY1 : Boxed Y1 (w.heap.size + 3) 3 (.int .i64 0) := boxed_below iW1 bY1 (by omega)
    have ltY1 : b1 + 1 < Y1.heap.size := (Array.getElem?_eq_some_iff.1 dY1).1
    have cZ1 := iY1.cell
    gi_wp2
    have BX2 := BY1
    have iX2 := iY1
    obtain ⟨b2, hbX2⟩ : ∃ b2, Y1.heap.size = b2 := ⟨_, rfl⟩
    have hb2 : b1 + 1 < b2 := by omega
    clear cZ1
    obtain ⟨W2, hW2⟩ : ∃ W2, Y1.alloc (.cells #[.int .i64 0] 3) = W2 := ⟨_, rfl⟩
    have hz2 : W2.heap.size = b2 + 1 := by rw [← hW2, World.size_alloc]; omega
    have BW2 : Bs w s st W2 := by rw [← hW2]; exact BX2.alloc _
    have iW2 : Boxed W2 (w.heap.size + 3) 3 (.int .i64 0) := by rw [← hW2]; exact iX2.alloc _
    have nW2 : Boxed W2 b2 3 (.int .i64 0) := by
      rw [← hW2]
      have := Boxed.new Y1 3 (.int .i64 0)
      rwa [hbX2] at this
    rw [hW2]
    have hXW2 : Below Y1.heap.size Y1 W2 := by rw [← hW2]; exact (Below.refl _ _).alloc (Nat.le_refl _) _
    rw [hbX2] at hXW2
    clear hW2
    refine (fun (H : ∀ W : World, Boxed W b2 3 (.int .i64 (((lines s.data.toList).length : Nat))) → Below b2 W2 W → W.heap[W2.heap.size]? = some (.deferred (some [])) → (_ : Exit → Act → World → Prop) .normal _ W) =>
      seq_law (gf := 50) (lb := #[.pointer (some ⟨w.heap.size + 2, 0, none⟩)]) rfl (enters_of Tryd.func50 (by kernel_rfl) rfl) (sb := w.heap.size + 2) (A := W2.heap.size + 2) (by omega) (by omega)
      (lines_seq _ s (by omega) _ W2 BW2.ls) (fun _ => rfl)
      (fun pre W => Boxed W b2 3 (.int .i64 (pre.length : Nat)) ∧ Below b2 W2 W ∧ True)
      (fun _ _ _ => False)
      (ct_own W2 b2 hz2 (by omega) (fun pre => ((List.length pre : Nat) : Int)) (fun _ => True))
      (fun _ _ _ _ _ h _ _ => h)
      ⟨nW2, Below.refl _ _, trivial⟩ ?round2
      (fun W h hK => H W h.1 h.2.1 hK)
      (fun _ _ _ _ _ h _ => h.elim)) ?H2
    case round2 =>
      rintro l pre x W ⟨h1, h2, h3⟩ ⟨post, hpost⟩ hAW _
      have hpl : pre.length + 1 ≤ (lines s.data.toList).length := by rw [hpost]; simp
      have hpl2 : pre.length + 1 ≤ 1048577 := by omega
      have HP := hide hpl
      have H3 := hide h3
      clear hpost hpl h3 post
      dsimp only [lineV]
      gi_wp2
      refine ⟨Kept.refl _ _ _ _, fun _ W₂ => Boxed W₂ b2 3 (.int .i64 (pre.length : Nat)) ∧ Below b2 W2 W₂, ?_, ⟨h1, h2⟩, ?_⟩
      · rintro _ X Y row ⟨h1, h2⟩ hg hr
        exact ⟨heldB h1 rfl (by omega) hg hr, h2.grown hg (by have := h2.size; omega) (fun k e => by have := (hr k e).1; omega)⟩
      clear h1 h2
      rintro W₂ ⟨h1, h2⟩ hAW2 _ _
      have c1 := h1.cell
      have c1f := h1.frozen
      have k1 := h1.set (.int .i64 ((pre.length : Int) + 1))
      have ck := k1.cell
      have bp := below_put h2 (by omega) (.int .i64 ((pre.length : Int) + 1))
      have ci := (boxed_below iW2 bp (by omega)).cell
      have cs := (boxed_below BW2.stop bp (by omega)).cell
      have hKK : Kept (b2 + 1) (w.heap.size + 2) (b2 + 1 + 2) W₂ (W₂.setCell ⟨b2, 0, none⟩ (.int .i64 ((pre.length : Int) + 1))) := Kept.grown (grown_set W₂ _ 0 _) (fun r e => by cases e; exact ⟨by omega, by omega, .inl (by omega)⟩)
      have k2 : Boxed (W₂.setCell ⟨b2, 0, none⟩ (.int .i64 ((pre.length : Int) + 1))) b2 3 (.int .i64 ((pre ++ [x]).length : Nat)) := by
        have e : (((pre ++ [x]).length : Nat) : Int) = (pre.length : Int) + 1 := by simp
        rw [e]
        exact k1
      have hst' : (((pre.length : Int) + 1) == st) = false := beq_eq_false_iff_ne.2 (by omega)
      gi_wp2
      (try rw [hz2])
      first
        | exact ⟨hKK, k2, bp, trivial⟩
        | exact ⟨hKK, k2, bp⟩
    case H2 =>
      intro Y2 cY2 bY2 dY2
      rw [hz2] at dY2
      have BY2 : Bs w s st Y2 := BW2.below bY2 (by omega)
      have iY2 : Boxed Y2 (w.heap.size + 3) 3 (.int .i64 0) := boxed_below iW2 bY2 (by omega)
      have ltY2 : b2 + 1 < Y2.heap.size := (Array.getElem?_eq_some_iff.1 dY2).1
      have nY2 : Boxed Y2 b1 3 (.int .i64 (((ru s.data.toList).length : Int))) := by
        have e : ((els s.data.toList).length : Int) = ((ru s.data.toList).length : Int) := (by rw [HT1.out])
        rw [← e]
        exact boxed_below (boxed_below cY1 hXW2 (by omega)) bY2 (by omega)
      have mY2 : Boxed Y2 b2 3 (.int .i64 (((lns [] s.data.toList).length : Int))) := by
        have e : ((lines s.data.toList).length : Int) = ((lns [] s.data.toList).length : Int) := (by rw [HT2.out])
        rw [← e]
        exact cY2
      have d1Y2 := dfr_below (dfr_below dY1 hXW2 (by omega)) bY2 (by omega)
      clear cY1 cY2 dY1
      generalize (ru s.data.toList).length = T1 at *
      generalize lns [] s.data.toList = x2 at *
      have hqq : ∀ z : Int, (z == z) = true := fun z => by simp
      gi_wp2_with (first
        | (refine ⟨trivial, ?_⟩; gi_at_call 27; refine (callsIn_wide.2 (hWd _)).mono ?_; rintro e Z1 ⟨rfl, bz1⟩)
        | (refine ⟨trivial, ?_⟩; gi_at_call 28; refine (callsIn_wide.2 (hLn _)).mono ?_; rintro e Z2 ⟨vl, rfl, hrow, bz2⟩; obtain ⟨al, cl, rfl⟩ := row_slice hrow; have hZ := bz1.trans (bz2.mono bz1.size); have ciZ := (boxed_below iY2 hZ (by omega)).cell; have csZ := (boxed_below BY2.stop hZ (by omega)).cell; have cnZ := (boxed_below nY2 hZ (by omega)).cell; have cmZ := (boxed_below mY2 hZ (by omega)).cell))
      obtain ⟨j2, hj2⟩ : ∃ j2, Z2.heap.size = j2 := ⟨_, rfl⟩
      obtain ⟨U2, hU2⟩ : ∃ U2, Z2.alloc (.cells #[.int .i64 1] 3) = U2 := ⟨_, rfl⟩
      have hzU : U2.heap.size = j2 + 1 := by
        rw [← hU2]
        show (Z2.alloc (.cells #[.int .i64 1] 3)).heap.size = j2 + 1
        rw [World.size_alloc]
        exact congrArg (· + 1) hj2
      have hZU : Below Y2.heap.size Y2 U2 := by rw [← hU2]; exact hZ.alloc hZ.size _
      have iU : Boxed U2 j2 3 (.int .i64 1) := by
        rw [← hU2, ← hj2]
        exact Boxed.new Z2 3 (.int .i64 1)
      have BU : Bs w s st U2 := BY2.below hZU (by omega)
      have dU1 := dfr_below d1Y2 hZU (by omega)
      have dU2 := dfr_below dY2 hZU (by omega)
      have hjj : Y2.heap.size ≤ j2 := by rw [← hj2]; exact hZ.size
      rw [hU2, hj2]
      clear hU2 ciZ csZ cnZ cmZ hrow bz1 bz2 hZ hZU d1Y2 dY2 nY2 mY2 iY2 BY2
      rw [roundsIn_succ]
      have ciU := iU.cell
      gi_wp2
      have BX3 := BU
      have iX3 := iU
      obtain ⟨b3, hbX3⟩ : ∃ b3, U2.heap.size = b3 := ⟨_, rfl⟩
      have hb3 : j2 < b3 := by omega
      have hb3e : j2 + 1 = b3 := by omega
      clear ciU
      obtain ⟨W3, hW3⟩ : ∃ W3, U2.alloc (.cells #[.int .i64 0] 3) = W3 := ⟨_, rfl⟩
      have hz3 : W3.heap.size = b3 + 1 := by rw [← hW3, World.size_alloc]; omega
      have BW3 : Bs w s st W3 := by rw [← hW3]; exact BX3.alloc _
      have iW3 : Boxed W3 j2 3 (.int .i64 1) := by rw [← hW3]; exact iX3.alloc _
      have nW3 : Boxed W3 b3 3 (.int .i64 0) := by
        rw [← hW3]
        have := Boxed.new U2 3 (.int .i64 0)
        rwa [hbX3] at this
      rw [hW3]
      have hXW3 : Below U2.heap.size U2 W3 := by rw [← hW3]; exact (Below.refl _ _).alloc (Nat.le_refl _) _
      rw [hbX3] at hXW3
      clear hW3
      refine (fun (H : ∀ W : World, Boxed W b3 3 (.int .i64 (((els s.data.toList).length : Nat))) → Below b3 W3 W → W.heap[W3.heap.size]? = some (.deferred (some [])) → (_ : Exit → Act → World → Prop) .normal _ W) =>
        seq_law (gf := 46) (lb := #[.pointer (some ⟨w.heap.size + 1, 0, none⟩)]) rfl (enters_of Tryd.func46 (by kernel_rfl) rfl) (sb := w.heap.size + 1) (A := W3.heap.size + 3) (by omega) (by omega)
        (runes_seq _ s (by omega) _ W3 BW3.rs) (fun _ => rfl)
        (fun pre W => Boxed W b3 3 (.int .i64 (pre.length : Nat)) ∧ Below b3 W3 W ∧ True)
        (fun _ _ _ => False)
        (ct_own W3 b3 hz3 (by omega) (fun pre => ((List.length pre : Nat) : Int)) (fun _ => True))
        (fun _ _ _ _ _ h _ _ => h)
        ⟨nW3, Below.refl _ _, trivial⟩ ?round3
        (fun W h hK => H W h.1 h.2.1 hK)
        (fun _ _ _ _ _ h _ => h.elim)) ?H3
      case round3 =>
        rintro l pre x W ⟨h1, h2, h3⟩ ⟨post, hpost⟩ hAW _
        have hpl : pre.length + 1 ≤ (els s.data.toList).length := by rw [hpost]; simp
        have hpl2 : pre.length + 1 ≤ 1048577 := by omega
        have HP := hide hpl
        have H3 := hide h3
        clear hpost hpl h3 post
        dsimp only [elV]
        gi_wp2
        refine ⟨Kept.refl _ _ _ _, fun _ W₂ => Boxed W₂ b3 3 (.int .i64 (pre.length : Nat)) ∧ Below b3 W3 W₂, ?_, ⟨h1, h2⟩, ?_⟩
        · rintro _ X Y row ⟨h1, h2⟩ hg hr
          exact ⟨heldB h1 rfl (by omega) hg hr, h2.grown hg (by have := h2.size; omega) (fun k e => by have := (hr k e).1; omega)⟩
        clear h1 h2
        rintro W₂ ⟨h1, h2⟩ hAW2 _ _ _
        have c1 := h1.cell
        have c1f := h1.frozen
        have k1 := h1.set (.int .i64 ((pre.length : Int) + 1))
        have ck := k1.cell
        have bp := below_put h2 (by omega) (.int .i64 ((pre.length : Int) + 1))
        have ci := (boxed_below iW3 bp (by omega)).cell
        have cs := (boxed_below BW3.stop bp (by omega)).cell
        have hKK : Kept (b3 + 1) (w.heap.size + 1) (b3 + 1 + 3) W₂ (W₂.setCell ⟨b3, 0, none⟩ (.int .i64 ((pre.length : Int) + 1))) := Kept.grown (grown_set W₂ _ 0 _) (fun r e => by cases e; exact ⟨by omega, by omega, .inl (by omega)⟩)
        have k2 : Boxed (W₂.setCell ⟨b3, 0, none⟩ (.int .i64 ((pre.length : Int) + 1))) b3 3 (.int .i64 ((pre ++ [x]).length : Nat)) := by
          have e : (((pre ++ [x]).length : Nat) : Int) = (pre.length : Int) + 1 := by simp
          rw [e]
          exact k1
        gi_wp2
        (try rw [hz3])
        first
          | exact ⟨hKK, k2, bp, trivial⟩
          | exact ⟨hKK, k2, bp⟩
      case H3 =>
        intro Y3 cY3 bY3 dY3
        rw [hz3] at dY3
        have BY3 : Bs w s st Y3 := BW3.below bY3 (by omega)
        have iY3 : Boxed Y3 j2 3 (.int .i64 1) := boxed_below iW3 bY3 (by omega)
        have ltY3 : b3 + 1 < Y3.heap.size := (Array.getElem?_eq_some_iff.1 dY3).1
        have cZ3 := iY3.cell
        gi_wp2
        have BX4 := BY3
        have iX4 := iY3
        obtain ⟨b4, hbX4⟩ : ∃ b4, Y3.heap.size = b4 := ⟨_, rfl⟩
        have hb4 : b3 + 1 < b4 := by omega
        clear cZ3
        obtain ⟨W4, hW4⟩ : ∃ W4, Y3.alloc (.cells #[.int .i64 0] 3) = W4 := ⟨_, rfl⟩
        have hz4 : W4.heap.size = b4 + 1 := by rw [← hW4, World.size_alloc]; omega
        have BW4 : Bs w s st W4 := by rw [← hW4]; exact BX4.alloc _
        have iW4 : Boxed W4 j2 3 (.int .i64 1) := by rw [← hW4]; exact iX4.alloc _
        have nW4 : Boxed W4 b4 3 (.int .i64 0) := by
          rw [← hW4]
          have := Boxed.new Y3 3 (.int .i64 0)
          rwa [hbX4] at this
        rw [hW4]
        have hXW4 : Below Y3.heap.size Y3 W4 := by rw [← hW4]; exact (Below.refl _ _).alloc (Nat.le_refl _) _
        rw [hbX4] at hXW4
        clear hW4
        refine (fun (H : ∀ W : World, Boxed W b4 3 (.int .i64 (((lines s.data.toList).length : Nat))) → Below b4 W4 W → W.heap[W4.heap.size]? = some (.deferred (some [])) → (_ : Exit → Act → World → Prop) .normal _ W) =>
          seq_law (gf := 50) (lb := #[.pointer (some ⟨w.heap.size + 2, 0, none⟩)]) rfl (enters_of Tryd.func50 (by kernel_rfl) rfl) (sb := w.heap.size + 2) (A := W4.heap.size + 2) (by omega) (by omega)
          (lines_seq _ s (by omega) _ W4 BW4.ls) (fun _ => rfl)
          (fun pre W => Boxed W b4 3 (.int .i64 (pre.length : Nat)) ∧ Below b4 W4 W ∧ True)
          (fun _ _ _ => False)
          (ct_own W4 b4 hz4 (by omega) (fun pre => ((List.length pre : Nat) : Int)) (fun _ => True))
          (fun _ _ _ _ _ h _ _ => h)
          ⟨nW4, Below.refl _ _, trivial⟩ ?round4
          (fun W h hK => H W h.1 h.2.1 hK)
          (fun _ _ _ _ _ h _ => h.elim)) ?H4
        case round4 =>
          rintro l pre x W ⟨h1, h2, h3⟩ ⟨post, hpost⟩ hAW _
          have hpl : pre.length + 1 ≤ (lines s.data.toList).length := by rw [hpost]; simp
          have hpl2 : pre.length + 1 ≤ 1048577 := by omega
          have HP := hide hpl
          have H3 := hide h3
          clear hpost hpl h3 post
          dsimp only [lineV]
          gi_wp2
          refine ⟨Kept.refl _ _ _ _, fun _ W₂ => Boxed W₂ b4 3 (.int .i64 (pre.length : Nat)) ∧ Below b4 W4 W₂, ?_, ⟨h1, h2⟩, ?_⟩
          · rintro _ X Y row ⟨h1, h2⟩ hg hr
            exact ⟨heldB h1 rfl (by omega) hg hr, h2.grown hg (by have := h2.size; omega) (fun k e => by have := (hr k e).1; omega)⟩
          clear h1 h2
          rintro W₂ ⟨h1, h2⟩ hAW2 _ _
          have c1 := h1.cell
          have c1f := h1.frozen
          have k1 := h1.set (.int .i64 ((pre.length : Int) + 1))
          have ck := k1.cell
          have bp := below_put h2 (by omega) (.int .i64 ((pre.length : Int) + 1))
          have ci := (boxed_below iW4 bp (by omega)).cell
          have cs := (boxed_below BW4.stop bp (by omega)).cell
          have hKK : Kept (b4 + 1) (w.heap.size + 2) (b4 + 1 + 2) W₂ (W₂.setCell ⟨b4, 0, none⟩ (.int .i64 ((pre.length : Int) + 1))) := Kept.grown (grown_set W₂ _ 0 _) (fun r e => by cases e; exact ⟨by omega, by omega, .inl (by omega)⟩)
          have k2 : Boxed (W₂.setCell ⟨b4, 0, none⟩ (.int .i64 ((pre.length : Int) + 1))) b4 3 (.int .i64 ((pre ++ [x]).length : Nat)) := by
            have e : (((pre ++ [x]).length : Nat) : Int) = (pre.length : Int) + 1 := by simp
            rw [e]
            exact k1
          gi_wp2
          (try rw [hz4])
          first
            | exact ⟨hKK, k2, bp, trivial⟩
            | exact ⟨hKK, k2, bp⟩
        case H4 =>
          intro Y4 cY4 bY4 dY4
          rw [hz4] at dY4
          have BY4 : Bs w s st Y4 := BW4.below bY4 (by omega)
          have iY4 : Boxed Y4 j2 3 (.int .i64 1) := boxed_below iW4 bY4 (by omega)
          have ltY4 : b4 + 1 < Y4.heap.size := (Array.getElem?_eq_some_iff.1 dY4).1
          have nY4 : Boxed Y4 b3 3 (.int .i64 ((T1 : Int))) := by
            have e : ((els s.data.toList).length : Int) = (T1 : Int) := (by rw [HT1.out])
            rw [← e]
            exact boxed_below (boxed_below cY3 hXW4 (by omega)) bY4 (by omega)
          have mY4 : Boxed Y4 b4 3 (.int .i64 ((x2.length : Int))) := by
            have e : ((lines s.data.toList).length : Int) = (x2.length : Int) := (by rw [HT2.out])
            rw [← e]
            exact cY4
          have d1 := dfr_below (dfr_below (dfr_below (dfr_below dU1 hXW3 (by omega)) bY3 (by omega)) hXW4 (by omega)) bY4 (by omega)
          have d2 := dfr_below (dfr_below (dfr_below (dfr_below dU2 hXW3 (by omega)) bY3 (by omega)) hXW4 (by omega)) bY4 (by omega)
          have d3 := dfr_below (dfr_below dY3 hXW4 (by omega)) bY4 (by omega)
          clear cY3 cY4 dY3
          gi_wp2_with (first
            | (refine ⟨trivial, ?_⟩; gi_at_call 27; refine (callsIn_wide.2 (hWd _)).mono ?_; rintro e Z3 ⟨rfl, bz1⟩)
            | (refine ⟨trivial, ?_⟩; gi_at_call 28; refine (callsIn_wide.2 (hLn _)).mono ?_; rintro e Z4 ⟨vl, rfl, hrow, bz2⟩; obtain ⟨al2, cl2, rfl⟩ := row_slice hrow; have hZ4 := bz1.trans (bz2.mono bz1.size); have ciZ := (boxed_below iY4 hZ4 (by omega)).cell; have csZ := (boxed_below BY4.stop hZ4 (by omega)).cell; have cnZ := (boxed_below nY4 hZ4 (by omega)).cell; have cmZ := (boxed_below mY4 hZ4 (by omega)).cell))
          obtain ⟨j4, hj4⟩ : ∃ j4, Z4.heap.size = j4 := ⟨_, rfl⟩
          obtain ⟨U4, hU4⟩ : ∃ U4, Z4.alloc (.cells #[.int .i64 2] 3) = U4 := ⟨_, rfl⟩
          have hZU4 : Below Y4.heap.size Y4 U4 := by rw [← hU4]; exact hZ4.alloc hZ4.size _
          have iU4 : Boxed U4 j4 3 (.int .i64 2) := by
            rw [← hU4, ← hj4]
            exact Boxed.new Z4 3 (.int .i64 2)
          have BU4 : Bs w s st U4 := BY4.below hZU4 (by omega)
          rw [hU4, hj4]
          clear hU4 ciZ csZ cnZ cmZ hrow
          rw [roundsIn_succ]
          have ciU4 := iU4.cell
          have tU4 := ht.below BU4.bel
          gi_wp2_with (refine ⟨trivial, ?_⟩; gi_at_call 13; refine (callsIn_wide.2 (hal _ tU4)).mono ?_; rintro e Z5 ⟨rfl, bz5⟩)
          have hZ5 : Below Y4.heap.size Y4 Z5 := hZU4.trans (bz5.mono hZU4.size)
          have k4 := dfr_below dY4 hZ5 (by omega)
          have k3 := dfr_below d3 hZ5 (by omega)
          have k2 := dfr_below d2 hZ5 (by omega)
          have k1 := dfr_below d1 hZ5 (by omega)
          have bw5 : Below w.heap.size w Z5 := BU4.bel.trans (bz5.mono BU4.bel.size)
          have p3 : (Z5.putObj (b4 + 1) (.deferred none)).heap[b3 + 1]? = some (.deferred (some [])) := (World.putObj_heap_other (by omega)).trans k3
          have p2 : ((Z5.putObj (b4 + 1) (.deferred none)).putObj (b3 + 1) (.deferred none)).heap[b2 + 1]? = some (.deferred (some [])) := (World.putObj_heap_other (by omega)).trans ((World.putObj_heap_other (by omega)).trans k2)
          have p1 : (((Z5.putObj (b4 + 1) (.deferred none)).putObj (b3 + 1) (.deferred none)).putObj (b2 + 1) (.deferred none)).heap[b1 + 1]? = some (.deferred (some [])) := (World.putObj_heap_other (by omega)).trans ((World.putObj_heap_other (by omega)).trans ((World.putObj_heap_other (by omega)).trans k1))
          refine ⟨by simp, .inl ⟨_, _, rfl, run_takeDeferred k4, ⟨by simp, .inl ⟨_, _, rfl, run_takeDeferred p3, ⟨by simp, .inl ⟨_, _, rfl, run_takeDeferred p2, ⟨by simp, .inl ⟨_, _, rfl, run_takeDeferred p1, ?_⟩⟩⟩⟩⟩⟩⟩⟩
          exact ⟨_, results_tmp rfl _ _ _, rfl, (((bw5.trans (belowK_b (w := w) (Nat.le_refl _) _ _ _ _ (by omega) k4 rfl rfl)).trans (belowK_b (w := w) (Nat.le_refl _) _ _ _ _ (by omega) p3 rfl rfl)).trans (belowK_b (w := w) (Nat.le_refl _) _ _ _ _ (by omega) p2 rfl rfl)).trans (belowK_b (w := w) (Nat.le_refl _) _ _ _ _ (by omega) p1 rfl rfl)⟩

set_option maxRecDepth 100000 in
set_option maxHeartbeats 4000000 in
theorem textAgain_pos (s : ByteArray) (hs : s.size ≤ 1048576) (st : Int) (hst0 : 0 < st) (w : World) (ht : Tabs w) :
    Calls Tryd.prog 7 #[.string s, .int .i64 st] w fun e w' => e = .returned (.bool true) ∧ Below w.heap.size w w' := by
  have hWd := refWidth_k s hs
  have hLn := refLines_k s hs
  have hal := alive_k
  have hT1 := els_length s.data.toList
  have hT2 : (lines s.data.toList).length = (lns [] s.data.toList).length := by rw [lines, numd_length]
  have hn1 := runesNil
  have hn2 := linesNil
  have hlen : s.data.toList.length = s.size := by rw [Array.length_toList]; rfl
  have hlim1 : (els s.data.toList).length ≤ 1048576 := by
    rw [els_length]
    have := ru_length_le s.data.toList
    omega
  have hlim2 : (lines s.data.toList).length ≤ 1048577 := by
    rw [lines, numd_length]
    have := lns_len s.data.toList []
    omega
  refine (callsIn_wide (n := 9)).1 ?_
  refine callsIn_of_wp_marks Tryd.func7 rfl trivial ?_ rfl
  simp only [Tryd.ntmps7, List.size_toArray, List.length_cons, List.length_nil, Nat.reduceAdd, Nat.reduceSub, Array.replicate_succ, Array.replicate_zero, List.push_toArray, List.append_toArray, List.nil_append, List.cons_append]
  gi_wp2_with (first
    | (refine ⟨trivial, ?_⟩; gi_at_call 25; refine (callsIn_wide.2 (runesMake_k s _)).mono ?_; rintro e w1 ⟨rfl, rfl⟩)
    | (refine ⟨trivial, ?_⟩; gi_at_call 26; refine (callsIn_wide.2 (linesMake_k s _)).mono ?_; rintro e w1 ⟨rfl, rfl⟩))
  clear hn1 hn2
  obtain ⟨V0, hV0⟩ : ∃ V0, ((((w.alloc (.cells #[.int .i64 st] 3)).alloc (.cells #[.string s] 9)).alloc (.cells #[.string s] 9)).alloc (.cells #[.int .i64 0] 3)) = V0 := ⟨_, rfl⟩
  have hz0 : V0.heap.size = w.heap.size + 4 := by rw [← hV0]; simp
  have B0 : Bs w s st V0 := by
    rw [← hV0]
    have a1 := Boxed.new w 3 (.int .i64 st)
    have a2 := Boxed.new (w.alloc (.cells #[.int .i64 st] 3)) 9 (.string s)
    have a3 := Boxed.new ((w.alloc (.cells #[.int .i64 st] 3)).alloc (.cells #[.string s] 9)) 9 (.string s)
    simp only [World.size_alloc] at a2 a3
    exact ⟨((a1.alloc _).alloc _).alloc _, (a2.alloc _).alloc _, a3.alloc _, ((((Below.refl _ w).alloc (Nat.le_refl _) _).alloc (by simp) _).alloc (by simp; omega) _).alloc (by simp; omega) _⟩
  have i0 : Boxed V0 (w.heap.size + 3) 3 (.int .i64 0) := by
    rw [← hV0]
    have a4 := Boxed.new (((w.alloc (.cells #[.int .i64 st] 3)).alloc (.cells #[.string s] 9)).alloc (.cells #[.string s] 9)) 3 (.int .i64 0)
    simp only [World.size_alloc] at a4
    exact a4
  simp only [Nat.add_assoc, Nat.reduceAdd]
  rw [hV0]
  clear hV0
  refine wpIn_loop_rounds 3 ?_
  rw [roundsIn_succ]
  have ci0 := i0.cell
  have HT1 := hide hT1
  have HT2 := hide hT2
  have HL1 := hide hlim1
  have HL2 := hide hlim2
  clear hT1 hT2 hlen
  gi_wp2
  have BX1 := B0
  have iX1 := i0
  obtain ⟨b1, hbX1⟩ : ∃ b1, V0.heap.size = b1 := ⟨_, rfl⟩
  have hb1 : w.heap.size + 4 = b1 := by omega
  clear ci0
  obtain ⟨W1, hW1⟩ : ∃ W1, V0.alloc (.cells #[.int .i64 0] 3) = W1 := ⟨_, rfl⟩
  have hz1 : W1.heap.size = b1 + 1 := by rw [← hW1, World.size_alloc]; omega
  have BW1 : Bs w s st W1 := by rw [← hW1]; exact BX1.alloc _
  have iW1 : Boxed W1 (w.heap.size + 3) 3 (.int .i64 0) := by rw [← hW1]; exact iX1.alloc _
  have nW1 : Boxed W1 b1 3 (.int .i64 0) := by
    rw [← hW1]
    have := Boxed.new V0 3 (.int .i64 0)
    rwa [hbX1] at this
  rw [hW1]
  have hXW1 : Below V0.heap.size V0 W1 := by rw [← hW1]; exact (Below.refl _ _).alloc (Nat.le_refl _) _
  rw [hbX1] at hXW1
  clear hW1
  refine (fun (H : ∀ W : World, Boxed W b1 3 (.int .i64 (cnt st (els s.data.toList).length)) → Below b1 W1 W → W.heap[W1.heap.size]? = some (.deferred (some [])) → (_ : Exit → Act → World → Prop) .normal _ W) =>
    seq_law (gf := 46) (lb := #[.pointer (some ⟨w.heap.size + 1, 0, none⟩)]) rfl (enters_of Tryd.func46 (by kernel_rfl) rfl) (sb := w.heap.size + 1) (A := W1.heap.size + 3) (by omega) (by omega)
    (runes_seq _ s (by omega) _ W1 BW1.rs) (fun _ => rfl)
    (fun pre W => Boxed W b1 3 (.int .i64 (pre.length : Nat)) ∧ Below b1 W1 W ∧ Pn st pre.length)
    (fun c _ W => c = .exit 2 ∧ Boxed W b1 3 (.int .i64 st) ∧ Below b1 W1 W ∧ Ps st (els s.data.toList).length)
    (ct_own W1 b1 hz1 (by omega) (fun pre => ((List.length pre : Nat) : Int)) (fun pre => Pn st (List.length pre)))
    (fun c => by
      rintro pre X Y row ⟨hc, h1, h2, h3⟩ hg hr
      exact ⟨hc, heldB h1 rfl (by omega) hg hr, h2.grown hg (by have := h2.size; omega) (fun k e => by have := (hr k e).1; omega), h3⟩)
    ⟨nW1, Below.refl _ _, by unfold Pn; simp⟩ ?round1
    (fun W h hK => H W (by rw [cnt_all h.2.2]; exact h.1) h.2.1 hK)
    (fun c pre x W _ h hK => by
      obtain ⟨rfl, h1, h2, h3⟩ := h
      exact wpIn_exit (inBlock_same (H W (by rw [cnt_left h3]; exact h1) h2 hK)))) ?H1
  case round1 =>
    rintro l pre x W ⟨h1, h2, h3⟩ ⟨post, hpost⟩ hAW _
    have hpl : pre.length + 1 ≤ (els s.data.toList).length := by rw [hpost]; simp
    have hpl2 : pre.length + 1 ≤ 1048577 := by omega
    have HP := hide hpl
    have H3 := hide h3
    clear hpost hpl h3 post
    dsimp only [elV]
    gi_wp2
    refine ⟨Kept.refl _ _ _ _, fun _ W₂ => Boxed W₂ b1 3 (.int .i64 (pre.length : Nat)) ∧ Below b1 W1 W₂, ?_, ⟨h1, h2⟩, ?_⟩
    · rintro _ X Y row ⟨h1, h2⟩ hg hr
      exact ⟨heldB h1 rfl (by omega) hg hr, h2.grown hg (by have := h2.size; omega) (fun k e => by have := (hr k e).1; omega)⟩
    clear h1 h2
    rintro W₂ ⟨h1, h2⟩ hAW2 _ _ _
    have c1 := h1.cell
    have c1f := h1.frozen
    have k1 := h1.set (.int .i64 ((pre.length : Int) + 1))
    have ck := k1.cell
    have bp := below_put h2 (by omega) (.int .i64 ((pre.length : Int) + 1))
    have ci := (boxed_below iW1 bp (by omega)).cell
    have cs := (boxed_below BW1.stop bp (by omega)).cell
    have hKK : Kept (b1 + 1) (w.heap.size + 1) (b1 + 1 + 3) W₂ (W₂.setCell ⟨b1, 0, none⟩ (.int .i64 ((pre.length : Int) + 1))) := Kept.grown (grown_set W₂ _ 0 _) (fun r e => by cases e; exact ⟨by omega, by omega, .inl (by omega)⟩)
    have k2 : Boxed (W₂.setCell ⟨b1, 0, none⟩ (.int .i64 ((pre.length : Int) + 1))) b1 3 (.int .i64 ((pre ++ [x]).length : Nat)) := by
      have e : (((pre ++ [x]).length : Nat) : Int) = (pre.length : Int) + 1 := by simp
      rw [e]
      exact k1
    by_cases hst : st = (pre.length : Int) + 1
    · have hst' : (((pre.length : Int) + 1) == st) = true := by rw [hst]; simp
      have k3 : Boxed (W₂.setCell ⟨b1, 0, none⟩ (.int .i64 ((pre.length : Int) + 1))) b1 3 (.int .i64 st) := by rw [hst]; exact k1
      have HST := hide hst
      clear hst
      gi_wp2
      (try rw [hz1])
      exact ⟨hKK, rfl, k3, bp, by have := HP.out; have := HST.out; unfold Ps; omega⟩
    · have hst' : (((pre.length : Int) + 1) == st) = false := beq_eq_false_iff_ne.2 (fun h => hst h.symm)
      have HST := hide hst
      clear hst
      gi_wp2
      (try rw [hz1])
      exact ⟨hKK, k2, bp, by have h1 := H3.out; have h2 := HST.out; unfold Pn at h1 ⊢; simp only [List.length_append, List.length_cons, List.length_nil]; omega⟩
  case H1 =>
    intro Y1 cY1 bY1 dY1
    rw [hz1] at dY1
    have BY1 : Bs w s st Y1 := BW1.below bY1 (by omega)
    have iY1 : Boxed Y1 (w.heap.size + 3) 3 (.int .i64 0) := boxed_below iW1 bY1 (by omega)
    have ltY1 : b1 + 1 < Y1.heap.size := (Array.getElem?_eq_some_iff.1 dY1).1
    have cZ1 := iY1.cell
    gi_wp2
    have BX2 := BY1
    have iX2 := iY1
    obtain ⟨b2, hbX2⟩ : ∃ b2, Y1.heap.size = b2 := ⟨_, rfl⟩
    have hb2 : b1 + 1 < b2 := by omega
    clear cZ1
    obtain ⟨W2, hW2⟩ : ∃ W2, Y1.alloc (.cells #[.int .i64 0] 3) = W2 := ⟨_, rfl⟩
    have hz2 : W2.heap.size = b2 + 1 := by rw [← hW2, World.size_alloc]; omega
    have BW2 : Bs w s st W2 := by rw [← hW2]; exact BX2.alloc _
    have iW2 : Boxed W2 (w.heap.size + 3) 3 (.int .i64 0) := by rw [← hW2]; exact iX2.alloc _
    have nW2 : Boxed W2 b2 3 (.int .i64 0) := by
      rw [← hW2]
      have := Boxed.new Y1 3 (.int .i64 0)
      rwa [hbX2] at this
    rw [hW2]
    have hXW2 : Below Y1.heap.size Y1 W2 := by rw [← hW2]; exact (Below.refl _ _).alloc (Nat.le_refl _) _
    rw [hbX2] at hXW2
    clear hW2
    refine (fun (H : ∀ W : World, Boxed W b2 3 (.int .i64 (cnt st (lines s.data.toList).length)) → Below b2 W2 W → W.heap[W2.heap.size]? = some (.deferred (some [])) → (_ : Exit → Act → World → Prop) .normal _ W) =>
      seq_law (gf := 50) (lb := #[.pointer (some ⟨w.heap.size + 2, 0, none⟩)]) rfl (enters_of Tryd.func50 (by kernel_rfl) rfl) (sb := w.heap.size + 2) (A := W2.heap.size + 2) (by omega) (by omega)
      (lines_seq _ s (by omega) _ W2 BW2.ls) (fun _ => rfl)
      (fun pre W => Boxed W b2 3 (.int .i64 (pre.length : Nat)) ∧ Below b2 W2 W ∧ Pn st pre.length)
      (fun c _ W => c = .exit 4 ∧ Boxed W b2 3 (.int .i64 st) ∧ Below b2 W2 W ∧ Ps st (lines s.data.toList).length)
      (ct_own W2 b2 hz2 (by omega) (fun pre => ((List.length pre : Nat) : Int)) (fun pre => Pn st (List.length pre)))
      (fun c => by
        rintro pre X Y row ⟨hc, h1, h2, h3⟩ hg hr
        exact ⟨hc, heldB h1 rfl (by omega) hg hr, h2.grown hg (by have := h2.size; omega) (fun k e => by have := (hr k e).1; omega), h3⟩)
      ⟨nW2, Below.refl _ _, by unfold Pn; simp⟩ ?round2
      (fun W h hK => H W (by rw [cnt_all h.2.2]; exact h.1) h.2.1 hK)
      (fun c pre x W _ h hK => by
        obtain ⟨rfl, h1, h2, h3⟩ := h
        exact wpIn_exit (inBlock_same (H W (by rw [cnt_left h3]; exact h1) h2 hK)))) ?H2
    case round2 =>
      rintro l pre x W ⟨h1, h2, h3⟩ ⟨post, hpost⟩ hAW _
      have hpl : pre.length + 1 ≤ (lines s.data.toList).length := by rw [hpost]; simp
      have hpl2 : pre.length + 1 ≤ 1048577 := by omega
      have HP := hide hpl
      have H3 := hide h3
      clear hpost hpl h3 post
      dsimp only [lineV]
      gi_wp2
      refine ⟨Kept.refl _ _ _ _, fun _ W₂ => Boxed W₂ b2 3 (.int .i64 (pre.length : Nat)) ∧ Below b2 W2 W₂, ?_, ⟨h1, h2⟩, ?_⟩
      · rintro _ X Y row ⟨h1, h2⟩ hg hr
        exact ⟨heldB h1 rfl (by omega) hg hr, h2.grown hg (by have := h2.size; omega) (fun k e => by have := (hr k e).1; omega)⟩
      clear h1 h2
      rintro W₂ ⟨h1, h2⟩ hAW2 _ _
      have c1 := h1.cell
      have c1f := h1.frozen
      have k1 := h1.set (.int .i64 ((pre.length : Int) + 1))
      have ck := k1.cell
      have bp := below_put h2 (by omega) (.int .i64 ((pre.length : Int) + 1))
      have ci := (boxed_below iW2 bp (by omega)).cell
      have cs := (boxed_below BW2.stop bp (by omega)).cell
      have hKK : Kept (b2 + 1) (w.heap.size + 2) (b2 + 1 + 2) W₂ (W₂.setCell ⟨b2, 0, none⟩ (.int .i64 ((pre.length : Int) + 1))) := Kept.grown (grown_set W₂ _ 0 _) (fun r e => by cases e; exact ⟨by omega, by omega, .inl (by omega)⟩)
      have k2 : Boxed (W₂.setCell ⟨b2, 0, none⟩ (.int .i64 ((pre.length : Int) + 1))) b2 3 (.int .i64 ((pre ++ [x]).length : Nat)) := by
        have e : (((pre ++ [x]).length : Nat) : Int) = (pre.length : Int) + 1 := by simp
        rw [e]
        exact k1
      by_cases hst : st = (pre.length : Int) + 1
      · have hst' : (((pre.length : Int) + 1) == st) = true := by rw [hst]; simp
        have k3 : Boxed (W₂.setCell ⟨b2, 0, none⟩ (.int .i64 ((pre.length : Int) + 1))) b2 3 (.int .i64 st) := by rw [hst]; exact k1
        have HST := hide hst
        clear hst
        gi_wp2
        (try rw [hz2])
        exact ⟨hKK, rfl, k3, bp, by have := HP.out; have := HST.out; unfold Ps; omega⟩
      · have hst' : (((pre.length : Int) + 1) == st) = false := beq_eq_false_iff_ne.2 (fun h => hst h.symm)
        have HST := hide hst
        clear hst
        gi_wp2
        (try rw [hz2])
        exact ⟨hKK, k2, bp, by have h1 := H3.out; have h2 := HST.out; unfold Pn at h1 ⊢; simp only [List.length_append, List.length_cons, List.length_nil]; omega⟩
    case H2 =>
      intro Y2 cY2 bY2 dY2
      rw [hz2] at dY2
      have BY2 : Bs w s st Y2 := BW2.below bY2 (by omega)
      have iY2 : Boxed Y2 (w.heap.size + 3) 3 (.int .i64 0) := boxed_below iW2 bY2 (by omega)
      have ltY2 : b2 + 1 < Y2.heap.size := (Array.getElem?_eq_some_iff.1 dY2).1
      have nY2 : Boxed Y2 b1 3 (.int .i64 (min ((ru s.data.toList).length : Int) st)) := by
        have e : cnt st (els s.data.toList).length = min ((ru s.data.toList).length : Int) st := (by unfold cnt; rw [if_pos hst0, HT1.out])
        rw [← e]
        exact boxed_below (boxed_below cY1 hXW2 (by omega)) bY2 (by omega)
      have mY2 : Boxed Y2 b2 3 (.int .i64 (min ((lns [] s.data.toList).length : Int) st)) := by
        have e : cnt st (lines s.data.toList).length = min ((lns [] s.data.toList).length : Int) st := (by unfold cnt; rw [if_pos hst0, HT2.out])
        rw [← e]
        exact cY2
      have d1Y2 := dfr_below (dfr_below dY1 hXW2 (by omega)) bY2 (by omega)
      clear cY1 cY2 dY1
      generalize (ru s.data.toList).length = T1 at *
      generalize lns [] s.data.toList = x2 at *
      have hqq : ∀ z : Int, (z == z) = true := fun z => by simp
      gi_wp2_with (first
        | (refine ⟨trivial, ?_⟩; gi_at_call 27; refine (callsIn_wide.2 (hWd _)).mono ?_; rintro e Z1 ⟨rfl, bz1⟩)
        | (refine ⟨trivial, ?_⟩; gi_at_call 28; refine (callsIn_wide.2 (hLn _)).mono ?_; rintro e Z2 ⟨vl, rfl, hrow, bz2⟩; obtain ⟨al, cl, rfl⟩ := row_slice hrow; have hZ := bz1.trans (bz2.mono bz1.size); have ciZ := (boxed_below iY2 hZ (by omega)).cell; have csZ := (boxed_below BY2.stop hZ (by omega)).cell; have cnZ := (boxed_below nY2 hZ (by omega)).cell; have cmZ := (boxed_below mY2 hZ (by omega)).cell))
      gi_region
      all_goals gi_wp2
      obtain ⟨j2, hj2⟩ : ∃ j2, Z2.heap.size = j2 := ⟨_, rfl⟩
      obtain ⟨U2, hU2⟩ : ∃ U2, (Z2.alloc (.cells #[.int .i64 1] 3)).drew = U2 := ⟨_, rfl⟩
      have hzU : U2.heap.size = j2 + 1 := by
        rw [← hU2]
        show (Z2.alloc (.cells #[.int .i64 1] 3)).heap.size = j2 + 1
        rw [World.size_alloc]
        exact congrArg (· + 1) hj2
      have hZU : Below Y2.heap.size Y2 U2 := by rw [← hU2]; exact Below.drew (hZ.alloc hZ.size _)
      have iU : Boxed U2 j2 3 (.int .i64 1) := by
        rw [← hU2, ← hj2]
        exact Boxed.new Z2 3 (.int .i64 1)
      have BU : Bs w s st U2 := BY2.below hZU (by omega)
      have dU1 := dfr_below d1Y2 hZU (by omega)
      have dU2 := dfr_below dY2 hZU (by omega)
      have hjj : Y2.heap.size ≤ j2 := by rw [← hj2]; exact hZ.size
      rw [hU2, hj2]
      clear hU2 ciZ csZ cnZ cmZ hrow bz1 bz2 hZ hZU d1Y2 dY2 nY2 mY2 iY2 BY2
      rw [roundsIn_succ]
      have ciU := iU.cell
      gi_wp2
      have BX3 := BU
      have iX3 := iU
      obtain ⟨b3, hbX3⟩ : ∃ b3, U2.heap.size = b3 := ⟨_, rfl⟩
      have hb3 : j2 < b3 := by omega
      have hb3e : j2 + 1 = b3 := by omega
      clear ciU
      obtain ⟨W3, hW3⟩ : ∃ W3, U2.alloc (.cells #[.int .i64 0] 3) = W3 := ⟨_, rfl⟩
      have hz3 : W3.heap.size = b3 + 1 := by rw [← hW3, World.size_alloc]; omega
      have BW3 : Bs w s st W3 := by rw [← hW3]; exact BX3.alloc _
      have iW3 : Boxed W3 j2 3 (.int .i64 1) := by rw [← hW3]; exact iX3.alloc _
      have nW3 : Boxed W3 b3 3 (.int .i64 0) := by
        rw [← hW3]
        have := Boxed.new U2 3 (.int .i64 0)
        rwa [hbX3] at this
      rw [hW3]
      have hXW3 : Below U2.heap.size U2 W3 := by rw [← hW3]; exact (Below.refl _ _).alloc (Nat.le_refl _) _
      rw [hbX3] at hXW3
      clear hW3
      refine (fun (H : ∀ W : World, Boxed W b3 3 (.int .i64 (((els s.data.toList).length : Nat))) → Below b3 W3 W → W.heap[W3.heap.size]? = some (.deferred (some [])) → (_ : Exit → Act → World → Prop) .normal _ W) =>
        seq_law (gf := 46) (lb := #[.pointer (some ⟨w.heap.size + 1, 0, none⟩)]) rfl (enters_of Tryd.func46 (by kernel_rfl) rfl) (sb := w.heap.size + 1) (A := W3.heap.size + 3) (by omega) (by omega)
        (runes_seq _ s (by omega) _ W3 BW3.rs) (fun _ => rfl)
        (fun pre W => Boxed W b3 3 (.int .i64 (pre.length : Nat)) ∧ Below b3 W3 W ∧ True)
        (fun _ _ _ => False)
        (ct_own W3 b3 hz3 (by omega) (fun pre => ((List.length pre : Nat) : Int)) (fun _ => True))
        (fun _ _ _ _ _ h _ _ => h)
        ⟨nW3, Below.refl _ _, trivial⟩ ?round3
        (fun W h hK => H W h.1 h.2.1 hK)
        (fun _ _ _ _ _ h _ => h.elim)) ?H3
      case round3 =>
        rintro l pre x W ⟨h1, h2, h3⟩ ⟨post, hpost⟩ hAW _
        have hpl : pre.length + 1 ≤ (els s.data.toList).length := by rw [hpost]; simp
        have hpl2 : pre.length + 1 ≤ 1048577 := by omega
        have HP := hide hpl
        have H3 := hide h3
        clear hpost hpl h3 post
        dsimp only [elV]
        gi_wp2
        refine ⟨Kept.refl _ _ _ _, fun _ W₂ => Boxed W₂ b3 3 (.int .i64 (pre.length : Nat)) ∧ Below b3 W3 W₂, ?_, ⟨h1, h2⟩, ?_⟩
        · rintro _ X Y row ⟨h1, h2⟩ hg hr
          exact ⟨heldB h1 rfl (by omega) hg hr, h2.grown hg (by have := h2.size; omega) (fun k e => by have := (hr k e).1; omega)⟩
        clear h1 h2
        rintro W₂ ⟨h1, h2⟩ hAW2 _ _ _
        have c1 := h1.cell
        have c1f := h1.frozen
        have k1 := h1.set (.int .i64 ((pre.length : Int) + 1))
        have ck := k1.cell
        have bp := below_put h2 (by omega) (.int .i64 ((pre.length : Int) + 1))
        have ci := (boxed_below iW3 bp (by omega)).cell
        have cs := (boxed_below BW3.stop bp (by omega)).cell
        have hKK : Kept (b3 + 1) (w.heap.size + 1) (b3 + 1 + 3) W₂ (W₂.setCell ⟨b3, 0, none⟩ (.int .i64 ((pre.length : Int) + 1))) := Kept.grown (grown_set W₂ _ 0 _) (fun r e => by cases e; exact ⟨by omega, by omega, .inl (by omega)⟩)
        have k2 : Boxed (W₂.setCell ⟨b3, 0, none⟩ (.int .i64 ((pre.length : Int) + 1))) b3 3 (.int .i64 ((pre ++ [x]).length : Nat)) := by
          have e : (((pre ++ [x]).length : Nat) : Int) = (pre.length : Int) + 1 := by simp
          rw [e]
          exact k1
        gi_wp2
        (try rw [hz3])
        first
          | exact ⟨hKK, k2, bp, trivial⟩
          | exact ⟨hKK, k2, bp⟩
      case H3 =>
        intro Y3 cY3 bY3 dY3
        rw [hz3] at dY3
        have BY3 : Bs w s st Y3 := BW3.below bY3 (by omega)
        have iY3 : Boxed Y3 j2 3 (.int .i64 1) := boxed_below iW3 bY3 (by omega)
        have ltY3 : b3 + 1 < Y3.heap.size := (Array.getElem?_eq_some_iff.1 dY3).1
        have cZ3 := iY3.cell
        gi_wp2
        have BX4 := BY3
        have iX4 := iY3
        obtain ⟨b4, hbX4⟩ : ∃ b4, Y3.heap.size = b4 := ⟨_, rfl⟩
        have hb4 : b3 + 1 < b4 := by omega
        clear cZ3
        obtain ⟨W4, hW4⟩ : ∃ W4, Y3.alloc (.cells #[.int .i64 0] 3) = W4 := ⟨_, rfl⟩
        have hz4 : W4.heap.size = b4 + 1 := by rw [← hW4, World.size_alloc]; omega
        have BW4 : Bs w s st W4 := by rw [← hW4]; exact BX4.alloc _
        have iW4 : Boxed W4 j2 3 (.int .i64 1) := by rw [← hW4]; exact iX4.alloc _
        have nW4 : Boxed W4 b4 3 (.int .i64 0) := by
          rw [← hW4]
          have := Boxed.new Y3 3 (.int .i64 0)
          rwa [hbX4] at this
        rw [hW4]
        have hXW4 : Below Y3.heap.size Y3 W4 := by rw [← hW4]; exact (Below.refl _ _).alloc (Nat.le_refl _) _
        rw [hbX4] at hXW4
        clear hW4
        refine (fun (H : ∀ W : World, Boxed W b4 3 (.int .i64 (((lines s.data.toList).length : Nat))) → Below b4 W4 W → W.heap[W4.heap.size]? = some (.deferred (some [])) → (_ : Exit → Act → World → Prop) .normal _ W) =>
          seq_law (gf := 50) (lb := #[.pointer (some ⟨w.heap.size + 2, 0, none⟩)]) rfl (enters_of Tryd.func50 (by kernel_rfl) rfl) (sb := w.heap.size + 2) (A := W4.heap.size + 2) (by omega) (by omega)
          (lines_seq _ s (by omega) _ W4 BW4.ls) (fun _ => rfl)
          (fun pre W => Boxed W b4 3 (.int .i64 (pre.length : Nat)) ∧ Below b4 W4 W ∧ True)
          (fun _ _ _ => False)
          (ct_own W4 b4 hz4 (by omega) (fun pre => ((List.length pre : Nat) : Int)) (fun _ => True))
          (fun _ _ _ _ _ h _ _ => h)
          ⟨nW4, Below.refl _ _, trivial⟩ ?round4
          (fun W h hK => H W h.1 h.2.1 hK)
          (fun _ _ _ _ _ h _ => h.elim)) ?H4
        case round4 =>
          rintro l pre x W ⟨h1, h2, h3⟩ ⟨post, hpost⟩ hAW _
          have hpl : pre.length + 1 ≤ (lines s.data.toList).length := by rw [hpost]; simp
          have hpl2 : pre.length + 1 ≤ 1048577 := by omega
          have HP := hide hpl
          have H3 := hide h3
          clear hpost hpl h3 post
          dsimp only [lineV]
          gi_wp2
          refine ⟨Kept.refl _ _ _ _, fun _ W₂ => Boxed W₂ b4 3 (.int .i64 (pre.length : Nat)) ∧ Below b4 W4 W₂, ?_, ⟨h1, h2⟩, ?_⟩
          · rintro _ X Y row ⟨h1, h2⟩ hg hr
            exact ⟨heldB h1 rfl (by omega) hg hr, h2.grown hg (by have := h2.size; omega) (fun k e => by have := (hr k e).1; omega)⟩
          clear h1 h2
          rintro W₂ ⟨h1, h2⟩ hAW2 _ _
          have c1 := h1.cell
          have c1f := h1.frozen
          have k1 := h1.set (.int .i64 ((pre.length : Int) + 1))
          have ck := k1.cell
          have bp := below_put h2 (by omega) (.int .i64 ((pre.length : Int) + 1))
          have ci := (boxed_below iW4 bp (by omega)).cell
          have cs := (boxed_below BW4.stop bp (by omega)).cell
          have hKK : Kept (b4 + 1) (w.heap.size + 2) (b4 + 1 + 2) W₂ (W₂.setCell ⟨b4, 0, none⟩ (.int .i64 ((pre.length : Int) + 1))) := Kept.grown (grown_set W₂ _ 0 _) (fun r e => by cases e; exact ⟨by omega, by omega, .inl (by omega)⟩)
          have k2 : Boxed (W₂.setCell ⟨b4, 0, none⟩ (.int .i64 ((pre.length : Int) + 1))) b4 3 (.int .i64 ((pre ++ [x]).length : Nat)) := by
            have e : (((pre ++ [x]).length : Nat) : Int) = (pre.length : Int) + 1 := by simp
            rw [e]
            exact k1
          gi_wp2
          (try rw [hz4])
          first
            | exact ⟨hKK, k2, bp, trivial⟩
            | exact ⟨hKK, k2, bp⟩
        case H4 =>
          intro Y4 cY4 bY4 dY4
          rw [hz4] at dY4
          have BY4 : Bs w s st Y4 := BW4.below bY4 (by omega)
          have iY4 : Boxed Y4 j2 3 (.int .i64 1) := boxed_below iW4 bY4 (by omega)
          have ltY4 : b4 + 1 < Y4.heap.size := (Array.getElem?_eq_some_iff.1 dY4).1
          have nY4 : Boxed Y4 b3 3 (.int .i64 ((T1 : Int))) := by
            have e : ((els s.data.toList).length : Int) = (T1 : Int) := (by rw [HT1.out])
            rw [← e]
            exact boxed_below (boxed_below cY3 hXW4 (by omega)) bY4 (by omega)
          have mY4 : Boxed Y4 b4 3 (.int .i64 ((x2.length : Int))) := by
            have e : ((lines s.data.toList).length : Int) = (x2.length : Int) := (by rw [HT2.out])
            rw [← e]
            exact cY4
          have d1 := dfr_below (dfr_below (dfr_below (dfr_below dU1 hXW3 (by omega)) bY3 (by omega)) hXW4 (by omega)) bY4 (by omega)
          have d2 := dfr_below (dfr_below (dfr_below (dfr_below dU2 hXW3 (by omega)) bY3 (by omega)) hXW4 (by omega)) bY4 (by omega)
          have d3 := dfr_below (dfr_below dY3 hXW4 (by omega)) bY4 (by omega)
          clear cY3 cY4 dY3
          gi_wp2_with (first
            | (refine ⟨trivial, ?_⟩; gi_at_call 27; refine (callsIn_wide.2 (hWd _)).mono ?_; rintro e Z3 ⟨rfl, bz1⟩)
            | (refine ⟨trivial, ?_⟩; gi_at_call 28; refine (callsIn_wide.2 (hLn _)).mono ?_; rintro e Z4 ⟨vl, rfl, hrow, bz2⟩; obtain ⟨al2, cl2, rfl⟩ := row_slice hrow; have hZ4 := bz1.trans (bz2.mono bz1.size); have ciZ := (boxed_below iY4 hZ4 (by omega)).cell; have csZ := (boxed_below BY4.stop hZ4 (by omega)).cell; have cnZ := (boxed_below nY4 hZ4 (by omega)).cell; have cmZ := (boxed_below mY4 hZ4 (by omega)).cell))
          obtain ⟨j4, hj4⟩ : ∃ j4, Z4.heap.size = j4 := ⟨_, rfl⟩
          obtain ⟨U4, hU4⟩ : ∃ U4, Z4.alloc (.cells #[.int .i64 2] 3) = U4 := ⟨_, rfl⟩
          have hZU4 : Below Y4.heap.size Y4 U4 := by rw [← hU4]; exact hZ4.alloc hZ4.size _
          have iU4 : Boxed U4 j4 3 (.int .i64 2) := by
            rw [← hU4, ← hj4]
            exact Boxed.new Z4 3 (.int .i64 2)
          have BU4 : Bs w s st U4 := BY4.below hZU4 (by omega)
          rw [hU4, hj4]
          clear hU4 ciZ csZ cnZ cmZ hrow
          rw [roundsIn_succ]
          have ciU4 := iU4.cell
          have tU4 := ht.below BU4.bel
          gi_wp2_with (refine ⟨trivial, ?_⟩; gi_at_call 13; refine (callsIn_wide.2 (hal _ tU4)).mono ?_; rintro e Z5 ⟨rfl, bz5⟩)
          have hZ5 : Below Y4.heap.size Y4 Z5 := hZU4.trans (bz5.mono hZU4.size)
          have k4 := dfr_below dY4 hZ5 (by omega)
          have k3 := dfr_below d3 hZ5 (by omega)
          have k2 := dfr_below d2 hZ5 (by omega)
          have k1 := dfr_below d1 hZ5 (by omega)
          have bw5 : Below w.heap.size w Z5 := BU4.bel.trans (bz5.mono BU4.bel.size)
          have p3 : (Z5.putObj (b4 + 1) (.deferred none)).heap[b3 + 1]? = some (.deferred (some [])) := (World.putObj_heap_other (by omega)).trans k3
          have p2 : ((Z5.putObj (b4 + 1) (.deferred none)).putObj (b3 + 1) (.deferred none)).heap[b2 + 1]? = some (.deferred (some [])) := (World.putObj_heap_other (by omega)).trans ((World.putObj_heap_other (by omega)).trans k2)
          have p1 : (((Z5.putObj (b4 + 1) (.deferred none)).putObj (b3 + 1) (.deferred none)).putObj (b2 + 1) (.deferred none)).heap[b1 + 1]? = some (.deferred (some [])) := (World.putObj_heap_other (by omega)).trans ((World.putObj_heap_other (by omega)).trans ((World.putObj_heap_other (by omega)).trans k1))
          refine ⟨by simp, .inl ⟨_, _, rfl, run_takeDeferred k4, ⟨by simp, .inl ⟨_, _, rfl, run_takeDeferred p3, ⟨by simp, .inl ⟨_, _, rfl, run_takeDeferred p2, ⟨by simp, .inl ⟨_, _, rfl, run_takeDeferred p1, ?_⟩⟩⟩⟩⟩⟩⟩⟩
          exact ⟨_, results_tmp rfl _ _ _, rfl, (((bw5.trans (belowK_b (w := w) (Nat.le_refl _) _ _ _ _ (by omega) k4 rfl rfl)).trans (belowK_b (w := w) (Nat.le_refl _) _ _ _ _ (by omega) p3 rfl rfl)).trans (belowK_b (w := w) (Nat.le_refl _) _ _ _ _ (by omega) p2 rfl rfl)).trans (belowK_b (w := w) (Nat.le_refl _) _ _ _ _ (by omega) p1 rfl rfl)⟩

theorem textAgain_walk (s : ByteArray) (hs : s.size ≤ 1048576) (st : Int) (w : World) (ht : Tabs w) :
    Calls Tryd.prog 7 #[.string s, .int .i64 st] w fun e w' => e = .returned (.bool true) ∧ Below w.heap.size w w' := by
  by_cases h : 0 < st
  · exact textAgain_pos s hs st h w ht
  · exact textAgain_neg s hs st (by omega) w ht
end Go.Proofs.YtpbebcefnkbnlabDoor
