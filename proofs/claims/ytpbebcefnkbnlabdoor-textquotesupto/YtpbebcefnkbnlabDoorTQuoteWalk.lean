/- Quote's walk. -/
import Derived.Test.YtpbebcefnkbnlabDoorTQuote
import Derived.Laws.BitsAllLaws
namespace Go.Proofs.YtpbebcefnkbnlabDoor
open Go.RowKit
attribute [local go_sem] Oper.semAt_some

theorem idx_dig (n : Nat) (hn : n < 16) (w : World) : (Instr.index 9 (.string ⟨#[48, 49, 50, 51, 52, 53, 54, 55, 56, 57, 97, 98, 99, 100, 101, 102]⟩) (.int .u8 (n : Int))).run Tryd.prog w = .ok (.int .u8 ((hexd n).toNat : Int)) w := by
  have h1 : (n : Int) < 16 := by omega
  simp [go_sem, h1]
  have h : n = 0 ∨ n = 1 ∨ n = 2 ∨ n = 3 ∨ n = 4 ∨ n = 5 ∨ n = 6 ∨ n = 7 ∨ n = 8 ∨ n = 9 ∨ n = 10 ∨ n = 11 ∨ n = 12 ∨ n = 13 ∨ n = 14 ∨ n = 15 := by omega
  rcases h with rfl | rfl | rfl | rfl | rfl | rfl | rfl | rfl | rfl | rfl | rfl | rfl | rfl | rfl | rfl | rfl
  all_goals rfl
theorem and15 (x : Nat) (hx : x < 256) : bits .and .u8 (x : Int) 15 = ((x % 16 : Nat) : Int) := by
  have h := u8_and_nat x 15 hx (by decide)
  rw [nat_mask4] at h
  exact h
theorem byte_at (s : ByteArray) (i : Nat) (h : i < s.size) : (s[i]'h).toNat = (s.data.toList.getD i 0).toNat := by
  have h' : i < s.data.toList.length := by rw [Array.length_toList]; exact h
  rw [List.getD_eq_getElem?_getD, List.getElem?_eq_getElem h']
  rfl

set_option maxRecDepth 100000 in
set_option maxHeartbeats 4000000 in
theorem quote_k (s : ByteArray) (hs : s.size ≤ 8388608) (w : World) :
    Calls Tryd.prog 20 #[.string s] w fun e w' => e = .returned (.string (str (qt s.data.toList))) ∧ Below w.heap.size w w' := by
  have hlen : s.data.toList.length = s.size := by rw [Array.length_toList]; rfl
  have hlim : (els s.data.toList).length ≤ 8388608 := by
    rw [els_length]
    have := ru_length_le s.data.toList
    omega
  refine (callsIn_wide (n := 9)).1 ?_
  refine callsIn_of_wp_marks Tryd.func20 rfl trivial ?_ rfl
  simp only [Tryd.ntmps20, List.size_toArray, List.length_cons, List.length_nil, Nat.reduceAdd, Nat.reduceSub, Array.replicate_succ, Array.replicate_zero, List.push_toArray, List.append_toArray, List.nil_append, List.cons_append]
  have hb0 : Bld (w.heap.size + 1) [] ((w.alloc (.cells #[.string s] 9)).alloc (.cells #[.pointer none, .slice none 0 0] 82)) := by
    have := Lib.IsBuilderF.of (Lib.fresh_isBuilder 82 5 (w.alloc (.cells #[.string s] 9)))
    rw [World.size_alloc] at this
    exact this
  have hx0 : Boxed ((w.alloc (.cells #[.string s] 9)).alloc (.cells #[.pointer none, .slice none 0 0] 82)) w.heap.size 9 (.string s) := (Boxed.new w _ _).alloc _
  have hB0 : Below w.heap.size w ((w.alloc (.cells #[.string s] 9)).alloc (.cells #[.pointer none, .slice none 0 0] 82)) := ((Below.refl _ w).alloc (Nat.le_refl _) _).alloc (by simp) _
  gi_wp2_with (refine ⟨trivial, ?_⟩; gi_at_call 41; refine (callsIn_wide.2 (wByte _ [] 34 34 rfl _ hb0 (by simp))).mono ?_)
  rintro e W1 ⟨rfl, hb1, bel1, ok1⟩
  have hx1 : Boxed W1 w.heap.size 9 (.string s) := (bel1.block _ (by omega)).trans hx0
  have hB1 := hB0.trans (bel1.mono (by omega))
  have c1 := hx1.cell
  gi_wp2_with (refine ⟨trivial, ?_⟩; gi_at_call 25; refine (callsIn_wide.2 (runesMake_k s _)).mono ?_)
  rintro e W1' ⟨rfl, rfl⟩
  have hlt1 := hb1.lt
  have hx2 := hx1.alloc (.cells #[.string s] 9)
  have hs2 := Boxed.new W1 9 (.string s)
  have hb2 := hb1.alloc (.cells #[.string s] 9)
  have hB2 := hB1.alloc (by omega) (.cells #[.string s] 9)
  have hsz : (W1.alloc (.cells #[.string s] 9)).heap.size = W1.heap.size + 1 := by simp
  generalize hW0 : W1.alloc (.cells #[.string s] 9) = W0 at *
  gi_wp2
  refine seq_law (gf := 46) (lb := #[.pointer (some ⟨W1.heap.size, 0, none⟩)]) rfl (enters_of Tryd.func46 (by kernel_rfl) rfl) (sb := W1.heap.size) (A := W0.heap.size + 3) (by omega) (by omega)
    (runes_seq _ s (by omega) _ W0 hs2) (fun _ => rfl)
    (fun pre W => Bld (w.heap.size + 1) (34 :: pre.flatMap (piece s.data.toList)) W ∧ Boxed W w.heap.size 9 (.string s) ∧ Boxed W W1.heap.size 9 (.string s) ∧ Below w.heap.size w W)
    (fun _ _ _ => False) ?hI (fun _ _ _ _ _ h _ _ => h) ⟨hb2, hx2, hs2, hB2⟩ ?round ?done ?stop
  case hI =>
    rintro pre X Y row ⟨h1, h2, h3, h4⟩ hg hr
    exact ⟨bld_own h1 hg hr, heldB h2 rfl (by omega) hg hr, heldB h3 rfl (by omega) hg hr, h4.grown hg (by have := h4.size; omega) (fun k e => by have := (hr k e).1; omega)⟩
  case round =>
    rintro l pre x W ⟨h1, h2, h3, h4⟩ ⟨post, hpost⟩ hAW _
    have hpl : pre.length + 1 ≤ 8388608 := by rw [hpost] at hlim; simp at hlim; omega
    obtain ⟨hoff, hr0, hr1⟩ := els_mem s.data.toList x (by rw [hpost]; simp)
    rw [hlen] at hoff
    dsimp only [elV]
    gi_wp2
    refine ⟨Kept.alloc _ _ _ _ _, fun _ W₂ => (Bld (w.heap.size + 1) (34 :: pre.flatMap (piece s.data.toList)) W₂ ∧ Boxed W₂ w.heap.size 9 (.string s) ∧ Boxed W₂ W1.heap.size 9 (.string s) ∧ Below w.heap.size w W₂) ∧ At3 W₂ W.heap.size x.off x.line x.col, ?_, ?_, ?_⟩
    · rintro _ X Y row ⟨⟨h1, h2, h3, h4⟩, h6⟩ hg hr
      exact ⟨⟨bld_own h1 hg hr, heldB h2 rfl (by omega) hg hr, heldB h3 rfl (by omega) hg hr, h4.grown hg (by have := h4.size; omega) (fun k e => by have := (hr k e).1; omega)⟩, heldB h6 rfl (by omega) hg hr⟩
    · exact ⟨⟨h1.alloc _, h2.alloc _, h3.alloc _, h4.alloc h4.size _⟩, World.alloc_heap_new W _⟩
    clear h1 h2 h3 h4
    rintro W₂ ⟨⟨h1, h2, h3, h4⟩, h6⟩ hAW2 hoA
    have hfl := flat_len s.data.toList pre
    have hl1 : (34 :: pre.flatMap (piece s.data.toList)).length ≤ 41943041 := by simp only [List.length_cons]; omega
    have fin : ∀ (t : List UInt8) (W3 : World), piece s.data.toList x = t → Put (w.heap.size + 1) ((34 :: pre.flatMap (piece s.data.toList)) ++ t) W₂ W3 →
        Kept W0.heap.size W1.heap.size (W0.heap.size + 3) W₂ W3 ∧ (Bld (w.heap.size + 1) (34 :: (pre ++ [x]).flatMap (piece s.data.toList)) W3 ∧ Boxed W3 w.heap.size 9 (.string s) ∧ Boxed W3 W1.heap.size 9 (.string s) ∧ Below w.heap.size w W3) := by
      rintro t W3 rfl hp
      have hk := hp.kept (B := W0.heap.size) (sb := W1.heap.size) (A := W0.heap.size + 3) hp.2.1.size (by omega) (by omega) (by omega) h3 hoA
      refine ⟨hk, ?_, (hp.2.1.block _ (by omega)).trans h2, hk.box _ h3, h4.trans (hp.2.1.mono (by omega))⟩
      have := hp.1
      rw [List.flatMap_append]
      simpa using this
    clear hpost hlim
    generalize (34 :: pre.flatMap (piece s.data.toList)) = acc at *
    obtain ⟨xo, xl, xc, xr⟩ := x
    dsimp only at hoff hr0 hr1 h6 fin ⊢
    by_cases c34 : xr = 34 ∨ xr = 92
    · have hp : piece s.data.toList ⟨xo, xl, xc, xr⟩ = [92] ++ Lib.encodeRune xr := by unfold piece; rw [if_pos c34]; rfl
      rcases c34 with rfl | rfl
      · gi_wp2_with (refine ⟨trivial, ?_⟩; gi_at_call 41; refine (CallsIn.inRound l (callsIn_wide.2 (wByte _ _ 92 92 rfl _ h1 (by (try simp only [List.length_append, List.length_cons, List.length_nil]); omega)))).mono ?_; rintro e W3 ⟨rfl, p1⟩)
        gi_wp2_with (refine ⟨trivial, ?_⟩; gi_at_call 42; refine (CallsIn.inRound l (callsIn_wide.2 (wRune _ _ 34 (by omega) (by omega) _ p1.1 (by (try simp only [List.length_append, List.length_cons, List.length_nil]); omega)))).mono ?_; rintro e W4 ⟨⟨_, rfl⟩, p2⟩)
        exact fin _ _ hp ⟨by rw [← List.append_assoc]; exact p2.1, p1.2.1.trans p2.2.1, p1.2.2.trans p2.2.2⟩
      · gi_wp2_with (refine ⟨trivial, ?_⟩; gi_at_call 41; refine (CallsIn.inRound l (callsIn_wide.2 (wByte _ _ 92 92 rfl _ h1 (by (try simp only [List.length_append, List.length_cons, List.length_nil]); omega)))).mono ?_; rintro e W3 ⟨rfl, p1⟩)
        gi_wp2_with (refine ⟨trivial, ?_⟩; gi_at_call 42; refine (CallsIn.inRound l (callsIn_wide.2 (wRune _ _ 92 (by omega) (by omega) _ p1.1 (by (try simp only [List.length_append, List.length_cons, List.length_nil]); omega)))).mono ?_; rintro e W4 ⟨⟨_, rfl⟩, p2⟩)
        exact fin _ _ hp ⟨by rw [← List.append_assoc]; exact p2.1, p1.2.1.trans p2.2.1, p1.2.2.trans p2.2.2⟩
    · have n1 : (xr == 34) = false := by simp; exact fun e => c34 (.inl e)
      have n2 : (xr == 92) = false := by simp; exact fun e => c34 (.inr e)
      by_cases c10 : xr = 10
      · have hp : piece s.data.toList ⟨xo, xl, xc, xr⟩ = [92, 110] := by unfold piece; rw [if_neg c34, if_pos c10]
        subst c10
        gi_wp2_with (refine ⟨trivial, ?_⟩; gi_at_call 43; refine (CallsIn.inRound l (callsIn_wide.2 (wStr _ _ [92, 110] _ rfl _ h1 (by (try simp only [List.length_cons, List.length_nil]); omega)))).mono ?_; rintro e W3 ⟨⟨_, rfl⟩, p1⟩)
        exact fin _ _ hp p1
      · have n0 : (xr == 10) = false := by simp [c10]
        by_cases c32 : xr < 32 ∨ xr = 127
        · have hp : piece s.data.toList ⟨xo, xl, xc, xr⟩ = [92, 120] ++ [hexd ((s.data.toList.getD xo 0).toNat / 16)] ++ [hexd ((s.data.toList.getD xo 0).toNat % 16)] := by unfold piece; rw [if_neg c34, if_neg c10, if_pos c32]; rfl
          have hby := byte_at s xo hoff
          have hx : (s.data.toList.getD xo 0).toNat < 256 := (s.data.toList.getD xo 0).toNat_lt
          generalize (s.data.toList.getD xo 0).toNat = bb at *
          obtain ⟨y1, hy1⟩ : ∃ y, bb / 16 = y := ⟨_, rfl⟩
          obtain ⟨y2, hy2⟩ : ∃ y, bb % 16 = y := ⟨_, rfl⟩
          have hand := and15 bb hx
          rw [hy2] at hand
          have hdiv : ((bb : Int) / 16) = (y1 : Int) := by omega
          have hi1 := idx_dig y1 (by omega)
          have hi2 := idx_dig y2 (by omega)
          rw [hy1, hy2] at hp
          clear hy1 hy2
          generalize hexd y1 = d1 at *
          generalize hexd y2 = d2 at *
          have c2 := h2.cell
          obtain ⟨p0, _, _, _, _, _⟩ := h6.cells
          have hK0 : (w.heap.size + 1 : Nat) ≠ W.heap.size := by omega
          rcases c32 with c32 | c32
          · gi_wp2_with (refine ⟨trivial, ?_⟩; gi_at_call 43; refine (CallsIn.inRound l (callsIn_wide.2 (wStr _ _ [92, 120] _ rfl _ h1 (by (try simp only [List.length_cons, List.length_nil]); omega)))).mono ?_; rintro e W3 ⟨⟨_, rfl⟩, p1⟩)
            gi_wp2_with (refine ⟨trivial, ?_⟩; gi_at_call 41; refine (CallsIn.inRound l (callsIn_wide.2 (wByte _ _ _ d1 rfl _ p1.1 (by (try simp only [List.length_append, List.length_cons, List.length_nil]); omega)))).mono ?_; rintro e W4 ⟨rfl, p2⟩; have P1 := hide p1; clear p1)
            gi_wp2_with (refine ⟨trivial, ?_⟩; gi_at_call 41; refine (CallsIn.inRound l (callsIn_wide.2 (wByte _ _ _ d2 rfl _ p2.1 (by (try simp only [List.length_append, List.length_cons, List.length_nil]); omega)))).mono ?_; rintro e W5 ⟨rfl, p3⟩)
            exact fin _ _ hp ⟨by rw [← List.append_assoc, ← List.append_assoc]; exact p3.1, (P1.out.2.1.trans p2.2.1).trans p3.2.1, (P1.out.2.2.trans p2.2.2).trans p3.2.2⟩
          · subst c32
            gi_wp2_with (refine ⟨trivial, ?_⟩; gi_at_call 43; refine (CallsIn.inRound l (callsIn_wide.2 (wStr _ _ [92, 120] _ rfl _ h1 (by (try simp only [List.length_cons, List.length_nil]); omega)))).mono ?_; rintro e W3 ⟨⟨_, rfl⟩, p1⟩)
            gi_wp2_with (refine ⟨trivial, ?_⟩; gi_at_call 41; refine (CallsIn.inRound l (callsIn_wide.2 (wByte _ _ _ d1 rfl _ p1.1 (by (try simp only [List.length_append, List.length_cons, List.length_nil]); omega)))).mono ?_; rintro e W4 ⟨rfl, p2⟩; have P1 := hide p1; clear p1)
            gi_wp2_with (refine ⟨trivial, ?_⟩; gi_at_call 41; refine (CallsIn.inRound l (callsIn_wide.2 (wByte _ _ _ d2 rfl _ p2.1 (by (try simp only [List.length_append, List.length_cons, List.length_nil]); omega)))).mono ?_; rintro e W5 ⟨rfl, p3⟩)
            exact fin _ _ hp ⟨by rw [← List.append_assoc, ← List.append_assoc]; exact p3.1, (P1.out.2.1.trans p2.2.1).trans p3.2.1, (P1.out.2.2.trans p2.2.2).trans p3.2.2⟩
        · have hp : piece s.data.toList ⟨xo, xl, xc, xr⟩ = Lib.encodeRune xr := by unfold piece; rw [if_neg c34, if_neg c10, if_neg c32]
          have n3 : (xr == 127) = false := by simp; exact fun e => c32 (.inr e)
          have n4 : ¬ xr < 32 := fun e => c32 (.inl e)
          clear c34 c32
          gi_wp2_with (refine ⟨trivial, ?_⟩; gi_at_call 42; refine (CallsIn.inRound l (callsIn_wide.2 (wRune _ _ xr (by omega) (by omega) _ h1 (by (try simp only [List.length_append, List.length_cons, List.length_nil]); omega)))).mono ?_; rintro e W3 ⟨⟨_, rfl⟩, p1⟩)
          exact fin _ _ hp p1
  case done =>
    rintro W ⟨h1, h2, h3, h4⟩ hK
    gi_wp2_with (refine ⟨trivial, ?_⟩; gi_at_call 41; refine (callsIn_wide.2 (wByte _ _ 34 34 rfl _ h1 (by have := flat_len s.data.toList (els s.data.toList); simp only [List.length_cons]; omega))).mono ?_)
    rintro e W2 ⟨rfl, k1, k2, k3⟩
    have hK2 := k3 _ _ hK (by simp; omega) (fun c fz e => by cases e)
    gi_wp2_with (refine ⟨trivial, ?_⟩; gi_at_call 44; refine (callsIn_wide.2 (Tryd.Builder_String_any_k _ _ _ _ k1 (Nat.le_of_lt (Bld.lt k1)))).mono ?_)
    rintro e W3 ⟨rfl, m1, m2, m3⟩
    have hK3 := m3 _ _ hK2 (by simp; omega) (fun c fz e => by cases e)
    gi_wp2
    rw [hsz] at hK3
    refine ⟨by simp, .inl ⟨_, _, rfl, run_takeDeferred hK3, ?_⟩⟩
    exact ⟨_, results_tmp rfl _ _ _, rfl, ((h4.trans (k2.mono (by omega))).trans (m2.mono (by omega))).trans (belowK_b (w := w) (Nat.le_refl _) W3 _ _ _ (by omega) hK3 rfl rfl)⟩
  case stop =>
    rintro c pre x W _ h _
    exact h.elim
end Go.Proofs.YtpbebcefnkbnlabDoor
