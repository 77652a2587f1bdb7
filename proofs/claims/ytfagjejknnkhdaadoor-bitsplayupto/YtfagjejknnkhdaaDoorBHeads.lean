/- heads answers true, and turns nothing that was there. -/
import Derived.Test.YtfagjejknnkhdaaDoorBSubSeq
import Derived.Test.YtfagjejknnkhdaaDoorBPut
namespace Go.Proofs.YtfagjejknnkhdaaDoor
open Go.RowKit
attribute [local go_sem] Oper.semAt_some

theorem h_p3 : putW [0, 0] 3 = [8, 0] := by decide
theorem h_p69 : putW [8, 0] 69 = [8, 32] := by decide
theorem h_els : elems [8, 32] = [3, 69] := by decide +kernel
theorem h_subs : subs [5, 7] = [[5], [7], [5, 7]] := by decide +kernel

/-- A counter in a block of its own, that a loop's rounds turn. -/
def Cn {α : Type} (nb : Nat) (X : World) (f : List α → Int) (pre : List α) (S : Blocks) (W : World) : Prop :=
  Boxed W nb 3 (.int .i64 (f pre)) ∧ Below nb X W ∧ ∀ k, S k → nb < k
theorem Cn.own {α : Type} {nb : Nat} {X : World} (f : List α → Int) (hX : X.heap.size = nb + 1) : OwnL X.heap.size (Cn nb X f) := by
  refine ⟨?_, ?_⟩
  · rintro s S W W' row ⟨h1, h2, h3⟩ hg hr
    have hlow : ∀ r, row = some r → nb < r := fun r e => by
      rcases hr r e with h | h
      · have := h.1; omega
      · exact h3 r h
    exact ⟨h1.kept hg (fun e => by have := hlow nb e.symm; omega), h2.grown hg (by have := h2.size; omega) (fun k e => by have := hlow k e; omega), h3⟩
  · rintro s S S' W ⟨h1, h2, h3⟩ hc
    refine ⟨h1, h2, fun k hk => ?_⟩
    rcases hc k hk with h | h
    · exact h3 k h
    · have := h1.lt; omega
theorem Cn.put {α : Type} {nb : Nat} {X : World} {f : List α → Int} {pre : List α} {S : Blocks} {W : World} (h : Cn nb X f pre S W) (_hX : X.heap.size = nb + 1) (post : List α) : Cn nb X f post S (W.setCell ⟨nb, 0, none⟩ (.int .i64 (f post))) :=
  ⟨h.1.set _, h.2.1.setCell (Nat.le_refl _) _, h.2.2⟩
theorem Cn.kept {α : Type} {nb : Nat} {X : World} {f : List α → Int} {pre : List α} {S K : Blocks} {W : World} (h : Cn nb X f pre S W) (hX : X.heap.size = nb + 1) (hK : ∀ k, K k → k < nb) (v : Value) : KeptP X.heap.size K S W (W.setCell ⟨nb, 0, none⟩ v) :=
  KeptP.grown (row := some nb) ⟨rfl, rfl, rfl, by simp [World.setCell], fun k _ hne => Below.heap_setCell W _ v k (fun e => hne (by rw [e]))⟩
    (fun r e => by cases e; exact ⟨fun h' => by have := hK _ h'; omega, fun h' => by have := h.2.2 _ h'; omega, .inl (by omega)⟩)

def accN (l : List Nat) : Int := l.foldl (fun n (i : Nat) => 100 * n + (i : Int)) 0
def accK (l : List (List Int)) : Int := l.foldl (fun n i => 10 * n + ((i.length : Nat) : Int)) 0
theorem accN_snoc (l : List Nat) (x : Nat) : accN (l ++ [x]) = 100 * accN l + (x : Int) := by simp [accN]
theorem accK_snoc (l : List (List Int)) (x : List Int) : accK (l ++ [x]) = 10 * accK l + ((x.length : Nat) : Int) := by simp [accK]
theorem pre_two {α : Type} {a b x : α} {pre post : List α} (h : [a, b] = pre ++ x :: post) : (pre = [] ∧ x = a) ∨ (pre = [a] ∧ x = b) := by
  match pre, h with
  | [], h => simp at h; exact .inl ⟨rfl, h.1.symm⟩
  | [c], h => simp at h; exact .inr ⟨by rw [h.1], h.2.1.symm⟩
  | c :: d :: r, h => simp at h
theorem pre_three {α : Type} {a b c x : α} {pre post : List α} (h : [a, b, c] = pre ++ x :: post) : (pre = [] ∧ x = a) ∨ (pre = [a] ∧ x = b) ∨ (pre = [a, b] ∧ x = c) := by
  match pre, h with
  | [], h => simp at h; exact .inl ⟨rfl, h.1.symm⟩
  | [d], h => simp at h; exact .inr (.inl ⟨by rw [h.1], h.2.1.symm⟩)
  | [d, e], h => simp at h; exact .inr (.inr ⟨by rw [h.1, h.2.1], h.2.2.1.symm⟩)
  | d :: e :: f :: r, h => simp at h
theorem accN_small {pre post : List Nat} {x : Nat} (h : [3, 69] = pre ++ x :: post) : 0 ≤ accN pre ∧ accN pre ≤ 1000 ∧ x ≤ 100 := by
  rcases pre_two h with ⟨rfl, rfl⟩ | ⟨rfl, rfl⟩ <;> decide
theorem accK_small {pre post : List (List Int)} {x : List Int} (h : [[5], [7], [5, 7]] = pre ++ x :: post) : 0 ≤ accK pre ∧ accK pre ≤ 1000 ∧ x.length ≤ 10 := by
  rcases pre_three h with ⟨rfl, rfl⟩ | ⟨rfl, rfl⟩ | ⟨rfl, rfl⟩ <;> decide
theorem boxed_below {W W' : World} {b k : Nat} {t : TypeId} {v : Value} (h : Boxed W k t v) (hb : Below b W W') (hk : k < b) : Boxed W' k t v := (hb.block k hk).trans h
theorem row_below {w w' : World} {B base : Nat} {e : TypeId} {size g n cap : Nat} {xs : List Value} (h : w.ownsRow base e size (.slice (some ⟨g, 0, none⟩) n cap) n xs) (hb : Below B w w') (hB : g < B) : w'.ownsRow base e size (.slice (some ⟨g, 0, none⟩) n cap) n xs := by
  refine ⟨h.1, ?_⟩
  rcases h.2 with ⟨h, _⟩ | ⟨g', cap', cur, hv, hb', hh, rest⟩
  · cases h
  · have hv' := hv
    simp only [Value.slice.injEq, Option.some.injEq, Addr.mk.injEq, and_true, true_and] at hv'
    obtain ⟨rfl, rfl⟩ := hv'
    exact .inr ⟨_, _, cur, rfl, hb', (hb.block _ hB).trans hh, rest⟩
theorem below_gr {B r : Nat} {w w1 w2 : World} (h : Below B w w1) (hg : w1.grownBy w2 (some r)) (hB : B ≤ r) (hw : B ≤ w.heap.size) : Below B w w2 :=
  h.grown hg (by have := h.size; omega) (fun k hk => by cases hk; exact hB)

theorem ownL_false {α : Type} (B : Nat) : OwnL B (fun (_ : α) (_ : Blocks) (_ : World) => False) := ⟨fun _ _ _ _ _ h _ _ => h, fun _ _ _ _ h _ => h⟩
theorem dfr_below {W W' : World} {b k : Nat} {o : Obj} (h : W.heap[k]? = some o) (hb : Below b W W') (hk : k < b) : W'.heap[k]? = some o := (hb.block k hk).trans h

set_option maxRecDepth 100000 in
set_option maxHeartbeats 4000000 in
theorem heads_k (w : World) (ht : Tab w) :
    Calls Tryd.prog 6 #[] w fun e w' => e = .returned (.bool true) ∧ Below w.heap.size w w' := by
  have hn1 := allNil
  have hn2 := subsNil
  refine (callsIn_wide (n := 9)).1 ?_
  refine callsIn_of_wp_marks Tryd.func6 rfl trivial ?_ rfl
  simp only [Tryd.ntmps6, List.size_toArray, List.length_nil, Nat.reduceSub, Array.replicate_succ, Array.replicate_zero, List.push_toArray, List.append_toArray, List.nil_append, List.cons_append]
  gi_wp2_with (refine ⟨trivial, ?_⟩; gi_at_call 4; refine (callsIn_wide.2 (new_k 70 (by decide) w)).mono ?_; rintro e w1 ⟨rfl, A1, A2, A3⟩; have S1 := hide A1; have B1 := hide A2; have Z1 := hide A3; clear A1 A2 A3)
  have S1' : SetAt w1 (w.heap.size + 1) w.heap.size 2 70 [0, 0] := S1.out
  have P3 := hide (put_k S1' 3 (by decide))
  gi_wp2_with (refine ⟨trivial, ?_⟩; gi_at_call 13; refine (callsIn_wide.2 P3.out).mono ?_; clear P3; rintro e w2 ⟨rfl, A1, A2⟩; have S2 := hide A1; have B2 := hide A2; clear A1 A2)
  have S2' := S2.out
  rw [h_p3] at S2'
  have P69 := hide (put_k S2' 69 (by decide))
  gi_wp2_with (refine ⟨trivial, ?_⟩; gi_at_call 13; refine (callsIn_wide.2 P69.out).mono ?_; clear P69; rintro e w3 ⟨rfl, A1, A2⟩; have S3 := hide A1; have B3 := hide A2; clear A1 A2)
  have S3' := S3.out
  rw [h_p69] at S3'
  have P70 := hide (put_out S3' 70 (by decide))
  gi_wp2_with (refine ⟨trivial, ?_⟩; gi_at_call 13; refine (callsIn_wide.2 P70.out).mono ?_; clear P70; rintro e w4 ⟨rfl, rfl⟩)
  have PW := hide (words_k S3')
  gi_wp2_with (refine ⟨trivial, ?_⟩; gi_at_call 14; refine (callsIn_wide.2 PW.out).mono ?_; clear PW; rintro e w5 ⟨gw, cw, rfl, A1, A2⟩; have R5 := hide A1; have B5 := hide A2; clear A1 A2)
  gi_wp2_with (refine ⟨trivial, ?_⟩; gi_at_call 15; refine (callsIn_wide.2 (allMake_k _ _)).mono ?_; rintro e w6 ⟨rfl, rfl⟩)
  have R7 := World.ownsRow_lit (base := 0) (e := 3) (size := 1) (w5.alloc (.cells #[.pointer (some ⟨w.heap.size + 1, 0, none⟩)] 23)) #[.int .i64 5, .int .i64 7] 2 (Nat.zero_le _) (by unfold maxLen; decide) rfl
  rw [World.size_alloc] at R7
  have HM := hide (subsMake_k (its := [5, 7]) R7 (by decide))
  gi_wp2_with (refine ⟨trivial, ?_⟩; gi_at_call 16; refine (callsIn_wide.2 HM.out).mono ?_; clear HM; rintro e w7 ⟨rfl, gi, ci, A1, A2, A3⟩; have M1 := hide A1; have M2 := hide A2; have M3 := hide A3; clear A1 A2 A3)
  have e57 : ([5, 7] : List Int).length = 2 := rfl
  have N1 := M1.out
  have N2 := M2.out
  have N3 := M3.out
  simp only [World.size_alloc, Nat.add_assoc, Nat.reduceAdd] at N1 N2 N3
  clear M1 M2 M3 hn1 hn2 R7
  have z1 := Z1.out
  have z2 := B2.out.size
  have z3 := B3.out.size
  have z5 := B5.out.size
  have z7 := N3.size
  simp only [World.size_alloc] at z7
  have b57 : Below w5.heap.size w5 w7 := (((Below.refl _ w5).alloc (Nat.le_refl _) _).alloc (by simp) _).trans (N3.mono (by omega))
  have b37 : Below w3.heap.size w3 w7 := B5.out.trans (b57.mono z5)
  have bw7 : Below w.heap.size w w7 := (below_gr (below_gr B1.out B2.out (Nat.le_refl _) (Nat.le_refl _)) B3.out (Nat.le_refl _) (Nat.le_refl _)).trans (b37.mono (by omega))
  have s7 : SetAt w7 (w.heap.size + 1) w.heap.size 2 70 [8, 32] := S3'.below b37 S3'.lt S3'.glt
  have t7 : Tab w7 := ht.below bw7 ht.lt
  have a7 : Boxed w7 w5.heap.size 23 (.pointer (some ⟨w.heap.size + 1, 0, none⟩)) := by
    have h0 := (Boxed.new w5 23 (.pointer (some ⟨w.heap.size + 1, 0, none⟩))).alloc (.cells #[.int .i64 5, .int .i64 7] 3)
    exact boxed_below h0 N3 (by omega)
  have r7 := row_below R5.out b57 (R5.out.lt gw rfl).2
  have gwl := (R5.out.lt gw rfl).2
  have gil := (N2.lt gi rfl).2
  clear S1 S1' S2 S2' S3 S3' B1 B2 B3 B5 R5 Z1 N3 b57 b37
  obtain ⟨nb, hnb⟩ : ∃ nb, w7.heap.size = nb := ⟨_, rfl⟩
  obtain ⟨X1, hX1⟩ : ∃ X1, w7.alloc (.cells #[.int .i64 0] 3) = X1 := ⟨_, rfl⟩
  have hz1 : X1.heap.size = nb + 1 := by rw [← hX1, World.size_alloc, hnb]
  have b7X : Below nb w7 X1 := by rw [← hX1, ← hnb]; exact (Below.refl _ _).alloc (Nat.le_refl _) _
  have n1 : Boxed X1 nb 3 (.int .i64 0) := by rw [← hX1, ← hnb]; exact Boxed.new w7 _ _
  rw [hX1, hnb]
  have hb7 : w.heap.size + 2 ≤ w5.heap.size := by omega
  have hb8 : w5.heap.size + 2 ≤ nb := by omega
  rw [hnb] at gil
  have htl := ht.lt
  clear hX1 z1 z2 z3 z5 z7
  refine seqp_law (gf := 38) (lb := #[.pointer (some ⟨w5.heap.size, 0, none⟩)]) rfl (enters_of Tryd.func38 (by kernel_rfl) rfl) (K := boxTab w5.heap.size) (fun k hk => by rcases hk with rfl | rfl <;> omega)
    (all_seq _ _ _ _ _ _ _ X1 (boxed_below a7 b7X (by omega)) (s7.below b7X (by omega) (by omega)) (t7.below b7X (by omega))) (fun _ _ _ _ h => by rw [h.1]; rfl)
    (Cn nb X1 accN) (fun _ _ _ _ => False) (Cn.own accN hz1) (fun _ => ownL_false _) ⟨n1, Below.refl _ _, fun _ h => h.elim⟩ ?round1 ?done1 ?stop1
  case stop1 =>
    rintro c S pre x W _ h _
    exact h.elim
  case round1 =>
    rintro l pre x S vs W hC hS ⟨post, hpost⟩ ⟨rfl, _⟩ hsz
    rw [h_els] at hpost
    obtain ⟨q1, q2, q3⟩ := accN_small hpost
    clear hpost
    gi_wp2
    refine ⟨KeptP.refl _ _ _ _, fun W => Cn nb X1 accN pre S W, fun X Y row h hg hr => (Cn.own accN hz1).grown pre S X Y row h hg (fun r e => .inl (hr r e)), hC, ?_⟩
    clear hC
    rintro W₂ hC hsz2
    have c1 := hC.1.cell
    have c2 := hC.1.frozen
    have k1 := hC.put hz1 (pre ++ [x])
    have k2 := hC.kept (K := boxTab w5.heap.size) hz1 (fun k hk => by rcases hk with rfl | rfl <;> omega) (.int .i64 (accN (pre ++ [x])))
    have R := hide (And.intro k2 k1)
    have hsn := accN_snoc pre x
    rw [hsn] at R
    clear k1 k2 hC hsn
    generalize accN pre = a at *
    gi_wp2
    exact R.out
  case done1 =>
    rintro S W ⟨hc1, hc2, _⟩ hK
    rw [h_els] at hc1
    have e369 : accN [3, 69] = 369 := by decide
    rw [e369] at hc1
    rw [hz1] at hK ⊢
    have b7W : Below nb w7 W := b7X.trans hc2
    have lt1 : nb + 1 < W.heap.size := (Array.getElem?_eq_some_iff.1 hK).1
    gi_wp2
    obtain ⟨mb, hmb⟩ : ∃ mb, W.heap.size = mb := ⟨_, rfl⟩
    obtain ⟨X2, hX2⟩ : ∃ X2, W.alloc (.cells #[.int .i64 0] 3) = X2 := ⟨_, rfl⟩
    have hz2 : X2.heap.size = mb + 1 := by rw [← hX2, World.size_alloc, hmb]
    have bWX : Below mb W X2 := by rw [← hX2, ← hmb]; exact (Below.refl _ _).alloc (Nat.le_refl _) _
    have n2 : Boxed X2 mb 3 (.int .i64 0) := by rw [← hX2, ← hmb]; exact Boxed.new W _ _
    rw [hX2, hmb]
    rw [hmb] at lt1
    clear hX2
    have b7X2 : Below nb w7 X2 := b7W.trans (bWX.mono (by omega))
    refine seqp_law (gf := 41) (lb := #[.pointer (some ⟨w5.heap.size + 1 + 1, 0, none⟩)]) rfl (enters_of Tryd.func41 (by kernel_rfl) rfl) (K := two (w5.heap.size + 1 + 1) gi) (fun k hk => by rcases hk with rfl | rfl <;> omega)
      (subs_seq _ _ gi ci [5, 7] X2 (boxed_below N1 b7X2 (by have := N1.lt; omega)) (row_from (row_below N2 b7X2 (by omega)) (Nat.zero_le _)) (by decide)) (fun _ _ _ _ h => by obtain ⟨g, rfl, _⟩ := h; rfl)
      (Cn mb X2 accK) (fun _ _ _ _ => False) (Cn.own accK hz2) (fun _ => ownL_false _) ⟨n2, Below.refl _ _, fun _ h => h.elim⟩ ?round2 ?done2 ?stop2
    case stop2 =>
      rintro c S pre x W _ h _
      exact h.elim
    case round2 =>
      rintro l pre x S vs W hC hS ⟨post, hpost⟩ ⟨gx, rfl, _, _, _⟩ hsz
      rw [h_subs] at hpost
      obtain ⟨q1, q2, q3⟩ := accK_small hpost
      clear hpost
      gi_wp2
      refine ⟨KeptP.refl _ _ _ _, fun W => Cn mb X2 accK pre S W, fun X Y row h hg hr => (Cn.own accK hz2).grown pre S X Y row h hg (fun r e => .inl (hr r e)), hC, ?_⟩
      clear hC
      rintro W₂ hC hsz2
      have c1 := hC.1.cell
      have c2 := hC.1.frozen
      have k1 := hC.put hz2 (pre ++ [x])
      have k2 := hC.kept (K := two (w5.heap.size + 1 + 1) gi) hz2 (fun k hk => by rcases hk with rfl | rfl <;> omega) (.int .i64 (accK (pre ++ [x])))
      have R := hide (And.intro k2 k1)
      have hsn := accK_snoc pre x
      rw [hsn] at R
      clear k1 k2 hC hsn
      generalize accK pre = a at *
      gi_wp2
      exact R.out
    case done2 =>
      rintro S2 W2 ⟨hd1, hd2, _⟩ hK2
      rw [h_subs] at hd1
      have e112 : accK [[5], [7], [5, 7]] = 112 := by decide
      rw [e112] at hd1
      rw [hz2] at hK2 ⊢
      have bW2 : Below mb W W2 := bWX.trans hd2
      have b72 : Below nb w7 W2 := b7W.trans (bW2.mono (by omega))
      have c9 := (boxed_below hc1 bW2 (by omega)).cell
      have c11 := hd1.cell
      have rW := row_below r7 b72 (by omega)
      have g0 : W2.cell? ⟨gw, 0, none⟩ = some (.int .u64 8) := rW.cellAt 0 (by decide)
      have g1 : W2.cell? ⟨gw, 1, none⟩ = some (.int .u64 32) := rW.cellAt 1 (by decide)
      have k1 := dfr_below hK bW2 (by omega)
      have bw : Below w.heap.size w W2 := bw7.trans (b72.mono (by omega))
      clear hK hd1 hd2 hc1 hc2 rW
      gi_wp2
      have p1 : (W2.putObj (mb + 1) (.deferred none)).heap[nb + 1]? = some (.deferred (some [])) := (World.putObj_heap_other (by omega)).trans k1
      refine ⟨by simp, .inl ⟨_, _, rfl, run_takeDeferred hK2, ⟨by simp, .inl ⟨_, _, rfl, run_takeDeferred p1, ?_⟩⟩⟩⟩
      exact ⟨_, results_tmp rfl _ _ _, rfl, (bw.trans (belowK_b (w := w) (Nat.le_refl _) _ _ _ _ (by omega) hK2 rfl rfl)).trans (belowK_b (w := w) (Nat.le_refl _) _ _ _ _ (by omega) p1 rfl rfl)⟩
end Go.Proofs.YtfagjejknnkhdaaDoor
