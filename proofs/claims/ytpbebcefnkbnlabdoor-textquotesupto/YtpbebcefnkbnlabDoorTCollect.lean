/- The lists that the statements make of what Runes gives. -/
import Derived.Test.YtpbebcefnkbnlabDoorTRunes
namespace Go.Proofs.YtpbebcefnkbnlabDoor
open Go.RowKit
attribute [local go_sem] Oper.semAt_some

theorem infoSpot3 : (Tryd.prog.info? 71).map (fun i => (i.zero, i.size, i.bytes)) = some (some (.agg #[.int .i64 0, .int .i64 0, .int .i64 0]), 3, 24) := by kernel_rfl
theorem infoRune : (Tryd.prog.info? 21).map (fun i => (i.zero, i.size, i.bytes)) = some (some (.int .i32 0), 1, 4) := by kernel_rfl

def spotCells (l : List El) : List Value := l.flatMap fun x => [.int .i64 x.off, .int .i64 x.line, .int .i64 x.col]
def runeVals (l : List El) : List Value := l.map fun x => .int .i32 x.r
theorem spotCells_snoc (l : List El) (x : El) : spotCells (l ++ [x]) = spotCells l ++ [.int .i64 x.off, .int .i64 x.line, .int .i64 x.col] := by simp [spotCells]
theorem runeVals_snoc (l : List El) (x : El) : runeVals (l ++ [x]) = runeVals l ++ [.int .i32 x.r] := by simp [runeVals]

/-- What the two lists hold. -/
def Coll (base : Nat) (l : List El) (va vb : Value) (W : World) : Prop := W.ownsRow base 71 3 va l.length (spotCells l) ∧ W.ownsRow base 21 1 vb l.length (runeVals l)

set_option maxRecDepth 100000 in
set_option maxHeartbeats 2000000 in
theorem runes_k (s : ByteArray) (hs : s.size ≤ 1048576) (w : World) :
    Calls Tryd.prog 32 #[.string s] w fun e w' => ∃ va vb, e = .returned (.tuple #[va, vb]) ∧ Coll w.heap.size (els s.data.toList) va vb w' ∧ Below w.heap.size w w' := by
  obtain ⟨i3, hi3, h30, h31, h32⟩ := info_parts infoSpot3
  obtain ⟨i1, hi1, h10, h11, h12⟩ := info_parts infoRune
  have hnil := runesNil
  refine (callsIn_wide (n := 9)).1 ?_
  refine callsIn_of_wp_marks Tryd.func32 rfl trivial ?_ rfl
  simp only [Tryd.ntmps32, List.size_toArray, List.length_cons, List.length_nil, Nat.reduceAdd, Nat.reduceSub, Array.replicate_succ, Array.replicate_zero, List.push_toArray, List.append_toArray, List.nil_append, List.cons_append]
  gi_wp2_with (refine ⟨trivial, ?_⟩; gi_at_call 25; refine (callsIn_wide.2 (runesMake_k s _)).mono ?_; rintro e w1 ⟨rfl, rfl⟩)
  clear hnil
  have bA := ((Boxed.new w 61 (.slice none 0 0)).alloc (.cells #[.slice none 0 0] 62)).alloc (.cells #[.string s] 9)
  have bR := (Boxed.new (w.alloc (.cells #[.slice none 0 0] 61)) 62 (.slice none 0 0)).alloc (.cells #[.string s] 9)
  have bS := Boxed.new ((w.alloc (.cells #[.slice none 0 0] 61)).alloc (.cells #[.slice none 0 0] 62)) 9 (.string s)
  rw [World.size_alloc] at bR
  rw [World.size_alloc, World.size_alloc] at bS
  have hB0 : Below w.heap.size w (((w.alloc (.cells #[.slice none 0 0] 61)).alloc (.cells #[.slice none 0 0] 62)).alloc (.cells #[.string s] 9)) := (((Below.refl _ w).alloc (Nat.le_refl _) _).alloc (by simp) _).alloc (by simp; omega) _
  obtain ⟨W0, hW0⟩ : ∃ W0, ((w.alloc (.cells #[.slice none 0 0] 61)).alloc (.cells #[.slice none 0 0] 62)).alloc (.cells #[.string s] 9) = W0 := ⟨_, rfl⟩
  have hsz : W0.heap.size = w.heap.size + 3 := by rw [← hW0]; simp
  rw [hW0] at bA bR bS hB0 ⊢
  have hlim : (els s.data.toList).length ≤ 1048576 := by
    rw [els_length]
    have := ru_length_le s.data.toList
    have h2 : s.data.toList.length = s.size := by rw [Array.length_toList]; rfl
    omega
  refine seq_law (gf := 46) (lb := #[.pointer (some ⟨w.heap.size + 2, 0, none⟩)]) rfl (enters_of Tryd.func46 (by kernel_rfl) rfl) (sb := w.heap.size + 2) (A := W0.heap.size + 3) (by omega) (by omega)
    (runes_seq _ s (by omega) _ W0 bS) (fun _ => rfl)
    (fun pre W => ∃ va vb, (Boxed W w.heap.size 61 va ∧ Boxed W (w.heap.size + 1) 62 vb) ∧ Coll (w.heap.size + 7) pre va vb W ∧ Below w.heap.size w W)
    (fun _ _ _ => False) ?hI (fun _ _ _ _ _ h _ _ => h) ⟨_, _, ⟨bA, bR⟩, ⟨World.ownsRow_nil _ _ _ _, World.ownsRow_nil _ _ _ _⟩, hB0⟩ ?round ?done ?stop
  case hI =>
    rintro pre X Y row ⟨va, vb, ⟨h1, h2⟩, ⟨h3, h4⟩, h5⟩ hg hr
    exact ⟨va, vb, ⟨heldB h1 rfl (by omega) hg hr, heldB h2 rfl (by omega) hg hr⟩, ⟨rowB_kept h3 (by omega) hg hr, rowB_kept h4 (by omega) hg hr⟩, h5.grown hg (by have := h5.size; omega) (fun k e => by have := (hr k e).1; omega)⟩
  case round =>
    rintro l pre x W ⟨va, vb, ⟨h1, h2⟩, ⟨h3, h4⟩, h5⟩ ⟨post, hpost⟩ hAW _
    have hpl : pre.length + 1 ≤ 1048576 := by rw [hpost] at hlim; simp at hlim; omega
    dsimp only [elV]
    gi_wp2
    refine ⟨Kept.alloc _ _ _ _ _, fun _ W₂ => (∃ va vb, (Boxed W₂ w.heap.size 61 va ∧ Boxed W₂ (w.heap.size + 1) 62 vb) ∧ Coll (w.heap.size + 7) pre va vb W₂ ∧ Below w.heap.size w W₂) ∧ At3 W₂ W.heap.size x.off x.line x.col, ?_, ?_, ?_⟩
    · rintro _ X Y row ⟨⟨va, vb, ⟨h1, h2⟩, ⟨h3, h4⟩, h5⟩, h6⟩ hg hr
      exact ⟨⟨va, vb, ⟨heldB h1 rfl (by omega) hg hr, heldB h2 rfl (by omega) hg hr⟩, ⟨rowB_kept h3 (by omega) hg hr, rowB_kept h4 (by omega) hg hr⟩, h5.grown hg (by have := h5.size; omega) (fun k e => by have := (hr k e).1; omega)⟩, heldB h6 rfl (by omega) hg hr⟩
    · exact ⟨⟨va, vb, ⟨h1.alloc _, h2.alloc _⟩, ⟨h3.alloc _, h4.alloc _⟩, h5.alloc h5.size _⟩, World.alloc_heap_new W _⟩
    clear h1 h2 h3 h4 h5
    rintro W₂ ⟨⟨va, vb, ⟨h1, h2⟩, ⟨h3, h4⟩, h5⟩, h6⟩ hAW2 _
    have c1 := h1.cell
    obtain ⟨p0, p1, p2, _, _, _⟩ := h6.cells
    gi_wp2_with (first
      | (gi_at_builtin; refine wpListIn_append_own _ rfl _ _ 61 rfl (w.heap.size + 7) 71 i3 (.agg #[.int .i64 0, .int .i64 0, .int .i64 0]) 3 24 Tryd.underlying61 hi3 h30 h31 h32 rfl (by decide) _ _ _ rfl (h3.alloc _) ⟨W₂.heap.size, 0, none⟩ 1 1 [.int .i64 x.off, .int .i64 x.line, .int .i64 x.col] rfl rfl (cell_three_new _ _ _ _ _) (by simp [Value.oneCell']) (by unfold maxLen; omega) (by omega) (by simp; omega) ?_; intro v' w1 hown' hgrow _; obtain ⟨g', cap', rfl⟩ := ownsRow_succ hown'; obtain ⟨k1, k2, k3, k4, k5, k6⟩ := appendStep h1 (by decide) h3 hown' hgrow (Nat.le_refl _) (by omega) h5 (Nat.le_refl _); have q1 := k1.cell; have q2 := k1.frozen; have h2' := (k6 _ h2.lt (by omega) (fun e => by have := (row_block h3 _ e.symm).1; omega)).trans h2; have h4' := row_frame h4 k6 (by omega) (row_ne h4 h3 (by decide)); have c2 := Boxed.cell h2')
      | (gi_at_builtin; refine wpListIn_append_own _ rfl _ _ 62 rfl (w.heap.size + 7) 21 i1 (.int .i32 0) 1 4 Tryd.underlying62 hi1 h10 h11 h12 rfl (by decide) _ _ _ rfl (h4'.alloc _) ⟨_, 0, none⟩ 1 1 [.int .i32 x.r] rfl rfl (cell_one_at _ _ _ _ (by simp [World.setCell])) (by simp [Value.oneCell']) (by unfold maxLen; omega) (by omega) (by simp at k5 ⊢; omega) ?_; intro v' w2 hown2 hgrow2 _; obtain ⟨g2, cap2, rfl⟩ := ownsRow_succ hown2; obtain ⟨m1, m2, m3, m4, m5, m6⟩ := appendStep h2' (by decide) h4' hown2 hgrow2 (by omega) (by omega) k4 (Nat.le_refl _); have q3 := m1.cell; have q4 := m1.frozen))
    have hK1 := Kept.frame (B := W0.heap.size) (sb := w.heap.size + 2) (A := W0.heap.size + 3) h3 k5 k6 (by omega) (by omega) (by omega) (by omega) (by omega)
    have hK2 := Kept.frame (B := W0.heap.size) (sb := w.heap.size + 2) (A := W0.heap.size + 3) h4' m5 m6 (by omega) (by omega) (by omega) (by omega) (by omega)
    refine ⟨hK1.trans hK2, _, _, ⟨(m6 _ k2.lt (by omega) (fun e => by have := (row_block h4' _ e.symm).1; omega)).trans k2, m2⟩, ⟨?_, ?_⟩, m4⟩
    · rw [spotCells_snoc, List.length_append]
      exact row_frame k3 m6 (by omega) (row_ne k3 h4' (by decide))
    · rw [runeVals_snoc, List.length_append]
      exact m3
  case done =>
    rintro W ⟨va, vb, ⟨h1, h2⟩, hcoll, h5⟩ hK
    have c1 := h1.cell
    have c2 := h2.cell
    gi_wp2
    gi_region
    all_goals gi_wp2
    all_goals refine ⟨by simp, .inl ⟨_, _, rfl, run_takeDeferred hK, ?_⟩⟩
    all_goals exact ⟨_, results_tmp2 rfl _ _ _, va, vb, rfl, ⟨row_base (ownsRow_putObj hcoll.1 _ hK rfl) (by omega), row_base (ownsRow_putObj hcoll.2 _ hK rfl) (by omega)⟩, (Below.drew h5).trans (belowK_b (w := w) (Nat.le_refl _) W.drew _ _ _ (by omega) hK rfl rfl)⟩
  case stop =>
    rintro c pre x W _ h _
    exact h.elim
end Go.Proofs.YtpbebcefnkbnlabDoor
