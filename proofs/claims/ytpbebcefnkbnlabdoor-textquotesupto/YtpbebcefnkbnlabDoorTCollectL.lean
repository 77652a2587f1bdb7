/- The lists that the statements make of what Lines gives. -/
import Derived.Test.YtpbebcefnkbnlabDoorTLines
namespace Go.Proofs.YtpbebcefnkbnlabDoor
open Go.RowKit
attribute [local go_sem] Oper.semAt_some

theorem infoInt : (Tryd.prog.info? 3).map (fun i => (i.zero, i.size, i.bytes)) = some (some (.int .i64 0), 1, 8) := by kernel_rfl
theorem infoString : (Tryd.prog.info? 9).map (fun i => (i.zero, i.size, i.bytes)) = some (some (.string ⟨#[]⟩), 1, 16) := by kernel_rfl

def numVals (l : List (Nat × List UInt8)) : List Value := l.map fun x => .int .i64 x.1
def strVals (l : List (Nat × List UInt8)) : List Value := l.map fun x => .string (str x.2)

/-- What the two lists hold. -/
def CollL (base : Nat) (l : List (Nat × List UInt8)) (va vb : Value) (W : World) : Prop := W.ownsRow base 3 1 va l.length (numVals l) ∧ W.ownsRow base 9 1 vb l.length (strVals l)

set_option maxRecDepth 100000 in
set_option maxHeartbeats 2000000 in
theorem lines_k (s : ByteArray) (hs : s.size ≤ 1048576) (w : World) :
    Calls Tryd.prog 33 #[.string s] w fun e w' => ∃ va vb, e = .returned (.tuple #[va, vb]) ∧ CollL w.heap.size (lines s.data.toList) va vb w' ∧ Below w.heap.size w w' := by
  obtain ⟨i3, hi3, h30, h31, h32⟩ := info_parts infoInt
  obtain ⟨i1, hi1, h10, h11, h12⟩ := info_parts infoString
  have hnil := linesNil
  refine (callsIn_wide (n := 9)).1 ?_
  refine callsIn_of_wp_marks Tryd.func33 rfl trivial ?_ rfl
  simp only [Tryd.ntmps33, List.size_toArray, List.length_cons, List.length_nil, Nat.reduceAdd, Nat.reduceSub, Array.replicate_succ, Array.replicate_zero, List.push_toArray, List.append_toArray, List.nil_append, List.cons_append]
  gi_wp2_with (refine ⟨trivial, ?_⟩; gi_at_call 26; refine (callsIn_wide.2 (linesMake_k s _)).mono ?_; rintro e w1 ⟨rfl, rfl⟩)
  clear hnil
  have bA := ((Boxed.new w 65 (.slice none 0 0)).alloc (.cells #[.slice none 0 0] 52)).alloc (.cells #[.string s] 9)
  have bR := (Boxed.new (w.alloc (.cells #[.slice none 0 0] 65)) 52 (.slice none 0 0)).alloc (.cells #[.string s] 9)
  have bS := Boxed.new ((w.alloc (.cells #[.slice none 0 0] 65)).alloc (.cells #[.slice none 0 0] 52)) 9 (.string s)
  rw [World.size_alloc] at bR
  rw [World.size_alloc, World.size_alloc] at bS
  have hB0 : Below w.heap.size w (((w.alloc (.cells #[.slice none 0 0] 65)).alloc (.cells #[.slice none 0 0] 52)).alloc (.cells #[.string s] 9)) := (((Below.refl _ w).alloc (Nat.le_refl _) _).alloc (by simp) _).alloc (by simp; omega) _
  obtain ⟨W0, hW0⟩ : ∃ W0, ((w.alloc (.cells #[.slice none 0 0] 65)).alloc (.cells #[.slice none 0 0] 52)).alloc (.cells #[.string s] 9) = W0 := ⟨_, rfl⟩
  have hsz : W0.heap.size = w.heap.size + 3 := by rw [← hW0]; simp
  rw [hW0] at bA bR bS hB0 ⊢
  have hlim : (lines s.data.toList).length ≤ 1048577 := by
    rw [lines, numd_length]
    have := lns_len s.data.toList []
    have h2 : s.data.toList.length = s.size := by rw [Array.length_toList]; rfl
    omega
  refine seq_law (gf := 50) (lb := #[.pointer (some ⟨w.heap.size + 2, 0, none⟩)]) rfl (enters_of Tryd.func50 (by kernel_rfl) rfl) (sb := w.heap.size + 2) (A := W0.heap.size + 2) (by omega) (by omega)
    (lines_seq _ s (by omega) _ W0 bS) (fun _ => rfl)
    (fun pre W => ∃ va vb, (Boxed W w.heap.size 65 va ∧ Boxed W (w.heap.size + 1) 52 vb) ∧ CollL (w.heap.size + 6) pre va vb W ∧ Below w.heap.size w W)
    (fun _ _ _ => False) ?hI (fun _ _ _ _ _ h _ _ => h) ⟨_, _, ⟨bA, bR⟩, ⟨World.ownsRow_nil _ _ _ _, World.ownsRow_nil _ _ _ _⟩, hB0⟩ ?round ?done ?stop
  case hI =>
    rintro pre X Y row ⟨va, vb, ⟨h1, h2⟩, ⟨h3, h4⟩, h5⟩ hg hr
    exact ⟨va, vb, ⟨heldB h1 rfl (by omega) hg hr, heldB h2 rfl (by omega) hg hr⟩, ⟨rowB_kept h3 (by omega) hg hr, rowB_kept h4 (by omega) hg hr⟩, h5.grown hg (by have := h5.size; omega) (fun k e => by have := (hr k e).1; omega)⟩
  case round =>
    rintro l pre x W ⟨va, vb, ⟨h1, h2⟩, ⟨h3, h4⟩, h5⟩ ⟨post, hpost⟩ hAW _
    have hpl : pre.length + 1 ≤ 1048577 := by rw [hpost] at hlim; simp at hlim; omega
    dsimp only [lineV]
    gi_wp2
    refine ⟨Kept.refl _ _ _ _, fun _ W₂ => (∃ va vb, (Boxed W₂ w.heap.size 65 va ∧ Boxed W₂ (w.heap.size + 1) 52 vb) ∧ CollL (w.heap.size + 6) pre va vb W₂ ∧ Below w.heap.size w W₂), ?_, ?_, ?_⟩
    · rintro _ X Y row ⟨va, vb, ⟨h1, h2⟩, ⟨h3, h4⟩, h5⟩ hg hr
      exact ⟨va, vb, ⟨heldB h1 rfl (by omega) hg hr, heldB h2 rfl (by omega) hg hr⟩, ⟨rowB_kept h3 (by omega) hg hr, rowB_kept h4 (by omega) hg hr⟩, h5.grown hg (by have := h5.size; omega) (fun k e => by have := (hr k e).1; omega)⟩
    · exact ⟨va, vb, ⟨h1, h2⟩, ⟨h3, h4⟩, h5⟩
    clear h1 h2 h3 h4 h5
    rintro W₂ ⟨va, vb, ⟨h1, h2⟩, ⟨h3, h4⟩, h5⟩ hAW2 _
    have c1 := h1.cell
    gi_wp2_with (first
      | (gi_at_builtin; refine wpListIn_append_own _ rfl _ _ 65 rfl (w.heap.size + 6) 3 i3 (.int .i64 0) 1 8 Tryd.underlying65 hi3 h30 h31 h32 rfl (by decide) _ _ _ rfl (h3.alloc _) ⟨W₂.heap.size, 0, none⟩ 1 1 [.int .i64 x.1] rfl rfl (cell_one_new _ _ _) (by simp [Value.oneCell']) (by unfold maxLen; omega) (by omega) (by simp; omega) ?_; intro v' w1 hown' hgrow _; obtain ⟨g', cap', rfl⟩ := ownsRow_succ hown'; obtain ⟨k1, k2, k3, k4, k5, k6⟩ := appendStep h1 (by decide) h3 hown' hgrow (Nat.le_refl _) (by omega) h5 (Nat.le_refl _); have q1 := k1.cell; have q2 := k1.frozen; have h2' := (k6 _ h2.lt (by omega) (fun e => by have := (row_block h3 _ e.symm).1; omega)).trans h2; have h4' := row_frame h4 k6 (by omega) (row_ne h4 h3 (by decide)); have c2 := Boxed.cell h2')
      | (gi_at_builtin; refine wpListIn_append_own _ rfl _ _ 52 rfl (w.heap.size + 6) 9 i1 (.string ⟨#[]⟩) 1 16 Tryd.underlying52 hi1 h10 h11 h12 rfl (by decide) _ _ _ rfl (h4'.alloc _) ⟨_, 0, none⟩ 1 1 [.string (str x.2)] rfl rfl (cell_one_at _ _ _ _ (by simp [World.setCell])) (by simp [Value.oneCell']) (by unfold maxLen; omega) (by omega) (by simp at k5 ⊢; omega) ?_; intro v' w2 hown2 hgrow2 _; obtain ⟨g2, cap2, rfl⟩ := ownsRow_succ hown2; obtain ⟨m1, m2, m3, m4, m5, m6⟩ := appendStep h2' (by decide) h4' hown2 hgrow2 (by omega) (by omega) k4 (Nat.le_refl _); have q3 := m1.cell; have q4 := m1.frozen))
    have hK1 := Kept.frame (B := W0.heap.size) (sb := w.heap.size + 2) (A := W0.heap.size + 2) h3 k5 k6 (by omega) (by omega) (by omega) (by omega) (by omega)
    have hK2 := Kept.frame (B := W0.heap.size) (sb := w.heap.size + 2) (A := W0.heap.size + 2) h4' m5 m6 (by omega) (by omega) (by omega) (by omega) (by omega)
    refine ⟨hK1.trans hK2, _, _, ⟨(m6 _ k2.lt (by omega) (fun e => by have := (row_block h4' _ e.symm).1; omega)).trans k2, m2⟩, ⟨?_, ?_⟩, m4⟩
    · rw [numVals, List.map_append, List.length_append]
      exact row_frame k3 m6 (by omega) (row_ne k3 h4' (by decide))
    · rw [strVals, List.map_append, List.length_append]
      exact m3
  case done =>
    rintro W ⟨va, vb, ⟨h1, h2⟩, hcoll, h5⟩ hK
    have c1 := h1.cell
    have c2 := h2.cell
    gi_wp2
    gi_region
    all_goals gi_wp2
    all_goals refine ⟨by simp, .inl ⟨_, _, rfl, run_takeDeferred hK, ?_⟩⟩
    all_goals exact ⟨_, results_tmp2 rfl _ _ _, va, vb, rfl, ⟨row_base (ownsRow_putObj hcoll.1 _ hK rfl) (by omega), row_base (ownsRow_putObj hcoll.2 _ hK rfl) (by omega)⟩, (Below.drew h5).trans (belowK_b (w := w) (Nat.le_refl _) W.drew _ _ _ (by omega) hK rfl rfl)⟩
  case stop =>
    rintro c pre x W _ h _
    exact h.elim
end Go.Proofs.YtpbebcefnkbnlabDoor
