/- What text.Plain answers. -/
import Derived.Test.YtpbebcefnkbnlaaDoorTAt
namespace Go.Proofs.YtpbebcefnkbnlaaDoor
open Go.RowKit
attribute [local go_sem] Oper.semAt_some

/-- The first broken rune's spot, gone to from the rune that begins at k. -/
def plR : Nat → Nat → Nat → List (Int × Nat) → Option (Nat × Nat × Nat)
  | _, _, _, [] => none
  | k, line, col, (r, n) :: t => if r = -1 then some (k, line, col) else plR (k + n) (bLine line r) (bCol col r) t
def plV (x : Option (Nat × Nat × Nat)) : Array Value := match x with
  | none => #[.int .i64 0, .int .i64 0, .int .i64 0]
  | some (k, line, col) => #[.int .i64 k, .int .i64 line, .int .i64 col]

theorem results_cell_cell {P : Program} {fn : Func} {p p2 : Tmp} {ty ty2 : TypeId} (h : fn.results = #[.cell p ty, .cell p2 ty2]) (tmps : Array Value) (w : World) (g : Nat) (t : TypeId) (cs : Array Value) (fr : Nat × Nat) (d : TypeDesc)
    (hp : tmps.getD p undef = .pointer (some ⟨g, 0, none⟩)) (hg : w.heap[g]? = some (.cells cs t fr))
    (hu : P.underlying ty = some d) (hd : (match d with | .struct _ | .array _ _ => true | _ => false) = true) (hi : (P.info? ty).map (·.size) = some cs.size)
    (a2 : Addr) (v2 : Value) (hp2 : tmps.getD p2 undef = .pointer (some a2)) (hu2 : P.underlying ty2 = some .bool) (hc2 : w.cell? a2 = some v2) :
    (results fn tmps).run P w = .ok (.tuple #[.agg cs, v2]) w := by
  have hp' : tmps[p]?.getD undef = .pointer (some ⟨g, 0, none⟩) := by simpa using hp
  have hp2' : tmps[p2]?.getD undef = .pointer (some a2) := by simpa using hp2
  have hl2 : (loadVar ty2 a2).run P w = .ok v2 w := by simp [go_sem, isAgg, run_underlying hu2, hc2]
  simp [results, h, hp', hp2', asAddr, run_loadVar_row w g t ty cs fr d hg hu hd hi, hl2]

set_option maxRecDepth 100000 in
set_option maxHeartbeats 4000000 in
theorem plain_k (s : ByteArray) (hs : s.size ≤ 1048576) (w : World) :
    Calls Tryd.prog 9 #[.string s] w fun e w' => e = .returned (.tuple #[.agg (plV (plR 0 1 1 (ru s.data.toList))), .bool (plR 0 1 1 (ru s.data.toList)).isNone]) ∧ Below w.heap.size w w' := by
  obtain ⟨R, hR⟩ : ∃ R, plR 0 1 1 (ru s.data.toList) = R := ⟨_, rfl⟩
  rw [hR]
  refine (callsIn_wide (n := 9)).1 ?_
  refine callsIn_of_wp_marks Tryd.func9 rfl trivial ?_ rfl
  simp only [Tryd.ntmps9, List.size_toArray, List.length_cons, List.length_nil, Nat.reduceAdd, Nat.reduceSub, Array.replicate_succ, Array.replicate_zero, List.push_toArray, List.append_toArray, List.nil_append, List.cons_append]
  gi_wp2_with (refine ⟨trivial, ?_⟩; gi_at_call 24; refine (callsIn_wide.2 (runesMake_k s _)).mono ?_; rintro e w1 ⟨rfl, rfl⟩)
  obtain ⟨W0, hW0⟩ : ∃ W0, (((w.alloc (.cells #[.int .i64 0, .int .i64 0, .int .i64 0] 23)).alloc (.cells #[.bool false] 4)).alloc (.cells #[.string s] 9)) = W0 := ⟨_, rfl⟩
  have hsz : W0.heap.size = w.heap.size + 3 := by rw [← hW0]; simp
  have bR : At3 W0 w.heap.size 0 0 0 := by
    rw [← hW0]
    have h : At3 (w.alloc (.cells #[.int .i64 0, .int .i64 0, .int .i64 0] 23)) w.heap.size 0 0 0 := heap_alloc_new w _
    exact (h.alloc _).alloc _
  have bB : Boxed W0 (w.heap.size + 1) 4 (.bool false) := by
    rw [← hW0]
    have h := Boxed.new (w.alloc (.cells #[.int .i64 0, .int .i64 0, .int .i64 0] 23)) 4 (.bool false)
    simp only [World.size_alloc] at h
    exact h.alloc _
  have bS : Boxed W0 (w.heap.size + 2) 9 (.string s) := by
    rw [← hW0]
    have h := Boxed.new ((w.alloc (.cells #[.int .i64 0, .int .i64 0, .int .i64 0] 23)).alloc (.cells #[.bool false] 4)) 9 (.string s)
    simp only [World.size_alloc] at h
    exact h
  have hB0 : Below w.heap.size w W0 := by
    rw [← hW0]
    exact (((Below.refl _ w).alloc (Nat.le_refl _) _).alloc (by simp) _).alloc (by simp; omega) _
  simp only [Nat.add_assoc, Nat.reduceAdd]
  rw [hW0]
  refine seq_law (gf := 39) (lb := #[.pointer (some ⟨w.heap.size + 2, 0, none⟩)]) rfl (enters_of Tryd.func39 (by kernel_rfl) rfl) (sb := w.heap.size + 2) (A := W0.heap.size + 3) (by omega) (by omega)
    (runes_seq _ s (by omega) _ W0 bS) (fun _ => rfl)
    (fun pre W => ∃ (k line col : Nat) (t : List (Int × Nat)), (els s.data.toList = pre ++ elS k line col t ∧ plR k line col t = R) ∧ At3 W w.heap.size 0 0 0 ∧ Boxed W (w.heap.size + 1) 4 (.bool false) ∧ Below w.heap.size w W)
    (fun c _ W => c = .ret ∧ ∃ k line col : Nat, R = some (k, line, col) ∧ At3 W w.heap.size k line col ∧ Boxed W (w.heap.size + 1) 4 (.bool false) ∧ Below w.heap.size w W) ?hI ?hIx ?h0 ?round ?done ?stop
  case hI =>
    rintro pre X Y row ⟨k, line, col, t, hp, h1, h2, h5⟩ hg hr
    exact ⟨k, line, col, t, hp, heldB h1 rfl (by omega) hg hr, heldB h2 rfl (by omega) hg hr, h5.grown hg (by have := h5.size; omega) (fun k e => by have := (hr k e).1; omega)⟩
  case hIx =>
    rintro c pre X Y row ⟨hc, k, line, col, hp, h1, h2, h5⟩ hg hr
    exact ⟨hc, k, line, col, hp, heldB h1 rfl (by omega) hg hr, heldB h2 rfl (by omega) hg hr, h5.grown hg (by have := h5.size; omega) (fun k e => by have := (hr k e).1; omega)⟩
  case h0 => exact ⟨0, 1, 1, ru s.data.toList, ⟨rfl, hR⟩, bR, bB, hB0⟩
  case round =>
    rintro l pre x W ⟨k, line, col, t, ⟨he, hat⟩, h1, h2, h5⟩ ⟨post, hpost⟩ hAW _
    obtain ⟨r, n, t', rfl, rfl, hpost'⟩ := elS_next (he.symm.trans hpost)
    dsimp only [elV]
    gi_wp2
    refine ⟨Kept.alloc _ _ _ _ _, fun _ W₂ => (At3 W₂ w.heap.size 0 0 0 ∧ Boxed W₂ (w.heap.size + 1) 4 (.bool false) ∧ Below w.heap.size w W₂) ∧ At3 W₂ W.heap.size k line col, ?_, ?_, ?_⟩
    · rintro _ X Y row ⟨⟨h1, h2, h5⟩, h6⟩ hg hr
      exact ⟨⟨heldB h1 rfl (by omega) hg hr, heldB h2 rfl (by omega) hg hr, h5.grown hg (by have := h5.size; omega) (fun k e => by have := (hr k e).1; omega)⟩, heldB h6 rfl (by omega) hg hr⟩
    · exact ⟨⟨h1.alloc _, h2.alloc _, h5.alloc h5.size _⟩, World.alloc_heap_new W _⟩
    clear h1 h2 h5
    rintro W₂ ⟨⟨h1, h2, h5⟩, h6⟩ hAW2 _
    obtain ⟨p0, p1, p2, _, _, _⟩ := h6.cells
    have c2 := h2.cell
    have c2f := h2.frozen
    by_cases hr1 : r = -1
    · rw [plR, if_pos hr1] at hat
      subst hr1
      obtain ⟨r00, r01, r02, rf00, rf01, rf02⟩ := h1.cells
      have g1 := h1.set0 (k : Int)
      obtain ⟨r10, r11, r12, rf10, rf11, rf12⟩ := g1.cells
      have g2 := g1.set1 (line : Int)
      obtain ⟨r20, r21, r22, rf20, rf21, rf22⟩ := g2.cells
      have g3 := g2.set2 (col : Int)
      have hbx : ∀ (X : World) (i : Nat) (v : Value), Boxed X (w.heap.size + 1) 4 (.bool false) → Boxed (X.setCell ⟨w.heap.size, i, none⟩ v) (w.heap.size + 1) 4 (.bool false) := fun X i v h => h.kept (grown_set X _ i v) (by simp)
      have k3 := hbx _ 2 (.int .i64 (col : Int)) (hbx _ 1 (.int .i64 (line : Int)) (hbx _ 0 (.int .i64 (k : Int)) h2))
      have kc3 := k3.cell
      have kf3 := k3.frozen
      gi_wp2
      have hk3 : ∀ (X : World) (b i : Nat) (v : Value), b < w.heap.size + 2 → Kept W0.heap.size (w.heap.size + 2) (W0.heap.size + 3) X (X.setCell ⟨b, i, none⟩ v) := fun X b i v hb => Kept.grown (grown_set X _ i v) (fun r e => by cases e; exact ⟨by omega, by omega, .inl (by omega)⟩)
      refine ⟨(((hk3 _ _ _ _ (by omega)).trans (hk3 _ _ _ _ (by omega))).trans (hk3 _ _ _ _ (by omega))).trans (hk3 _ _ _ _ (by omega)), rfl, k, line, col, hat.symm, g3.other _ _ _ (by omega), k3.set (.bool false), below_set (below_set (below_set (below_set h5 _ _ _ (Nat.le_refl _)) _ _ _ (Nat.le_refl _)) _ _ _ (Nat.le_refl _)) _ _ _ (by omega)⟩
    · rw [plR, if_neg hr1] at hat
      have hr2 : (r == -1) = false := by simpa using hr1
      gi_wp2
      refine ⟨Kept.refl _ _ _ _, k + n, bLine line r, bCol col r, t', ⟨?_, hat⟩, h1, h2, h5⟩
      rw [he, elS_step]
      simp
  case done =>
    rintro W ⟨k, line, col, t, ⟨he, hat⟩, h1, h2, h5⟩ hK
    have ht : t = [] := by
      have := congrArg List.length he
      rw [List.length_append, elS_length] at this
      exact List.eq_nil_of_length_eq_zero (by omega)
    subst ht
    rw [plR] at hat
    subst hat
    obtain ⟨r00, r01, r02, rf00, rf01, rf02⟩ := h1.cells
    have g1 := h1.set0 0
    obtain ⟨r10, r11, r12, rf10, rf11, rf12⟩ := g1.cells
    have g2 := g1.set1 0
    obtain ⟨r20, r21, r22, rf20, rf21, rf22⟩ := g2.cells
    have g3 := g2.set2 0
    have hbx : ∀ (X : World) (i : Nat) (v : Value), Boxed X (w.heap.size + 1) 4 (.bool false) → Boxed (X.setCell ⟨w.heap.size, i, none⟩ v) (w.heap.size + 1) 4 (.bool false) := fun X i v h => h.kept (grown_set X _ i v) (by simp)
    have k3 := hbx _ 2 (.int .i64 0) (hbx _ 1 (.int .i64 0) (hbx _ 0 (.int .i64 0) h2))
    have kc3 := k3.cell
    have kf3 := k3.frozen
    gi_wp2
    have k4 := k3.set (.bool true)
    have g4 := g3.other (w.heap.size + 1) 0 (.bool true) (by omega)
    have hK2 : ((((W.setCell ⟨w.heap.size, 0, none⟩ (.int .i64 0)).setCell ⟨w.heap.size, 1, none⟩ (.int .i64 0)).setCell ⟨w.heap.size, 2, none⟩ (.int .i64 0)).setCell ⟨w.heap.size + 1, 0, none⟩ (.bool true)).heap[W0.heap.size]? = some (.deferred (some [])) := by
      rw [Below.heap_setCell _ _ _ _ (by simp; omega), Below.heap_setCell _ _ _ _ (by simp; omega), Below.heap_setCell _ _ _ _ (by simp; omega), Below.heap_setCell _ _ _ _ (by simp; omega)]
      exact hK
    have hB4 := below_set (below_set (below_set (below_set h5 w.heap.size 0 (.int .i64 0) (Nat.le_refl _)) w.heap.size 1 (.int .i64 0) (Nat.le_refl _)) w.heap.size 2 (.int .i64 0) (Nat.le_refl _)) (w.heap.size + 1) 0 (.bool true) (by omega)
    refine ⟨by simp, .inl ⟨_, _, rfl, run_takeDeferred hK2, ?_⟩⟩
    have hbx2 : Boxed ((((((W.setCell ⟨w.heap.size, 0, none⟩ (.int .i64 0)).setCell ⟨w.heap.size, 1, none⟩ (.int .i64 0)).setCell ⟨w.heap.size, 2, none⟩ (.int .i64 0)).setCell ⟨w.heap.size + 1, 0, none⟩ (.bool true)).putObj W0.heap.size (.deferred none))) (w.heap.size + 1) 4 (.bool true) := (World.putObj_heap_other (by omega)).trans k4
    exact ⟨_, results_cell_cell rfl _ _ w.heap.size _ _ _ _ rfl ((World.putObj_heap_other (by omega)).trans g4) Tryd.underlying23 rfl infoSpot ⟨w.heap.size + 1, 0, none⟩ (.bool true) rfl Tryd.underlying4 hbx2.cell, rfl, hB4.trans (belowK_b (w := w) (Nat.le_refl _) _ _ _ _ (by omega) hK2 rfl rfl)⟩
  case stop =>
    rintro c pre x W _ ⟨rfl, k, line, col, hRR, h1, h2, h5⟩ hK
    gi_wp2
    refine ⟨by simp, .inl ⟨_, _, rfl, run_takeDeferred hK, ?_⟩⟩
    have hbx2 : Boxed (W.putObj W0.heap.size (.deferred none)) (w.heap.size + 1) 4 (.bool false) := (World.putObj_heap_other (by omega)).trans h2
    refine ⟨_, results_cell_cell rfl _ _ w.heap.size _ _ _ _ rfl ((World.putObj_heap_other (by omega)).trans h1) Tryd.underlying23 rfl infoSpot ⟨w.heap.size + 1, 0, none⟩ (.bool false) rfl Tryd.underlying4 hbx2.cell, ?_, h5.trans (belowK_b (w := w) (Nat.le_refl _) _ _ _ _ (by omega) hK rfl rfl)⟩
    rw [hRR]
    rfl
end Go.Proofs.YtpbebcefnkbnlaaDoor
