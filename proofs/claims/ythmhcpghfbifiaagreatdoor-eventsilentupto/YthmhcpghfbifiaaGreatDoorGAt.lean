/- Regions that draw their order, whose operations only read and whose callees may make memory of their own: walked once, in the order of the text. -/
import Derived.Test.YthmhcpghfbifiaaGreatDoorGRefText
import Derived.BigQuiet
namespace Go.Proofs.YthmhcpghfbifiaaGreatDoor
open Go.RowKit

/-- A world that has grown out of another, and left what was there as it was. -/
structure Wb (w : World) where
  val : World
  below : Below w.heap.size w val

theorem Wb.any (w : World) : Nonempty (Wb w) := ⟨⟨w, Below.refl _ _⟩⟩
theorem below_draw (w : World) : Below w.heap.size w { w with drawn := w.drawn + 1 } := ⟨rfl, rfl, rfl, Nat.le_refl _, fun _ _ => rfl⟩
theorem wp_region_below {P : Program} {id : Nat} {Q : Exit → Act → World → Prop} {a : Act} {w : World} {l : List Oper} (hm : P.follows .mixedOrders = true) (hB : Region.lexB .any l.toArray = true)
    (h : wpQuiet P l.toArray (fun w' => ∃ q : Wb w, w' = q.val) (fun a' => ∀ w', (∃ q : Wb w, w' = q.val) → Q .normal a' w') l a) : (Code.region id l.toArray true).wp P Q a w :=
  wp_region_quiet (C := fun w' => ∃ q : Wb w, w' = q.val) hm hB ⟨⟨_, below_draw w⟩, rfl⟩ (by simpa using h)
theorem Wb.cell {w : World} (q : Wb w) {a : Addr} {v : Value} (h : w.cell? a = some v) : q.val.cell? a = some v := keepCell h q.below
/-- A callee that makes memory of its own, met in such a world. -/
theorem Wb.calls {w : World} {P : Program} {f : FuncId} {args : Array Value} (q : Wb w) {v : Value} (h : Calls P f args q.val fun e w' => e = .returned v ∧ Below q.val.heap.size q.val w') : Calls P f args q.val fun e w'' => e = .returned v ∧ ∃ q' : Wb w, w'' = q'.val :=
  h.mono fun _ w' ⟨he, hb⟩ => ⟨he, ⟨w', q.below.trans (hb.mono q.below.size)⟩, rfl⟩
end Go.Proofs.YthmhcpghfbifiaaGreatDoor

/- Line and column of a place. -/
namespace Go.Proofs.YthmhcpghfbifiaaGreatDoor
open Go.RowKit

/-- Line and column of the place o, gone to from the rune that begins at k. -/
def atR (o : Nat) : Nat → Nat → Nat → List (Int × Nat) → Nat × Nat
  | _, line, col, [] => (line, col)
  | k, line, col, (r, n) :: t => if k < o then atR o (k + n) (bLine line r) (bCol col r) t else (line, col)
theorem bLine_le (line : Nat) (r : Int) : bLine line r ≤ line + 1 := by unfold bLine; split <;> omega
theorem bCol_le (col : Nat) (r : Int) : bCol col r ≤ col + 1 := by unfold bCol; split <;> omega
/-- A list's next element, and where one is behind it. -/
theorem elS_next {pre post : List El} {x : El} {k line col : Nat} {t : List (Int × Nat)} (h : pre ++ elS k line col t = pre ++ x :: post) : ∃ r n t', t = (r, n) :: t' ∧ x = ⟨k, line, col, r⟩ ∧ post = elS (k + n) (bLine line r) (bCol col r) t' := by
  have h := List.append_cancel_left h
  match t, h with
  | [], h => rw [elS] at h; cases h
  | (r, n) :: t', h =>
    rw [elS_step] at h
    obtain ⟨e1, e2⟩ := List.cons.inj h
    exact ⟨r, n, t', rfl, e1.symm, e2.symm⟩
end Go.Proofs.YthmhcpghfbifiaaGreatDoor

/- The document's spots of the runes of a text. -/
namespace Go.Proofs.YthmhcpghfbifiaaGreatDoor
open Go.RowKit

/-- A block that holds three numbers. -/
def AtT (t : TypeId) (W : World) (A : Nat) (a b c : Int) : Prop := W.heap[A]? = some (.cells #[.int .i64 a, .int .i64 b, .int .i64 c] t (0, 0))
theorem AtT.cells {t : TypeId} {W : World} {A : Nat} {a b c : Int} (h : AtT t W A a b c) : W.cell? ⟨A, 0, none⟩ = some (.int .i64 a) ∧ W.cell? ⟨A, 1, none⟩ = some (.int .i64 b) ∧ W.cell? ⟨A, 2, none⟩ = some (.int .i64 c) ∧ W.frozen? ⟨A, 0, none⟩ = false ∧ W.frozen? ⟨A, 1, none⟩ = false ∧ W.frozen? ⟨A, 2, none⟩ = false := by
  refine ⟨?_, ?_, ?_, ?_, ?_, ?_⟩ <;> simp [World.cell?, World.frozen?, show W.heap[A]? = _ from h]
theorem AtT.set0 {t : TypeId} {W : World} {A : Nat} {a b c : Int} (h : AtT t W A a b c) (x : Int) : AtT t (W.setCell ⟨A, 0, none⟩ (.int .i64 x)) A x b c := by
  simp [AtT, World.setCell, Array.getElem?_modify, show W.heap[A]? = _ from h]
theorem AtT.set1 {t : TypeId} {W : World} {A : Nat} {a b c : Int} (h : AtT t W A a b c) (x : Int) : AtT t (W.setCell ⟨A, 1, none⟩ (.int .i64 x)) A a x c := by
  simp [AtT, World.setCell, Array.getElem?_modify, show W.heap[A]? = _ from h]
theorem AtT.set2 {t : TypeId} {W : World} {A : Nat} {a b c : Int} (h : AtT t W A a b c) (x : Int) : AtT t (W.setCell ⟨A, 2, none⟩ (.int .i64 x)) A a b x := by
  simp [AtT, World.setCell, Array.getElem?_modify, show W.heap[A]? = _ from h]
theorem AtT.alloc {t : TypeId} {W : World} {A : Nat} {a b c : Int} (h : AtT t W A a b c) (o : Obj) : AtT t (W.alloc o) A a b c :=
  (Below.heap_alloc W o A (Array.getElem?_eq_some_iff.1 h).1).trans h
theorem AtT.lt {t : TypeId} {W : World} {A : Nat} {a b c : Int} (h : AtT t W A a b c) : A < W.heap.size := (Array.getElem?_eq_some_iff.1 h).1
theorem below_set {w W : World} (h : Below w.heap.size w W) (A i : Nat) (v : Value) (hA : w.heap.size ≤ A) : Below w.heap.size w (W.setCell ⟨A, i, none⟩ v) :=
  h.grown (grown_set W A i v) h.size (fun k e => by cases e; exact hA)
theorem row_set {W : World} {base : Nat} {e : TypeId} {size : Nat} {v : Value} {k : Nat} {xs : List Value} (h : W.ownsRow base e size v k xs) (A i : Nat) (u : Value) (hA : A < base) : (W.setCell ⟨A, i, none⟩ u).ownsRow base e size v k xs :=
  h.kept (grown_set W A i u) (by
    rcases h.2 with ⟨e, _⟩ | ⟨g, cap, cur, e, hb, _⟩
    · rw [e]; exact .inl rfl
    · rw [e]; right; simp [Value.ownBlock]; omega)

end Go.Proofs.YthmhcpghfbifiaaGreatDoor

/- What text.At answers. -/
namespace Go.Proofs.YthmhcpghfbifiaaGreatDoor
open Go.RowKit
attribute [local go_sem] Oper.semAt_some

theorem At3.other {W : World} {A : Nat} {a b c : Int} (h : At3 W A a b c) (B i : Nat) (v : Value) (hne : A ≠ B) : At3 (W.setCell ⟨B, i, none⟩ v) A a b c := (Below.heap_setCell W ⟨B, i, none⟩ v A hne).trans h
def clamp (s : ByteArray) (o : Int) : Nat := (min (max o 0) (s.size : Int)).toNat

set_option maxRecDepth 100000 in
set_option maxHeartbeats 4000000 in
theorem at_k (s : ByteArray) (hs : s.size ≤ 1000000000000) (o : Int) (w : World) :
    Calls Tryz.prog 66 #[.string s, .int .i64 o] w fun e w' => e = .returned (.agg #[.int .i64 (clamp s o : Nat), .int .i64 (atR (clamp s o) 0 1 1 (ru s.data.toList)).1, .int .i64 (atR (clamp s o) 0 1 1 (ru s.data.toList)).2]) ∧ Below w.heap.size w w' := by
  have hcl : min (max o 0) (s.size : Int) = (clamp s o : Int) := by unfold clamp; omega
  have hcl2 : clamp s o ≤ s.size := by unfold clamp; omega
  generalize clamp s o = q at *
  obtain ⟨R, hR⟩ : ∃ R, atR q 0 1 1 (ru s.data.toList) = R := ⟨_, rfl⟩
  rw [hR]
  refine (callsIn_wide (n := 9)).1 ?_
  refine callsIn_of_wp_marks Tryz.func66 rfl trivial ?_ rfl
  simp only [Tryz.ntmps66, List.size_toArray, List.length_cons, List.length_nil, Nat.reduceAdd, Nat.reduceSub, Array.replicate_succ, Array.replicate_zero, List.push_toArray, List.append_toArray, List.nil_append, List.cons_append]
  gi_wp2_with (first
    | (refine ⟨trivial, ?_⟩; gi_at_call 82; refine (callsIn_wide.2 (first_k _)).mono ?_; rintro e w1 ⟨rfl, rfl⟩)
    | (refine ⟨trivial, ?_⟩; gi_at_call 83; refine (callsIn_wide.2 (runesMake_k s _)).mono ?_; rintro e w1 ⟨rfl, rfl⟩))
  obtain ⟨W0, hW0⟩ : ∃ W0, (((((w.alloc (.cells #[.int .i64 (q : Int)] 3)).alloc (.cells #[.int .i64 0, .int .i64 0, .int .i64 0] 32)).alloc (.cells #[.int .i64 0, .int .i64 1, .int .i64 1] 32)).alloc (.cells #[.int .i64 0, .int .i64 1, .int .i64 1] 32)).alloc (.cells #[.string s] 9)) = W0 := ⟨_, rfl⟩
  have hsz : W0.heap.size = w.heap.size + 5 := by rw [← hW0]; simp
  have bO : Boxed W0 w.heap.size 3 (.int .i64 (q : Int)) := by rw [← hW0]; exact ((((Boxed.new w _ _).alloc _).alloc _).alloc _).alloc _
  have bR : At3 W0 (w.heap.size + 1) 0 0 0 := by
    rw [← hW0]
    have h : At3 ((w.alloc (.cells #[.int .i64 (q : Int)] 3)).alloc (.cells #[.int .i64 0, .int .i64 0, .int .i64 0] 32)) (w.heap.size + 1) 0 0 0 := heap_alloc2_new w _ _
    exact ((h.alloc _).alloc _).alloc _
  have bA : At3 W0 (w.heap.size + 3) 0 1 1 := by
    rw [← hW0]
    have h := heap_alloc2_new ((w.alloc (.cells #[.int .i64 (q : Int)] 3)).alloc (.cells #[.int .i64 0, .int .i64 0, .int .i64 0] 32)) (.cells #[.int .i64 0, .int .i64 1, .int .i64 1] 32) (.cells #[.int .i64 0, .int .i64 1, .int .i64 1] 32)
    simp only [World.size_alloc] at h
    exact At3.alloc h _
  have bS : Boxed W0 (w.heap.size + 4) 9 (.string s) := by
    rw [← hW0]
    have h := Boxed.new ((((w.alloc (.cells #[.int .i64 (q : Int)] 3)).alloc (.cells #[.int .i64 0, .int .i64 0, .int .i64 0] 32)).alloc (.cells #[.int .i64 0, .int .i64 1, .int .i64 1] 32)).alloc (.cells #[.int .i64 0, .int .i64 1, .int .i64 1] 32)) 9 (.string s)
    simp only [World.size_alloc] at h
    exact h
  have hB0 : Below w.heap.size w W0 := by
    rw [← hW0]
    exact (((((Below.refl _ w).alloc (Nat.le_refl _) _).alloc (by simp) _).alloc (by simp; omega) _).alloc (by simp; omega) _).alloc (by simp; omega) _
  simp only [Nat.add_assoc, Nat.reduceAdd]
  rw [hW0]
  have hlim : (els s.data.toList).length ≤ 1000000000000 := by
    rw [els_length]
    have := ru_length_le s.data.toList
    have h2 : s.data.toList.length = s.size := by rw [Array.length_toList]; rfl
    omega
  refine seq_law (gf := 105) (lb := #[.pointer (some ⟨w.heap.size + 4, 0, none⟩)]) rfl (enters_of Tryz.func105 (by kernel_rfl) rfl) (sb := w.heap.size + 4) (A := W0.heap.size + 3) (by omega) (by omega)
    (runes_seq _ s (by omega) _ W0 bS) (fun _ => rfl)
    (fun pre W => ∃ (k line col : Nat) (t : List (Int × Nat)) (z : Int), (els s.data.toList = pre ++ elS k line col t ∧ atR q k line col t = R ∧ line ≤ pre.length + 1 ∧ col ≤ pre.length + 1) ∧ Boxed W w.heap.size 3 (.int .i64 (q : Int)) ∧ At3 W (w.heap.size + 1) 0 0 0 ∧ At3 W (w.heap.size + 3) z line col ∧ Below w.heap.size w W)
    (fun c _ W => c = .exit 0 ∧ ∃ z : Int, Boxed W w.heap.size 3 (.int .i64 (q : Int)) ∧ At3 W (w.heap.size + 1) 0 0 0 ∧ At3 W (w.heap.size + 3) z R.1 R.2 ∧ Below w.heap.size w W) ?hI ?hIx ?h0 ?round ?done ?stop
  case hI =>
    rintro pre X Y row ⟨k, line, col, t, z, hp, h1, h2, h3, h5⟩ hg hr
    exact ⟨k, line, col, t, z, hp, heldB h1 rfl (by omega) hg hr, heldB h2 rfl (by omega) hg hr, heldB h3 rfl (by omega) hg hr, h5.grown hg (by have := h5.size; omega) (fun k e => by have := (hr k e).1; omega)⟩
  case hIx =>
    rintro c pre X Y row ⟨hc, z, h1, h2, h3, h5⟩ hg hr
    exact ⟨hc, z, heldB h1 rfl (by omega) hg hr, heldB h2 rfl (by omega) hg hr, heldB h3 rfl (by omega) hg hr, h5.grown hg (by have := h5.size; omega) (fun k e => by have := (hr k e).1; omega)⟩
  case h0 => exact ⟨0, 1, 1, ru s.data.toList, 0, ⟨rfl, hR, by simp, by simp⟩, bO, bR, bA, hB0⟩
  case round =>
    rintro l pre x W ⟨k, line, col, t, z, ⟨he, hat, hl1, hl2⟩, h1, h2, h3, h5⟩ ⟨post, hpost⟩ hAW _
    obtain ⟨r, n, t', rfl, rfl, hpost'⟩ := elS_next (he.symm.trans hpost)
    have hpl : pre.length + 1 ≤ 1000000000000 := by rw [hpost] at hlim; simp at hlim; omega
    dsimp only [elV]
    gi_wp2
    refine ⟨Kept.alloc _ _ _ _ _, fun _ W₂ => (Boxed W₂ w.heap.size 3 (.int .i64 (q : Int)) ∧ At3 W₂ (w.heap.size + 1) 0 0 0 ∧ At3 W₂ (w.heap.size + 3) z line col ∧ Below w.heap.size w W₂) ∧ At3 W₂ W.heap.size k line col, ?_, ?_, ?_⟩
    · rintro _ X Y row ⟨⟨h1, h2, h3, h5⟩, h6⟩ hg hr
      exact ⟨⟨heldB h1 rfl (by omega) hg hr, heldB h2 rfl (by omega) hg hr, heldB h3 rfl (by omega) hg hr, h5.grown hg (by have := h5.size; omega) (fun k e => by have := (hr k e).1; omega)⟩, heldB h6 rfl (by omega) hg hr⟩
    · exact ⟨⟨h1.alloc _, h2.alloc _, h3.alloc _, h5.alloc h5.size _⟩, World.alloc_heap_new W _⟩
    clear h1 h2 h3 h5
    rintro W₂ ⟨⟨h1, h2, h3, h5⟩, h6⟩ hAW2 _
    have c1 := h1.cell
    obtain ⟨p0, p1, p2, _, _, _⟩ := h6.cells
    by_cases hkq : k < q
    · rw [atR, if_pos hkq] at hat
      obtain ⟨a0, a1, a2, f0, f1, f2⟩ := h3.cells
      gi_wp2_with (refine ⟨trivial, ?_⟩; gi_at_call 84; refine (CallsIn.inRound l (callsIn_wide.2 (behind_k k line col r _ (by omega) (by omega)))).mono ?_; rintro e w5 ⟨rfl, o1, o2, rfl⟩; have hat5 := (h3.alloc o1).alloc o2; obtain ⟨d50, d51, d52, f50, f51, f52⟩ := hat5.cells; have hat6 := hat5.set0 (k : Int); obtain ⟨d60, d61, d62, f60, f61, f62⟩ := hat6.cells; have hat7 := hat6.set1 (bLine line r : Nat); obtain ⟨d70, d71, d72, f70, f71, f72⟩ := hat7.cells; have hat8 := hat7.set2 (bCol col r : Nat))
      have hk3 : ∀ (X : World) (i : Nat) (v : Value), Kept W0.heap.size (w.heap.size + 4) (W0.heap.size + 3) X (X.setCell ⟨w.heap.size + 3, i, none⟩ v) := fun X i v => Kept.grown (grown_set X _ i v) (fun r e => by cases e; exact ⟨by omega, by omega, .inl (by omega)⟩)
      have hbx : ∀ (X : World) (i : Nat) (v : Value), Boxed X w.heap.size 3 (.int .i64 (q : Int)) → Boxed (X.setCell ⟨w.heap.size + 3, i, none⟩ v) w.heap.size 3 (.int .i64 (q : Int)) := fun X i v h => h.kept (grown_set X _ i v) (by simp)
      have b1 := (h5.alloc h5.size o1).alloc (by have := h5.size; simp; omega) o2
      refine ⟨((((Kept.alloc _ _ _ _ _).trans (Kept.alloc _ _ _ _ _)).trans (hk3 _ _ _)).trans (hk3 _ _ _)).trans (hk3 _ _ _), k + n, bLine line r, bCol col r, t', k, ⟨?_, hat, ?_, ?_⟩, hbx _ _ _ (hbx _ _ _ (hbx _ _ _ ((h1.alloc o1).alloc o2))), ((((h2.alloc o1).alloc o2).other _ _ _ (by omega)).other _ _ _ (by omega)).other _ _ _ (by omega), hat8, below_set (below_set (below_set b1 _ _ _ (by omega)) _ _ _ (by omega)) _ _ _ (by omega)⟩
      · rw [he, elS_step]
        simp
      · have := bLine_le line r
        simp
        omega
      · have := bCol_le col r
        simp
        omega
    · rw [atR, if_neg hkq] at hat
      gi_wp2
      refine ⟨Kept.refl _ _ _ _, rfl, z, h1, h2, ?_, h5⟩
      rw [← hat]
      exact h3
  case done =>
    rintro W ⟨k, line, col, t, z, ⟨he, hat, hl1, hl2⟩, h1, h2, h3, h5⟩ hK
    have ht : t = [] := by
      have := congrArg List.length he
      rw [List.length_append, elS_length] at this
      exact List.eq_nil_of_length_eq_zero (by omega)
    subst ht
    rw [atR] at hat
    subst hat
    have c1 := h1.cell
    obtain ⟨a0, a1, a2, f0, f1, f2⟩ := h3.cells
    have g1 := h3.set0 (q : Int)
    obtain ⟨g10, g11, g12, _, _, _⟩ := g1.cells
    have r0 := h2.other (w.heap.size + 3) 0 (.int .i64 (q : Int)) (by omega)
    obtain ⟨r00, r01, r02, rf00, rf01, rf02⟩ := r0.cells
    have r1 := r0.set0 (q : Int)
    obtain ⟨r10, r11, r12, rf10, rf11, rf12⟩ := r1.cells
    have r2 := r1.set1 (line : Nat)
    obtain ⟨r20, r21, r22, rf20, rf21, rf22⟩ := r2.cells
    have r3 := r2.set2 (col : Nat)
    gi_wp2
    have hK2 : ((((W.setCell ⟨w.heap.size + 3, 0, none⟩ (.int .i64 (q : Int))).setCell ⟨w.heap.size + 1, 0, none⟩ (.int .i64 (q : Int))).setCell ⟨w.heap.size + 1, 1, none⟩ (.int .i64 (line : Nat))).setCell ⟨w.heap.size + 1, 2, none⟩ (.int .i64 (col : Nat))).heap[W0.heap.size]? = some (.deferred (some [])) := by
      rw [Below.heap_setCell _ _ _ _ (by simp; omega), Below.heap_setCell _ _ _ _ (by simp; omega), Below.heap_setCell _ _ _ _ (by simp; omega), Below.heap_setCell _ _ _ _ (by simp; omega)]
      exact hK
    have hB4 := below_set (below_set (below_set (below_set h5 (w.heap.size + 3) 0 (.int .i64 (q : Int)) (by omega)) (w.heap.size + 1) 0 (.int .i64 (q : Int)) (by omega)) (w.heap.size + 1) 1 (.int .i64 (line : Nat)) (by omega)) (w.heap.size + 1) 2 (.int .i64 (col : Nat)) (by omega)
    rw [hsz] at hK2
    (try rw [hsz])
    refine ⟨by simp, .inl ⟨_, _, rfl, run_takeDeferred hK2, ?_⟩⟩
    exact ⟨_, results_cell_row rfl _ _ (w.heap.size + 1) _ _ _ _ rfl ((World.putObj_heap_other (by omega)).trans r3) Tryz.underlying32 rfl infoSpot, rfl, hB4.trans (belowK_b (w := w) (Nat.le_refl _) _ _ _ _ (by omega) hK2 rfl rfl)⟩
  case stop =>
    rintro c pre x W _ ⟨rfl, z, h1, h2, h3, h5⟩ hK
    have c1 := h1.cell
    obtain ⟨a0, a1, a2, f0, f1, f2⟩ := h3.cells
    have g1 := h3.set0 (q : Int)
    obtain ⟨g10, g11, g12, _, _, _⟩ := g1.cells
    have r0 := h2.other (w.heap.size + 3) 0 (.int .i64 (q : Int)) (by omega)
    obtain ⟨r00, r01, r02, rf00, rf01, rf02⟩ := r0.cells
    have r1 := r0.set0 (q : Int)
    obtain ⟨r10, r11, r12, rf10, rf11, rf12⟩ := r1.cells
    have r2 := r1.set1 (R.1 : Nat)
    obtain ⟨r20, r21, r22, rf20, rf21, rf22⟩ := r2.cells
    have r3 := r2.set2 (R.2 : Nat)
    gi_wp2
    have hK2 : ((((W.setCell ⟨w.heap.size + 3, 0, none⟩ (.int .i64 (q : Int))).setCell ⟨w.heap.size + 1, 0, none⟩ (.int .i64 (q : Int))).setCell ⟨w.heap.size + 1, 1, none⟩ (.int .i64 (R.1 : Nat))).setCell ⟨w.heap.size + 1, 2, none⟩ (.int .i64 (R.2 : Nat))).heap[W0.heap.size]? = some (.deferred (some [])) := by
      rw [Below.heap_setCell _ _ _ _ (by simp; omega), Below.heap_setCell _ _ _ _ (by simp; omega), Below.heap_setCell _ _ _ _ (by simp; omega), Below.heap_setCell _ _ _ _ (by simp; omega)]
      exact hK
    have hB4 := below_set (below_set (below_set (below_set h5 (w.heap.size + 3) 0 (.int .i64 (q : Int)) (by omega)) (w.heap.size + 1) 0 (.int .i64 (q : Int)) (by omega)) (w.heap.size + 1) 1 (.int .i64 (R.1 : Nat)) (by omega)) (w.heap.size + 1) 2 (.int .i64 (R.2 : Nat)) (by omega)
    rw [hsz] at hK2
    (try rw [hsz])
    refine ⟨by simp, .inl ⟨_, _, rfl, run_takeDeferred hK2, ?_⟩⟩
    exact ⟨_, results_cell_row rfl _ _ (w.heap.size + 1) _ _ _ _ rfl ((World.putObj_heap_other (by omega)).trans r3) Tryz.underlying32 rfl infoSpot, rfl, hB4.trans (belowK_b (w := w) (Nat.le_refl _) _ _ _ _ (by omega) hK2 rfl rfl)⟩
end Go.Proofs.YthmhcpghfbifiaaGreatDoor
