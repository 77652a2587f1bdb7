/- Regions that draw their order, whose operations only read and whose callees may make memory of their own: walked once, in the order of the text. -/
import Derived.Test.YthpkjehoogodkaaDoorZTRefCells
import Derived.BigQuiet
namespace Go.Proofs.YthpkjehoogodkaaDoor
open Go.RowKit

/-- A world that has grown out of another, and left what was there as it was. -/
structure Wb (w : World) where
  val : World
  below : Below w.heap.size w val

theorem Wb.any (w : World) : Nonempty (Wb w) := ⟨⟨w, Below.refl _ _⟩⟩
theorem below_draw (w : World) : Below w.heap.size w { w with drawn := w.drawn + 1 } := ⟨rfl, rfl, rfl, Nat.le_refl _, fun _ _ => rfl⟩
theorem wp_region_below {P : Program} {id : Nat} {Q : Exit → Act → World → Prop} {a : Act} {w : World} {l : List Oper} (hm : P.follows .mixedOrders = true) (hB : Region.lexB .any l.toArray = true)
    (h : wpQuiet P l.toArray (fun w' => ∃ q : Wb w, w' = q.val) (fun a' => ∀ w', (∃ q : Wb w, w' = q.val) → Q .normal a' w') l a) : (Code.region id l.toArray true).wp P Q a w :=
  wp_region_quiet (C := fun w' => ∃ q : Wb w, w' = q.val) hm hB ⟨⟨_, below_draw w⟩, rfl⟩ (by simpa using h)
theorem Wb.cell {w : World} (q : Wb w) {a : Addr} {v : Value} (h : w.cell? a = some v) : q.val.cell? a = some v := keepCell h q.below
/-- A callee that makes memory of its own, met in such a world. -/
theorem Wb.calls {w : World} {P : Program} {f : FuncId} {args : Array Value} (q : Wb w) {v : Value} (h : Calls P f args q.val fun e w' => e = .returned v ∧ Below q.val.heap.size q.val w') : Calls P f args q.val fun e w'' => e = .returned v ∧ ∃ q' : Wb w, w'' = q'.val :=
  h.mono fun _ w' ⟨he, hb⟩ => ⟨he, ⟨w', q.below.trans (hb.mono q.below.size)⟩, rfl⟩
end Go.Proofs.YthpkjehoogodkaaDoor

/- Line and column of a place. -/
namespace Go.Proofs.YthpkjehoogodkaaDoor
open Go.RowKit

/-- Line and column of the place o, gone to from the rune that begins at k. -/
def atR (o : Nat) : Nat → Nat → Nat → List (Int × Nat) → Nat × Nat
  | _, line, col, [] => (line, col)
  | k, line, col, (r, n) :: t => if k < o then atR o (k + n) (bLine line r) (bCol col r) t else (line, col)
theorem bLine_le (line : Nat) (r : Int) : bLine line r ≤ line + 1 := by unfold bLine; split <;> omega
theorem bCol_le (col : Nat) (r : Int) : bCol col r ≤ col + 1 := by unfold bCol; split <;> omega
/-- A list's next element, and where one is behind it. -/
theorem elS_next {pre post : List El} {x : El} {k line col : Nat} {t : List (Int × Nat)} (h : pre ++ elS k line col t = pre ++ x :: post) : ∃ r n t', t = (r, n) :: t' ∧ x = ⟨k, line, col, r⟩ ∧ post = elS (k + n) (bLine line r) (bCol col r) t' := by
  have h := List.append_cancel_left h
  match t, h with
  | [], h => rw [elS] at h; cases h
  | (r, n) :: t', h =>
    rw [elS_step] at h
    obtain ⟨e1, e2⟩ := List.cons.inj h
    exact ⟨r, n, t', rfl, e1.symm, e2.symm⟩
end Go.Proofs.YthpkjehoogodkaaDoor

/- The document's spots of the runes of a text. -/
namespace Go.Proofs.YthpkjehoogodkaaDoor
open Go.RowKit

/-- A block that holds three numbers. -/
def AtT (t : TypeId) (W : World) (A : Nat) (a b c : Int) : Prop := W.heap[A]? = some (.cells #[.int .i64 a, .int .i64 b, .int .i64 c] t (0, 0))
theorem AtT.cells {t : TypeId} {W : World} {A : Nat} {a b c : Int} (h : AtT t W A a b c) : W.cell? ⟨A, 0, none⟩ = some (.int .i64 a) ∧ W.cell? ⟨A, 1, none⟩ = some (.int .i64 b) ∧ W.cell? ⟨A, 2, none⟩ = some (.int .i64 c) ∧ W.frozen? ⟨A, 0, none⟩ = false ∧ W.frozen? ⟨A, 1, none⟩ = false ∧ W.frozen? ⟨A, 2, none⟩ = false := by
  refine ⟨?_, ?_, ?_, ?_, ?_, ?_⟩ <;> simp [World.cell?, World.frozen?, show W.heap[A]? = _ from h]
theorem AtT.set0 {t : TypeId} {W : World} {A : Nat} {a b c : Int} (h : AtT t W A a b c) (x : Int) : AtT t (W.setCell ⟨A, 0, none⟩ (.int .i64 x)) A x b c := by
  simp [AtT, World.setCell, Array.getElem?_modify, show W.heap[A]? = _ from h]
theorem AtT.set1 {t : TypeId} {W : World} {A : Nat} {a b c : Int} (h : AtT t W A a b c) (x : Int) : AtT t (W.setCell ⟨A, 1, none⟩ (.int .i64 x)) A a x c := by
  simp [AtT, World.setCell, Array.getElem?_modify, show W.heap[A]? = _ from h]
theorem AtT.set2 {t : TypeId} {W : World} {A : Nat} {a b c : Int} (h : AtT t W A a b c) (x : Int) : AtT t (W.setCell ⟨A, 2, none⟩ (.int .i64 x)) A a b x := by
  simp [AtT, World.setCell, Array.getElem?_modify, show W.heap[A]? = _ from h]
theorem AtT.alloc {t : TypeId} {W : World} {A : Nat} {a b c : Int} (h : AtT t W A a b c) (o : Obj) : AtT t (W.alloc o) A a b c :=
  (Below.heap_alloc W o A (Array.getElem?_eq_some_iff.1 h).1).trans h
theorem AtT.lt {t : TypeId} {W : World} {A : Nat} {a b c : Int} (h : AtT t W A a b c) : A < W.heap.size := (Array.getElem?_eq_some_iff.1 h).1
theorem below_set {w W : World} (h : Below w.heap.size w W) (A i : Nat) (v : Value) (hA : w.heap.size ≤ A) : Below w.heap.size w (W.setCell ⟨A, i, none⟩ v) :=
  h.grown (grown_set W A i v) h.size (fun k e => by cases e; exact hA)
theorem row_set {W : World} {base : Nat} {e : TypeId} {size : Nat} {v : Value} {k : Nat} {xs : List Value} (h : W.ownsRow base e size v k xs) (A i : Nat) (u : Value) (hA : A < base) : (W.setCell ⟨A, i, none⟩ u).ownsRow base e size v k xs :=
  h.kept (grown_set W A i u) (by
    rcases h.2 with ⟨e, _⟩ | ⟨g, cap, cur, e, hb, _⟩
    · rw [e]; exact .inl rfl
    · rw [e]; right; simp [Value.ownBlock]; omega)

theorem infoRefSpot3 : (Tryd.prog.info? 80).map (fun i => (i.zero, i.size, i.bytes)) = some (some (.agg #[.int .i64 0, .int .i64 0, .int .i64 0]), 3, 24) := by kernel_rfl

end Go.Proofs.YthpkjehoogodkaaDoor

/- What text.At answers. -/
namespace Go.Proofs.YthpkjehoogodkaaDoor
open Go.RowKit
attribute [local go_sem] Oper.semAt_some

theorem At3.other {W : World} {A : Nat} {a b c : Int} (h : At3 W A a b c) (B i : Nat) (v : Value) (hne : A ≠ B) : At3 (W.setCell ⟨B, i, none⟩ v) A a b c := (Below.heap_setCell W ⟨B, i, none⟩ v A hne).trans h
def clamp (s : ByteArray) (o : Int) : Nat := (min (max o 0) (s.size : Int)).toNat

end Go.Proofs.YthpkjehoogodkaaDoor
