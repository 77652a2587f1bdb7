/- Places of tokens; tokens in memory. -/
import Derived.Test.YthpkjehoogodkaaDoorZKC
import Derived.Test.YthpkjehoogodkaaDoorZTRefAt
namespace Go.Proofs.YthpkjehoogodkaaDoor
open Go.RowKit

/-- Line and column of a place. -/
def lc (L : List UInt8) (k : Nat) : Nat × Nat := atR k 0 1 1 (ru L)
/-- One is at a rune's beginning, at this line and column. -/
structure LcAt (L : List UInt8) (k line col : Nat) : Prop where
  le : k ≤ L.length
  at' : ∀ o, k ≤ o → atR o 0 1 1 (ru L) = atR o k line col (ru (L.drop k))
  line : line ≤ k + 1
  col : col ≤ k + 1
theorem LcAt.start (L : List UInt8) : LcAt L 0 1 1 := ⟨Nat.zero_le _, fun _ _ => rfl, Nat.le_refl _, Nat.le_refl _⟩
theorem LcAt.spot {L : List UInt8} {k line col : Nat} (h : LcAt L k line col) : lc L k = (line, col) := by
  unfold lc
  rw [h.at' k (Nat.le_refl _)]
  match ru (L.drop k) with
  | [] => rfl
  | (r, n) :: t => rw [atR, if_neg (Nat.lt_irrefl _)]
theorem LcAt.next {L : List UInt8} {k line col : Nat} (h : LcAt L k line col) (hk : L.drop k ≠ []) : LcAt L (k + wd (L.drop k)) (bLine line (raw (rv (L.drop k)))) (bCol col (raw (rv (L.drop k)))) := by
  have h1 := wd_pos (L.drop k)
  have h2 := wd_le (L.drop k) hk
  rw [List.length_drop] at h2
  have hr : (raw (rv (L.drop k)) = 10) = (rv (L.drop k) = 10) := by
    have := rv_lo (L.drop k)
    unfold raw
    split
    · simp; omega
    · rfl
  have eL : bLine line (raw (rv (L.drop k))) = bLine line (rv (L.drop k)) := by unfold bLine; simp only [hr]
  have eC : bCol col (raw (rv (L.drop k))) = bCol col (rv (L.drop k)) := by unfold bCol; simp only [hr]
  rw [eL, eC]
  have h3 := bLine_le line (rv (L.drop k))
  have h4 := bCol_le col (rv (L.drop k))
  have := h.line
  have := h.col
  have hkl : k < L.length := by
    by_cases q : k < L.length
    · exact q
    · exact absurd (List.drop_eq_nil_of_le (by omega)) hk
  refine ⟨by omega, fun o ho => ?_, by omega, by omega⟩
  rw [h.at' o (by omega), ru_step _ hk, atR, if_pos (by omega), List.drop_drop]

/-- Tokens, cell by cell. -/
def tkRow (L : List UInt8) (ts : List (Tkn × Nat)) : List Value := ts.flatMap fun x => [.int .i64 x.1.kind, .int .i64 x.2, .int .i64 (lc L x.2).1, .int .i64 (lc L x.2).2, .string (str x.1.text), .int .i64 x.1.int]
theorem tkRow_snoc (L : List UInt8) (ts : List (Tkn × Nat)) (x : Tkn × Nat) : tkRow L (ts ++ [x]) = tkRow L ts ++ [.int .i64 x.1.kind, .int .i64 x.2, .int .i64 (lc L x.2).1, .int .i64 (lc L x.2).2, .string (str x.1.text), .int .i64 x.1.int] := by simp [tkRow]
/-- A fault, cell by cell. -/
def flt (L : List UInt8) : Option (Int × Nat) → Array Value
  | Option.none => #[.int .i64 0, .int .i64 0, .int .i64 0, .int .i64 0]
  | some x => #[.int .i64 x.1, .int .i64 x.2, .int .i64 (lc L x.2).1, .int .i64 (lc L x.2).2]
theorem infoTok : (Tryd.prog.info? 35).map (fun i => (i.zero, i.size, i.bytes)) = some (some (.agg ztok), 6, 56) := by kernel_rfl
theorem infoFlt : (Tryd.prog.info? 27).map (·.size) = some 4 := by kernel_rfl
theorem infoSpt : (Tryd.prog.info? 25).map (·.size) = some 3 := by kernel_rfl

theorem behindT_k (off line col : Int) (r : Int) (w : World) (l0 : 0 ≤ line) (hl : line + 1 ≤ 9223372036854775807) (c0 : 0 ≤ col) (hc : col + 1 ≤ 9223372036854775807) :
    Calls Tryd.prog 18 #[.agg #[.int .i64 off, .int .i64 line, .int .i64 col], .int .i32 r] w fun e w' =>
      e = .returned (.agg #[.int .i64 0, .int .i64 (if r = 10 then line + 1 else line), .int .i64 (if r = 10 then 1 else col + 1)]) ∧ Below w.heap.size w w' := by
  by_cases hr : r = 10
  · subst hr
    go_enter Tryd.func18, Tryd.ntmps18
    go_wp2
    refine bodyPost_ret (results_cell_row rfl _ _ (w.heap.size + 1) _ _ _ _ rfl (heap_alloc2_new _ _ _) Tryd.underlying25 rfl infoSpt) rfl ?_
    exact ⟨by simp, kalloc (kalloc (Below.refl _ _) _) _⟩
  · go_enter Tryd.func18, Tryd.ntmps18
    go_wp2
    refine bodyPost_ret (results_cell_row rfl _ _ (w.heap.size + 1) _ _ _ _ rfl (heap_alloc2_new _ _ _) Tryd.underlying25 rfl infoSpt) rfl ?_
    exact ⟨by simp, kalloc (kalloc (Below.refl _ _) _) _⟩

/-- What Scan holds while it goes through the text. -/
structure ScW (s : ByteArray) (w wr : World) (v : Value) (k : Nat) (x line col : Int) (pre : List (Tkn × Nat)) : Prop where
  flt : wr.heap[w.heap.size]? = some (.cells #[.int .i64 0, .int .i64 0, .int .i64 0, .int .i64 0] 27 (0, 0))
  at' : AtT 25 wr (w.heap.size + 1) x line col
  it : wr.heap[w.heap.size + 2]? = some (.stringIter s k)
  row : wr.ownsRow (w.heap.size + 3) 35 6 v pre.length (tkRow s.data.toList pre)
  bel : Below w.heap.size w wr
theorem ScW.lt {s : ByteArray} {w wr : World} {v : Value} {k : Nat} {x line col : Int} {pre : List (Tkn × Nat)} (h : ScW s w wr v k x line col pre) : w.heap.size + 2 < wr.heap.size := (Array.getElem?_eq_some_iff.1 h.it).1
theorem ScW.below {s : ByteArray} {w wr w2 : World} {v : Value} {k : Nat} {x line col : Int} {pre : List (Tkn × Nat)} (h : ScW s w wr v k x line col pre) (hb : Below wr.heap.size wr w2) : ScW s w w2 v k x line col pre := by
  have := h.lt
  exact ⟨(hb.block _ (by omega)).trans h.flt, h.at'.below hb, (hb.block _ (by omega)).trans h.it, row_below h.row hb, ktrans h.bel hb⟩
theorem ScW.next {s : ByteArray} {w wr : World} {v : Value} {k : Nat} {x line col : Int} {pre : List (Tkn × Nat)} (h : ScW s w wr v k x line col pre) (k' : Nat) : ScW s w (wr.iterAt (w.heap.size + 2) s k') v k' x line col pre := by
  have hb : Below (w.heap.size + 2) wr (wr.iterAt (w.heap.size + 2) s k') := Lib.below_iterAt (Below.refl _ wr) (k := w.heap.size + 2) (Nat.le_refl _) s k'
  refine ⟨(hb.block _ (by omega)).trans h.flt, (hb.block _ (by omega)).trans h.at', Lib.iterAt_heap wr _ s k k' h.it, ?_, Lib.below_iterAt h.bel (by omega) s k'⟩
  refine ⟨h.row.1, ?_⟩
  rcases h.row.2 with hn | ⟨g, cap, cur, hv, hbg, hgg, rest⟩
  · exact .inl hn
  · exact .inr ⟨g, cap, cur, hv, hbg, (Lib.iterAt_other wr _ g s k' (by omega)).trans hgg, rest⟩
theorem ScW.off {s : ByteArray} {w wr : World} {v : Value} {k : Nat} {x line col : Int} {pre : List (Tkn × Nat)} (h : ScW s w wr v k x line col pre) (y : Int) : ScW s w (wr.setCell ⟨w.heap.size + 1, 0, none⟩ (.int .i64 y)) v k y line col pre :=
  ⟨(Below.heap_setCell _ _ _ _ (by simp)).trans h.flt, h.at'.set0 y, (Below.heap_setCell _ _ _ _ (by simp)).trans h.it, ownsRow_setCell_below h.row (by simp) _, h.bel.setCell (by simp) _⟩
theorem ScW.put {s : ByteArray} {w wr : World} {v : Value} {k : Nat} {x line col : Int} {pre : List (Tkn × Nat)} (h : ScW s w wr v k x line col pre) (y l c : Int) : ScW s w (((wr.setCell ⟨w.heap.size + 1, 0, none⟩ (.int .i64 y)).setCell ⟨w.heap.size + 1, 1, none⟩ (.int .i64 l)).setCell ⟨w.heap.size + 1, 2, none⟩ (.int .i64 c)) v k y l c pre := by
  have h1 := h.off y
  have h2 : ScW s w ((wr.setCell ⟨w.heap.size + 1, 0, none⟩ (.int .i64 y)).setCell ⟨w.heap.size + 1, 1, none⟩ (.int .i64 l)) v k y l col pre := ⟨(Below.heap_setCell _ _ _ _ (by simp)).trans h1.flt, h1.at'.set1 l, (Below.heap_setCell _ _ _ _ (by simp)).trans h1.it, ownsRow_setCell_below h1.row (by simp) _, h1.bel.setCell (by simp) _⟩
  exact ⟨(Below.heap_setCell _ _ _ _ (by simp)).trans h2.flt, h2.at'.set2 c, (Below.heap_setCell _ _ _ _ (by simp)).trans h2.it, ownsRow_setCell_below h2.row (by simp) _, h2.bel.setCell (by simp) _⟩
theorem ScW.push {s : ByteArray} {w wr w2 : World} {v v' : Value} {k : Nat} {x line col : Int} {pre : List (Tkn × Nat)} (h : ScW s w wr v k x line col pre) (hg : wr.grownBy w2 v.ownBlock) (y : Tkn × Nat)
    (hr : w2.ownsRow (w.heap.size + 3) 35 6 v' (pre ++ [y]).length (tkRow s.data.toList (pre ++ [y]))) : ScW s w w2 v' k x line col (pre ++ [y]) := by
  have hlt := h.lt
  have hne : ∀ j, j < w.heap.size + 3 → some j ≠ v.ownBlock := fun j hj e => by
    have := (row_block h.row j e.symm).1
    omega
  exact ⟨(hg.block _ (by omega) (hne _ (by omega))).trans h.flt, (hg.block _ (by omega) (hne _ (by omega))).trans h.at', (hg.block _ (by omega) (hne _ (by omega))).trans h.it, hr, h.bel.grown hg (by have := h.bel.size; omega) (fun j ej => by have := (row_block h.row j ej).1; omega)⟩
theorem ScW.start (s : ByteArray) (w : World) : ScW s w (((w.alloc (.cells #[.int .i64 0, .int .i64 0, .int .i64 0, .int .i64 0] 27)).alloc (.cells #[.int .i64 0, .int .i64 1, .int .i64 1] 25)).alloc (.stringIter s 0)) (.slice none 0 0) 0 0 1 1 [] := by
  refine ⟨?_, ?_, ?_, World.ownsRow_nil _ _ _ _, kalloc (kalloc (kalloc (Below.refl _ _) _) _) _⟩
  · rw [Below.heap_alloc _ _ _ (by simp; omega), Below.heap_alloc _ _ _ (by simp)]
    exact World.alloc_heap_new w _
  · unfold AtT
    rw [Below.heap_alloc _ _ _ (by simp)]
    exact heap_alloc2_new w _ _
  · have := World.alloc_heap_new ((w.alloc (.cells #[.int .i64 0, .int .i64 0, .int .i64 0, .int .i64 0] 27)).alloc (.cells #[.int .i64 0, .int .i64 1, .int .i64 1] 25)) (.stringIter s 0)
    simpa using this
end Go.Proofs.YthpkjehoogodkaaDoor
