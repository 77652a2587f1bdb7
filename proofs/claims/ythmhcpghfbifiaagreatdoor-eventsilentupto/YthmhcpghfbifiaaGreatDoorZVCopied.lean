/- copied: a value in memory of its own. -/
import Derived.Test.YthmhcpghfbifiaaGreatDoorGFld
import Derived.Laws.OwnMore
import Derived.Lib.AppendZeros
import Derived.OwnWalk
import Derived.Deep.AppendLies
namespace Go.Proofs.YthmhcpghfbifiaaGreatDoor
open Go.RowKit

/-- A slice of values that lies in blocks of S. -/
def ItemsIn (w : World) (S : Nat → Prop) : Nat → Value → List Vl → Prop
  | 0, _, _ => False
  | n + 1, sl, its => ∃ a c, sl = .slice a its.length c ∧ its.length ≤ maxLen ∧ ∀ j (h : j < its.length), ∃ b off s', a = some ⟨b, off, none⟩ ∧ S b ∧
      w.cell? ⟨b, off + j * 5, none⟩ = some (.int .i64 its[j].kind) ∧ w.cell? ⟨b, off + j * 5 + 1, none⟩ = some (.int .i64 its[j].int) ∧ w.cell? ⟨b, off + j * 5 + 2, none⟩ = some (.int .i64 its[j].im) ∧
      w.cell? ⟨b, off + j * 5 + 3, none⟩ = some (.string its[j].text) ∧ w.cell? ⟨b, off + j * 5 + 4, none⟩ = some s' ∧ ItemsIn w S n s' its[j].items ∧ its[j].ok
theorem ItemsIn.kept {w w' : World} {S S' : Nat → Prop} (hk : ∀ b o, S b → w'.cell? ⟨b, o, none⟩ = w.cell? ⟨b, o, none⟩) (hS : ∀ b, S b → S' b) : ∀ {n : Nat} {sl : Value} {its : List Vl}, ItemsIn w S n sl its → ItemsIn w' S' n sl its
  | 0, _, _, h => h.elim
  | n + 1, _, its, h => by
    obtain ⟨a, c, e, hl, hc⟩ := h
    refine ⟨a, c, e, hl, fun j hj => ?_⟩
    obtain ⟨b, off, s', e, hb, h0, h1, h2, h3, h4, h5, h6⟩ := hc j hj
    exact ⟨b, off, s', e, hS _ hb, (hk _ _ hb).trans h0, (hk _ _ hb).trans h1, (hk _ _ hb).trans h2, (hk _ _ hb).trans h3, (hk _ _ hb).trans h4, ItemsIn.kept hk hS h5, h6⟩
theorem ItemsIn.at {w : World} {S : Nat → Prop} {B : Nat} (hS : ∀ b, S b → b < B) : ∀ {n : Nat} {sl : Value} {its : List Vl}, ItemsIn w S n sl its → ItemsAt w B n sl its
  | 0, _, _, h => h.elim
  | n + 1, _, its, h => by
    obtain ⟨a, c, e, hl, hc⟩ := h
    refine ⟨a, c, e, hl, fun j hj => ?_⟩
    obtain ⟨b, off, s', e, hb, h0, h1, h2, h3, h4, h5, h6⟩ := hc j hj
    exact ⟨b, off, s', e, hS _ hb, h0, h1, h2, h3, h4, ItemsIn.at hS h5, h6⟩
theorem ItemsIn.len {w : World} {S : Nat → Prop} {n : Nat} {sl : Value} {its : List Vl} (h : ItemsIn w S n sl its) : ∃ a c, sl = .slice a its.length c ∧ its.length ≤ maxLen := by
  cases n with
  | zero => exact h.elim
  | succ n => obtain ⟨a, c, e, hl, _⟩ := h; exact ⟨a, c, e, hl⟩
def cells5 (v : Vl) (s : Value) : List Value := [.int .i64 v.kind, .int .i64 v.int, .int .i64 v.im, .string v.text, s]
def rowC : List Vl → List Value → List Value
  | v :: l, s :: r => cells5 v s ++ rowC l r
  | _, _ => []
theorem rowC_len : ∀ {l : List Vl} {r : List Value}, r.length = l.length → (rowC l r).length = l.length * 5
  | [], _, _ => by rw [rowC]; simp; intros; simp_all
  | v :: l, [], h => by simp at h
  | v :: l, s :: r, h => by
    have := rowC_len (l := l) (r := r) (by simpa using h)
    rw [rowC, List.length_append, this, List.length_cons]
    simp [cells5]
    omega
theorem rowC_get : ∀ {l : List Vl} {r : List Value} (h : r.length = l.length) (j : Nat) (hj : j < l.length) (i : Nat) (_ : i < 5), (rowC l r)[j * 5 + i]? = (cells5 l[j] (r[j]'(by omega)))[i]?
  | [], _, _, j, hj, _, _ => by simp at hj
  | v :: l, [], h, _, _, _, _ => by simp at h
  | v :: l, s :: r, h, j, hj, i, hi => by
    have hc : (cells5 v s).length = 5 := rfl
    cases j with
    | zero =>
      rw [rowC, Nat.zero_mul, Nat.zero_add, List.getElem?_append_left (by omega)]
      rfl
    | succ j =>
      have := rowC_get (l := l) (r := r) (by simpa using h) j (by simpa using hj) i hi
      rw [rowC, List.getElem?_append_right (by omega), hc, show (j + 1) * 5 + i - 5 = j * 5 + i by omega, this]
      rfl
theorem rowC_snoc (v : Vl) (s : Value) : ∀ {l : List Vl} {r : List Value}, r.length = l.length → rowC (l ++ [v]) (r ++ [s]) = rowC l r ++ cells5 v s
  | [], [], _ => by simp [rowC]
  | [], _ :: _, h => by simp at h
  | _ :: _, [], h => by simp at h
  | x :: l, y :: r, h => by
    rw [List.cons_append, List.cons_append, rowC, rowC_snoc v s (l := l) (r := r) (by simpa using h), rowC, List.append_assoc]
/-- A row of values that the call itself has made, from block L on. -/
def OwnAt (w : World) (L n : Nat) (v : Value) (its : List Vl) : Prop := ∃ ss : List Value, ∃ hl : ss.length = its.length, w.ownsRow L 46 5 v its.length (rowC its ss) ∧
  ∀ j (h : j < its.length), ItemsIn w (fun b => L ≤ b ∧ b < w.heap.size ∧ some b ≠ v.ownBlock) n (ss[j]'(by omega)) its[j].items ∧ its[j].ok
theorem OwnAt.nil (w : World) (L n : Nat) : OwnAt w L n (.slice none 0 0) [] := ⟨[], rfl, ⟨rfl, .inl ⟨rfl, rfl⟩⟩, fun j h => by simp at h⟩
theorem OwnAt.items {w : World} {L n : Nat} {v : Value} {its : List Vl} (h : OwnAt w L n v its) (hm : its.length ≤ maxLen) : ItemsIn w (fun b => L ≤ b ∧ b < w.heap.size) (n + 1) v its := by
  obtain ⟨ss, hl, hr, hc⟩ := h
  have hlt := hr.lt
  rcases hr.2 with ⟨hv, h0⟩ | ⟨g, cap, cur, hv, _⟩
  · refine ⟨none, 0, by rw [hv, h0], hm, fun j hj => by omega⟩
  · subst hv
    refine ⟨some ⟨g, 0, none⟩, cap, rfl, hm, fun j hj => ?_⟩
    obtain ⟨h1, h2⟩ := hc j hj
    have hg := hlt g rfl
    have ce : ∀ i, i < 5 → w.cell? ⟨g, 0 + j * 5 + i, none⟩ = (cells5 its[j] (ss[j]'(by omega)))[i]? := fun i hi => by
      rw [Nat.zero_add, hr.cellAt (j * 5 + i) (by have := Nat.mul_le_mul_right 5 (show j + 1 ≤ its.length by omega); omega), rowC_get hl j hj i hi]
    exact ⟨g, 0, ss[j]'(by omega), rfl, hg, ce 0 (by omega), ce 1 (by omega), ce 2 (by omega), ce 3 (by omega), ce 4 (by omega), h1.kept (fun _ _ _ => rfl) (fun b hb => ⟨hb.1, hb.2.1⟩), h2⟩
theorem infoVal : (Tryz.prog.info? 46).map (fun i => (i.zero, i.size, i.bytes)) = some (some (.agg #[.int .i64 0, .int .i64 0, .int .i64 0, .string ⟨#[]⟩, .slice none 0 0]), 5, 64) := by kernel_rfl
theorem infoVal5 : (Tryz.prog.info? 46).map (·.size) = some 5 := by kernel_rfl
theorem info_partsV {o : Option TypeInfo} {z : Option Value} {a b : Nat} (h : o.map (fun i => (i.zero, i.size, i.bytes)) = some (z, a, b)) : ∃ i, o = some i ∧ i.zero = z ∧ i.size = a ∧ i.bytes = b := by
  cases o with
  | none => simp at h
  | some i => simp at h; exact ⟨i, rfl, h.1, h.2.1, h.2.2⟩
/-- One value more is laid behind. -/
theorem OwnAt.push {wr W : World} {L n : Nat} {v s : Value} {its : List Vl} {x : Vl} (h : OwnAt wr L n v its) (hL : L ≤ wr.heap.size) (hb : Below wr.heap.size wr W) (hx : ItemsIn W (fun b => wr.heap.size ≤ b ∧ b < W.heap.size) n s x.items) (ht : x.ok) (hn : its.length + 1 ≤ 1000000000) (ty : TypeId) :
    ∃ v' w', (Builtin.append_ #[44, 44] ty #[v, .slice (some ⟨W.heap.size, 0, none⟩) 1 1]).run Tryz.prog (W.alloc (.cells #[.int .i64 x.kind, .int .i64 x.int, .int .i64 x.im, .string x.text, s] 46)) = .ok v' w' ∧ OwnAt w' L n v' (its ++ [x]) ∧ Below L W w' := by
  obtain ⟨i0, hi, hz0, hz1, hz2⟩ := info_partsV infoVal
  obtain ⟨ss, hl, hr, hc⟩ := h
  obtain ⟨sa, sc, rfl, _⟩ := hx.len
  have hbA : Below W.heap.size W (W.alloc (.cells #[.int .i64 x.kind, .int .i64 x.int, .int .i64 x.im, .string x.text, .slice sa x.items.length sc] 46)) := alloc_v (Below.refl _ _) _
  have hbW := trans_v hb hbA
  have hsz := hb.size
  have eA := World.alloc_heap_new W (.cells #[.int .i64 x.kind, .int .i64 x.int, .int .i64 x.im, .string x.text, .slice sa x.items.length sc] 46)
  have hrA : (W.alloc (.cells #[.int .i64 x.kind, .int .i64 x.int, .int .i64 x.im, .string x.text, .slice sa x.items.length sc] 46)).ownsRow L 46 5 v its.length (rowC its ss) := hr.kept (grown_of_below (r := none) hbW) (by cases v.ownBlock <;> simp)
  obtain ⟨g, cap, w', hrun, A1, A2, A3, A4⟩ := run_append_lies (P := Tryz.prog) (W.alloc (.cells #[.int .i64 x.kind, .int .i64 x.int, .int .i64 x.im, .string x.text, .slice sa x.items.length sc] 46)) 44 ty L 46 i0 _ 5 64 Tryz.underlying44 hi hz0 hz1 hz2 rfl (by decide) v its.length (rowC its ss) hrA ⟨W.heap.size, 0, none⟩ 1 1 (cells5 x (.slice sa x.items.length sc)) rfl (fun j u hj => by
      rw [Addr.add_lit, Nat.zero_add]
      exact cells_at eA j u (by simpa [cells5] using hj)) (fun u hu => by simp [cells5] at hu; rcases hu with rfl | rfl | rfl | rfl | rfl <;> rfl) (by omega) (by unfold maxLen; omega) (by omega) (by rw [World.size_alloc]; omega) (W.heap.size + 1) (by rw [World.size_alloc])
  have hgz := A2.size
  rw [World.size_alloc] at hgz
  have hvl := hr.lt
  refine ⟨_, w', hrun, ⟨ss ++ [.slice sa x.items.length sc], by simp [hl], ?_, fun j hj => ?_⟩, ?_⟩
  · rw [rowC_snoc _ _ hl, List.length_append]
    exact A1
  · by_cases e : j < its.length
    · obtain ⟨h1, h2⟩ := hc j e
      rw [List.getElem_append_left (by omega), List.getElem_append_left e]
      refine ⟨h1.kept (fun b o hb => ?_) (fun b hb => ⟨hb.1, by omega, fun eq => ?_⟩), h2⟩
      · exact (World.cell?_of_block (A2.block b (by rw [World.size_alloc]; omega) hb.2.2)).trans ((bcellV hbW).1 b o hb.2.1)
      · simp only [Value.ownBlock, Option.some.injEq] at eq
        rcases A3 with A3 | A3
        · exact hb.2.2 (by rw [A3, eq])
        · omega
    · have ej : j = its.length := by rw [List.length_append, List.length_singleton] at hj; omega
      subst ej
      rw [List.getElem_append_right (by omega), List.getElem_append_right (by omega)]
      simp only [hl, Nat.sub_self, List.getElem_singleton]
      refine ⟨hx.kept (fun b o hb => ?_) (fun b hb => ⟨by omega, by omega, fun eq => ?_⟩), ht⟩
      · refine (World.cell?_of_block (A2.block b (by rw [World.size_alloc]; omega) (fun eq => ?_))).trans ((bcellV hbA).1 b o hb.2)
        have := (hvl b eq.symm).2
        omega
      · simp only [Value.ownBlock, Option.some.injEq] at eq
        rcases A3 with A3 | A3
        · have := (hvl g A3).2
          omega
        · omega
  · have hb1 : Below L W (W.alloc (.cells #[.int .i64 x.kind, .int .i64 x.int, .int .i64 x.im, .string x.text, .slice sa x.items.length sc] 46)) := hbA.mono (by omega)
    exact hb1.grown A2 (by rw [World.size_alloc]; omega) (fun k hk => (hvl k hk).1)
theorem size_len (v : Vl) : v.items.length < v.size := by
  have h : ∀ l : List Vl, l.length ≤ (l.map Vl.size).sum := by
    intro l
    induction l with
    | nil => simp
    | cons x l ih => have := x.size_pos; simp; omega
  have := h v.items
  rw [Vl.size_eq v]
  omega
/-- What lies in a value that holds nothing. -/
abbrev zcells : Array Value := #[.int .i64 0, .int .i64 0, .int .i64 0, .string ⟨#[]⟩, .slice none 0 0]
/-- A value that is stored into a block of its own. -/
theorem stored (w W : World) (k i m : Int) (t : ByteArray) (sl : Value) (c : Array Value) (b : Nat) (hb : w.heap.size ≤ b) (bW : Below w.heap.size w W) (hc : c.size = 5) (g1 : W.heap[b]? = some (.cells c 46 (0, 0))) :
    (((((W.setCell ⟨b, 0, none⟩ (.int .i64 k)).setCell ⟨b, 1, none⟩ (.int .i64 i)).setCell ⟨b, 2, none⟩ (.int .i64 m)).setCell ⟨b, 3, none⟩ (.string t)).setCell ⟨b, 4, none⟩ sl).heap[b]? = some (.cells #[.int .i64 k, .int .i64 i, .int .i64 m, .string t, sl] 46 (0, 0)) ∧
    Below w.heap.size w (((((W.setCell ⟨b, 0, none⟩ (.int .i64 k)).setCell ⟨b, 1, none⟩ (.int .i64 i)).setCell ⟨b, 2, none⟩ (.int .i64 m)).setCell ⟨b, 3, none⟩ (.string t)).setCell ⟨b, 4, none⟩ sl) := by
  obtain ⟨l⟩ := c
  obtain ⟨x0, x1, x2, x3, x4, rfl⟩ : ∃ x0 x1 x2 x3 x4, l = [x0, x1, x2, x3, x4] := by
    match l, hc with
    | [x0, x1, x2, x3, x4], _ => exact ⟨_, _, _, _, _, rfl⟩
  have g2 := heap_setCell_same _ _ 0 _ _ (.int .i64 k) g1
  have g3 := heap_setCell_same _ _ 1 _ _ (.int .i64 i) g2
  have g4 := heap_setCell_same _ _ 2 _ _ (.int .i64 m) g3
  have g5 := heap_setCell_same _ _ 3 _ _ (.string t) g4
  have g6 := heap_setCell_same _ _ 4 _ _ sl g5
  exact ⟨g6, ((((bW.setCell hb _).setCell hb _).setCell hb _).setCell hb _).setCell hb _⟩
end Go.Proofs.YthmhcpghfbifiaaGreatDoor
