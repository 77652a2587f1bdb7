/- copied: a value in memory of its own. -/
import Derived.Test.YtngnlofjjlkcmaaGreatDoorGFld
import Derived.Laws.OwnMore
import Derived.Lib.AppendZeros
import Derived.OwnWalk
import Derived.Deep.AppendLies
namespace Go.Proofs.YtngnlofjjlkcmaaGreatDoor
open Go.RowKit

/-- A slice of values that lies in blocks of S. -/
def ItemsIn (w : World) (S : Nat → Prop) : Nat → Value → List Vl → Prop
  | 0, _, _ => False
  | n + 1, sl, its => ∃ a c, sl = .slice a its.length c ∧ its.length ≤ maxLen ∧ ∀ j (h : j < its.length), ∃ b off s', a = some ⟨b, off, none⟩ ∧ S b ∧
      w.cell? ⟨b, off + j * 5, none⟩ = some (.int .i64 its[j].kind) ∧ w.cell? ⟨b, off + j * 5 + 1, none⟩ = some (.int .i64 its[j].int) ∧ w.cell? ⟨b, off + j * 5 + 2, none⟩ = some (.int .i64 its[j].im) ∧
      w.cell? ⟨b, off + j * 5 + 3, none⟩ = some (.string its[j].text) ∧ w.cell? ⟨b, off + j * 5 + 4, none⟩ = some s' ∧ ItemsIn w S n s' its[j].items ∧ its[j].ok
theorem ItemsIn.kept {w w' : World} {S S' : Nat → Prop} (hk : ∀ b o, S b → w'.cell? ⟨b, o, none⟩ = w.cell? ⟨b, o, none⟩) (hS : ∀ b, S b → S' b) : ∀ {n : Nat} {sl : Value} {its : List Vl}, ItemsIn w S n sl its → ItemsIn w' S' n sl its
  | 0, _, _, h => h.elim
  | n + 1, _, its, h => by
    obtain ⟨a, c, e, hl, hc⟩ := h
    refine ⟨a, c, e, hl, fun j hj => ?_⟩
    obtain ⟨b, off, s', e, hb, h0, h1, h2, h3, h4, h5, h6⟩ := hc j hj
    exact ⟨b, off, s', e, hS _ hb, (hk _ _ hb).trans h0, (hk _ _ hb).trans h1, (hk _ _ hb).trans h2, (hk _ _ hb).trans h3, (hk _ _ hb).trans h4, ItemsIn.kept hk hS h5, h6⟩
theorem ItemsIn.at {w : World} {S : Nat → Prop} {B : Nat} (hS : ∀ b, S b → b < B) : ∀ {n : Nat} {sl : Value} {its : List Vl}, ItemsIn w S n sl its → ItemsAt w B n sl its
  | 0, _, _, h => h.elim
  | n + 1, _, its, h => by
    obtain ⟨a, c, e, hl, hc⟩ := h
    refine ⟨a, c, e, hl, fun j hj => ?_⟩
    obtain ⟨b, off, s', e, hb, h0, h1, h2, h3, h4, h5, h6⟩ := hc j hj
    exact ⟨b, off, s', e, hS _ hb, h0, h1, h2, h3, h4, ItemsIn.at hS h5, h6⟩
theorem ItemsIn.len {w : World} {S : Nat → Prop} {n : Nat} {sl : Value} {its : List Vl} (h : ItemsIn w S n sl its) : ∃ a c, sl = .slice a its.length c ∧ its.length ≤ maxLen := by
  cases n with
  | zero => exact h.elim
  | succ n => obtain ⟨a, c, e, hl, _⟩ := h; exact ⟨a, c, e, hl⟩
def cells5 (v : Vl) (s : Value) : List Value := [.int .i64 v.kind, .int .i64 v.int, .int .i64 v.im, .string v.text, s]
def rowC : List Vl → List Value → List Value
  | v :: l, s :: r => cells5 v s ++ rowC l r
  | _, _ => []
theorem rowC_len : ∀ {l : List Vl} {r : List Value}, r.length = l.length → (rowC l r).length = l.length * 5
  | [], _, _ => by rw [rowC]; simp; intros; simp_all
  | v :: l, [], h => by simp at h
  | v :: l, s :: r, h => by
    have := rowC_len (l := l) (r := r) (by simpa using h)
    rw [rowC, List.length_append, this, List.length_cons]
    simp [cells5]
    omega
theorem rowC_get : ∀ {l : List Vl} {r : List Value} (h : r.length = l.length) (j : Nat) (hj : j < l.length) (i : Nat) (_ : i < 5), (rowC l r)[j * 5 + i]? = (cells5 l[j] (r[j]'(by omega)))[i]?
  | [], _, _, j, hj, _, _ => by simp at hj
  | v :: l, [], h, _, _, _, _ => by simp at h
  | v :: l, s :: r, h, j, hj, i, hi => by
    have hc : (cells5 v s).length = 5 := rfl
    cases j with
    | zero =>
      rw [rowC, Nat.zero_mul, Nat.zero_add, List.getElem?_append_left (by omega)]
      rfl
    | succ j =>
      have := rowC_get (l := l) (r := r) (by simpa using h) j (by simpa using hj) i hi
      rw [rowC, List.getElem?_append_right (by omega), hc, show (j + 1) * 5 + i - 5 = j * 5 + i by omega, this]
      rfl
theorem rowC_snoc (v : Vl) (s : Value) : ∀ {l : List Vl} {r : List Value}, r.length = l.length → rowC (l ++ [v]) (r ++ [s]) = rowC l r ++ cells5 v s
  | [], [], _ => by simp [rowC]
  | [], _ :: _, h => by simp at h
  | _ :: _, [], h => by simp at h
  | x :: l, y :: r, h => by
    rw [List.cons_append, List.cons_append, rowC, rowC_snoc v s (l := l) (r := r) (by simpa using h), rowC, List.append_assoc]
/-- A row of values that the call itself has made, from block L on. -/
def OwnAt (w : World) (L n : Nat) (v : Value) (its : List Vl) : Prop := ∃ ss : List Value, ∃ hl : ss.length = its.length, w.ownsRow L 26 5 v its.length (rowC its ss) ∧
  ∀ j (h : j < its.length), ItemsIn w (fun b => L ≤ b ∧ b < w.heap.size ∧ some b ≠ v.ownBlock) n (ss[j]'(by omega)) its[j].items ∧ its[j].ok
theorem OwnAt.nil (w : World) (L n : Nat) : OwnAt w L n (.slice none 0 0) [] := ⟨[], rfl, ⟨rfl, .inl ⟨rfl, rfl⟩⟩, fun j h => by simp at h⟩
theorem OwnAt.items {w : World} {L n : Nat} {v : Value} {its : List Vl} (h : OwnAt w L n v its) (hm : its.length ≤ maxLen) : ItemsIn w (fun b => L ≤ b ∧ b < w.heap.size) (n + 1) v its := by
  obtain ⟨ss, hl, hr, hc⟩ := h
  have hlt := hr.lt
  rcases hr.2 with ⟨hv, h0⟩ | ⟨g, cap, cur, hv, _⟩
  · refine ⟨none, 0, by rw [hv, h0], hm, fun j hj => by omega⟩
  · subst hv
    refine ⟨some ⟨g, 0, none⟩, cap, rfl, hm, fun j hj => ?_⟩
    obtain ⟨h1, h2⟩ := hc j hj
    have hg := hlt g rfl
    have ce : ∀ i, i < 5 → w.cell? ⟨g, 0 + j * 5 + i, none⟩ = (cells5 its[j] (ss[j]'(by omega)))[i]? := fun i hi => by
      rw [Nat.zero_add, hr.cellAt (j * 5 + i) (by have := Nat.mul_le_mul_right 5 (show j + 1 ≤ its.length by omega); omega), rowC_get hl j hj i hi]
    exact ⟨g, 0, ss[j]'(by omega), rfl, hg, ce 0 (by omega), ce 1 (by omega), ce 2 (by omega), ce 3 (by omega), ce 4 (by omega), h1.kept (fun _ _ _ => rfl) (fun b hb => ⟨hb.1, hb.2.1⟩), h2⟩
theorem infoVal : (Tryz.prog.info? 26).map (fun i => (i.zero, i.size, i.bytes)) = some (some (.agg #[.int .i64 0, .int .i64 0, .int .i64 0, .string ⟨#[]⟩, .slice none 0 0]), 5, 64) := by kernel_rfl
theorem infoVal5 : (Tryz.prog.info? 26).map (·.size) = some 5 := by kernel_rfl
theorem info_partsV {o : Option TypeInfo} {z : Option Value} {a b : Nat} (h : o.map (fun i => (i.zero, i.size, i.bytes)) = some (z, a, b)) : ∃ i, o = some i ∧ i.zero = z ∧ i.size = a ∧ i.bytes = b := by
  cases o with
  | none => simp at h
  | some i => simp at h; exact ⟨i, rfl, h.1, h.2.1, h.2.2⟩
/-- One value more is laid behind. -/
theorem OwnAt.push {wr W : World} {L n : Nat} {v s : Value} {its : List Vl} {x : Vl} (h : OwnAt wr L n v its) (hL : L ≤ wr.heap.size) (hb : Below wr.heap.size wr W) (hx : ItemsIn W (fun b => wr.heap.size ≤ b ∧ b < W.heap.size) n s x.items) (ht : x.ok) (hn : its.length + 1 ≤ 1000000000) (ty : TypeId) :
    ∃ v' w', (Builtin.append_ #[24, 24] ty #[v, .slice (some ⟨W.heap.size, 0, none⟩) 1 1]).run Tryz.prog (W.alloc (.cells #[.int .i64 x.kind, .int .i64 x.int, .int .i64 x.im, .string x.text, s] 26)) = .ok v' w' ∧ OwnAt w' L n v' (its ++ [x]) ∧ Below L W w' := by
  obtain ⟨i0, hi, hz0, hz1, hz2⟩ := info_partsV infoVal
  obtain ⟨ss, hl, hr, hc⟩ := h
  obtain ⟨sa, sc, rfl, _⟩ := hx.len
  have hbA : Below W.heap.size W (W.alloc (.cells #[.int .i64 x.kind, .int .i64 x.int, .int .i64 x.im, .string x.text, .slice sa x.items.length sc] 26)) := alloc_v (Below.refl _ _) _
  have hbW := trans_v hb hbA
  have hsz := hb.size
  have eA := World.alloc_heap_new W (.cells #[.int .i64 x.kind, .int .i64 x.int, .int .i64 x.im, .string x.text, .slice sa x.items.length sc] 26)
  have hrA : (W.alloc (.cells #[.int .i64 x.kind, .int .i64 x.int, .int .i64 x.im, .string x.text, .slice sa x.items.length sc] 26)).ownsRow L 26 5 v its.length (rowC its ss) := hr.kept (grown_of_below (r := none) hbW) (by cases v.ownBlock <;> simp)
  obtain ⟨g, cap, w', hrun, A1, A2, A3, A4⟩ := run_append_lies (P := Tryz.prog) (W.alloc (.cells #[.int .i64 x.kind, .int .i64 x.int, .int .i64 x.im, .string x.text, .slice sa x.items.length sc] 26)) 24 ty L 26 i0 _ 5 64 Tryz.underlying24 hi hz0 hz1 hz2 rfl (by decide) v its.length (rowC its ss) hrA ⟨W.heap.size, 0, none⟩ 1 1 (cells5 x (.slice sa x.items.length sc)) rfl (fun j u hj => by
      rw [Addr.add_lit, Nat.zero_add]
      exact cells_at eA j u (by simpa [cells5] using hj)) (fun u hu => by simp [cells5] at hu; rcases hu with rfl | rfl | rfl | rfl | rfl <;> rfl) (by omega) (by unfold maxLen; omega) (by omega) (by rw [World.size_alloc]; omega) (W.heap.size + 1) (by rw [World.size_alloc])
  have hgz := A2.size
  rw [World.size_alloc] at hgz
  have hvl := hr.lt
  refine ⟨_, w', hrun, ⟨ss ++ [.slice sa x.items.length sc], by simp [hl], ?_, fun j hj => ?_⟩, ?_⟩
  · rw [rowC_snoc _ _ hl, List.length_append]
    exact A1
  · by_cases e : j < its.length
    · obtain ⟨h1, h2⟩ := hc j e
      rw [List.getElem_append_left (by omega), List.getElem_append_left e]
      refine ⟨h1.kept (fun b o hb => ?_) (fun b hb => ⟨hb.1, by omega, fun eq => ?_⟩), h2⟩
      · exact (World.cell?_of_block (A2.block b (by rw [World.size_alloc]; omega) hb.2.2)).trans ((bcellV hbW).1 b o hb.2.1)
      · simp only [Value.ownBlock, Option.some.injEq] at eq
        rcases A3 with A3 | A3
        · exact hb.2.2 (by rw [A3, eq])
        · omega
    · have ej : j = its.length := by rw [List.length_append, List.length_singleton] at hj; omega
      subst ej
      rw [List.getElem_append_right (by omega), List.getElem_append_right (by omega)]
      simp only [hl, Nat.sub_self, List.getElem_singleton]
      refine ⟨hx.kept (fun b o hb => ?_) (fun b hb => ⟨by omega, by omega, fun eq => ?_⟩), ht⟩
      · refine (World.cell?_of_block (A2.block b (by rw [World.size_alloc]; omega) (fun eq => ?_))).trans ((bcellV hbA).1 b o hb.2)
        have := (hvl b eq.symm).2
        omega
      · simp only [Value.ownBlock, Option.some.injEq] at eq
        rcases A3 with A3 | A3
        · have := (hvl g A3).2
          omega
        · omega
  · have hb1 : Below L W (W.alloc (.cells #[.int .i64 x.kind, .int .i64 x.int, .int .i64 x.im, .string x.text, .slice sa x.items.length sc] 26)) := hbA.mono (by omega)
    exact hb1.grown A2 (by rw [World.size_alloc]; omega) (fun k hk => (hvl k hk).1)
def CopyC (n : Nat) : Prop := ∀ (v : Vl) (w : World) (B : Nat) (sl : Value), v.size ≤ 1000000000 → B ≤ w.heap.size → ItemsAt w B n sl v.items →
  Calls Tryz.prog 89 #[.agg (vcells v sl)] w fun e w' => ∃ s', e = .returned (.agg (vcells v s')) ∧ ItemsIn w' (fun b => w.heap.size ≤ b ∧ b < w'.heap.size) n s' v.items ∧ Below w.heap.size w w'
theorem size_len (v : Vl) : v.items.length < v.size := by
  have h : ∀ l : List Vl, l.length ≤ (l.map Vl.size).sum := by
    intro l
    induction l with
    | nil => simp
    | cons x l ih => have := x.size_pos; simp; omega
  have := h v.items
  rw [Vl.size_eq v]
  omega
set_option maxRecDepth 100000 in
set_option maxHeartbeats 1000000 in
theorem copied_step {n : Nat} (hC : CopyC n) : CopyC (n + 1) := by
  intro v w B sl hv hB hi
  have HI := hide hi
  obtain ⟨a, c, rfl, hla⟩ := hi.len
  unfold maxLen at hla
  have HC0 := hide hC
  have HSZ := hide (fun (x : Vl) (hx : x ∈ v.items) => (show x.size ≤ 1000000000 from by have := Vl.size_item hx; omega))
  have HLN := hide (size_len v)
  have hln : v.items.length ≤ 1000000000 := by have := size_len v; omega
  obtain ⟨W, hW⟩ : ∃ W, (w.alloc (.cells (vcells v (.slice a v.items.length c)) 26)).alloc (.cells #[.int .i64 0, .int .i64 0, .int .i64 0, .string ⟨#[]⟩, .slice none 0 0] 26) = W := ⟨_, rfl⟩
  have bW : Below w.heap.size w W := by rw [← hW]; exact alloc_v (alloc_v (Below.refl _ _) _) _
  have e1 : W.heap[w.heap.size]? = some (.cells (vcells v (.slice a v.items.length c)) 26 (0, 0)) := by rw [← hW]; exact (Below.heap_alloc _ _ _ (by simp)).trans (World.alloc_heap_new w _)
  have e2 : W.heap[w.heap.size + 1]? = some (.cells #[.int .i64 0, .int .i64 0, .int .i64 0, .string ⟨#[]⟩, .slice none 0 0] 26 (0, 0)) := by rw [← hW]; have := World.alloc_heap_new (w.alloc (.cells (vcells v (.slice a v.items.length c)) 26)) (.cells #[.int .i64 0, .int .i64 0, .int .i64 0, .string ⟨#[]⟩, .slice none 0 0] 26); rwa [World.size_alloc] at this
  have zW : w.heap.size + 1 < W.heap.size := (Array.getElem?_eq_some_iff.1 e2).1
  have x4 := cells_at e1 4 _ rfl
  have HE1 := hide e1
  have HE2 := hide e2
  have HV := hide (HI.out.below (bW.mono hB))
  have hBW : B ≤ W.heap.size := by have := bW.size; omega
  clear hi hC e1 e2
  go_enter Tryz.func89, Tryz.ntmps89
  go_wp2
  clear hW x4
  go_loopw [3, 9] (fun o i wr => ∃ k : Nat, k ≤ v.items.length ∧ i = .int .i64 k ∧ OwnAt wr W.heap.size n o (v.items.take k) ∧ Below W.heap.size W wr) (fun _ i _ => v.items.length - (intOf i).toNat)
  case atStart => exact ⟨0, Nat.zero_le _, rfl, OwnAt.nil _ _ _, Below.refl _ _⟩
  case round =>
    obtain ⟨k, hk, rfl, hO, hbel⟩ := hrel
    by_cases hlt : k < v.items.length
    · obtain ⟨b1, o1, s1, rfl, g1, p0, p1, p2, p3, p4, p5, p6⟩ := (HV.out.below (hbel.mono hBW)).item k hlt
      have l1 : b1 < wr.heap.size := by have := hbel.size; omega
      have HC := hide (fun (U : World) (b : Below wr.heap.size wr U) => HC0.out v.items[k] U B s1 (HSZ.out _ (List.getElem_mem hlt)) (by have := hbel.size; have := b.size; omega) (p5.below (b.mono (by have := hbel.size; omega))))
      have HP := hide (fun (U : World) (s : Value) (b : Below wr.heap.size wr U) (hx : ItemsIn U (fun b => wr.heap.size ≤ b ∧ b < U.heap.size) n s v.items[k].items) => OwnAt.push (ty := 24) hO hbel.size b hx p6 (by rw [List.length_take]; omega))
      have HT := hide (List.take_succ_eq_append_getElem hlt)
      obtain ⟨xx1, yy1, rfl, _⟩ := p5.len
      have HB2 := hide hbel
      clear p5 p6 hbel g1 hO
      generalize v.items[k].items = xi at *
      generalize v.items[k] = x at *
      go_wp2_with (first
        | (go_at_call 89; refine (HC.out _ (alloc_v (Below.refl _ _) _)).mono ?_; clear HC; rintro e w2 ⟨s2, rfl, i2, b2⟩; obtain ⟨sa2, sc2, rfl, _⟩ := i2.len; obtain ⟨v3, w3, hrun, o3, b3⟩ := HP.out w2 _ (trans_v (alloc_v (Below.refl _ _) _) b2) (i2.kept (fun _ _ _ => rfl) (fun b hb => ⟨(by have := hb.1; rw [World.size_alloc] at this; omega), hb.2⟩)); have HR := hide hrun; have O3 := hide o3; have B3 := hide (HB2.out.trans (((trans_v (alloc_v (Below.refl _ _) _) b2).mono HB2.out.size).trans b3)); clear hrun o3 b3 HP i2 b2)
        | (at_builtin; refine Lib.wpList_append_run _ rfl (.tmp 13) (.tmp 16) 24 24 rfl _ _ rfl rfl _ _ HR.out ?_))
      go_roundw
      case rel => exact ⟨k + 1, by omega, by go_num, by rw [HT.out]; exact O3.out, B3.out⟩
      case measure => simp [intOf]; omega
    · rw [List.take_of_length_le (by omega)] at hO
      have hit := hO.items (by unfold maxLen; omega)
      obtain ⟨sa, sc, rfl, _⟩ := hit.len
      have HIT := hide hit
      have f1 := (hbel.block _ (by omega)).trans HE1.out
      have f2 := (hbel.block _ zW).trans HE2.out
      have x0 := cells_at f1 0 _ rfl
      have x1 := cells_at f1 1 _ rfl
      have x2 := cells_at f1 2 _ rfl
      have x3 := cells_at f1 3 _ rfl
      have x4 := cells_at f1 4 _ rfl
      have z4 := frozen_at f1 4
      have y0 := cells_at f2 0 _ rfl
      have y1 := cells_at f2 1 _ rfl
      have y2 := cells_at f2 2 _ rfl
      have y3 := cells_at f2 3 _ rfl
      have y4 := cells_at f2 4 _ rfl
      have q0 := frozen_at f2 0
      have q1 := frozen_at f2 1
      have q2 := frozen_at f2 2
      have q3 := frozen_at f2 3
      have q4 := frozen_at f2 4
      have F1 := hide f1
      have F2 := hide f2
      have HB2 := hide hbel
      clear hO hit f1 f2 hbel
      go_wp2
      have ne1 : w.heap.size + 1 ≠ w.heap.size := by omega
      have g1 := (Below.heap_setCell wr ⟨w.heap.size, 4, none⟩ (.slice sa v.items.length sc) (w.heap.size + 1) ne1).trans F2.out
      have g2 := heap_setCell_same _ _ 0 _ _ (.int .i64 v.kind) g1
      have g3 := heap_setCell_same _ _ 1 _ _ (.int .i64 v.int) g2
      have g4 := heap_setCell_same _ _ 2 _ _ (.int .i64 v.im) g3
      have g5 := heap_setCell_same _ _ 3 _ _ (.string v.text) g4
      have g6 := heap_setCell_same _ _ 4 _ _ (.slice sa v.items.length sc) g5
      have hbw := HB2.out
      have hsz := bW.size
      refine bodyPost_ret (results_cell_row rfl _ _ (w.heap.size + 1) _ _ _ _ rfl g6 Tryz.underlying26 rfl infoVal5) rfl ?_
      refine ⟨.slice sa v.items.length sc, rfl, HIT.out.kept (fun b o hb => ?_) (fun b hb => ⟨by omega, by simpa using hb.2⟩), ?_⟩
      · have hn1 : b ≠ w.heap.size := by have := hb.1; omega
        have hn2 : b ≠ w.heap.size + 1 := by have := hb.1; omega
        refine World.cell?_of_block ?_
        rw [Below.heap_setCell _ _ _ _ hn2, Below.heap_setCell _ _ _ _ hn2, Below.heap_setCell _ _ _ _ hn2, Below.heap_setCell _ _ _ _ hn2, Below.heap_setCell _ _ _ _ hn2, Below.heap_setCell _ _ _ _ hn1]
      · exact ((((((bW.trans (hbw.mono hsz)).setCell (Nat.le_refl _) _).setCell (by show w.heap.size ≤ w.heap.size + 1; omega) _).setCell (by show w.heap.size ≤ w.heap.size + 1; omega) _).setCell (by show w.heap.size ≤ w.heap.size + 1; omega) _).setCell (by show w.heap.size ≤ w.heap.size + 1; omega) _).setCell (by show w.heap.size ≤ w.heap.size + 1; omega) _
theorem copied_k : ∀ n, CopyC n
  | 0 => fun _ _ _ _ _ _ h => h.elim
  | n + 1 => copied_step (copied_k n)
/-- What lies in a value that holds nothing. -/
abbrev zcells : Array Value := #[.int .i64 0, .int .i64 0, .int .i64 0, .string ⟨#[]⟩, .slice none 0 0]
/-- A value that is stored into a block of its own. -/
theorem stored (w W : World) (k i m : Int) (t : ByteArray) (sl : Value) (c : Array Value) (b : Nat) (hb : w.heap.size ≤ b) (bW : Below w.heap.size w W) (hc : c.size = 5) (g1 : W.heap[b]? = some (.cells c 26 (0, 0))) :
    (((((W.setCell ⟨b, 0, none⟩ (.int .i64 k)).setCell ⟨b, 1, none⟩ (.int .i64 i)).setCell ⟨b, 2, none⟩ (.int .i64 m)).setCell ⟨b, 3, none⟩ (.string t)).setCell ⟨b, 4, none⟩ sl).heap[b]? = some (.cells #[.int .i64 k, .int .i64 i, .int .i64 m, .string t, sl] 26 (0, 0)) ∧
    Below w.heap.size w (((((W.setCell ⟨b, 0, none⟩ (.int .i64 k)).setCell ⟨b, 1, none⟩ (.int .i64 i)).setCell ⟨b, 2, none⟩ (.int .i64 m)).setCell ⟨b, 3, none⟩ (.string t)).setCell ⟨b, 4, none⟩ sl) := by
  obtain ⟨l⟩ := c
  obtain ⟨x0, x1, x2, x3, x4, rfl⟩ : ∃ x0 x1 x2 x3 x4, l = [x0, x1, x2, x3, x4] := by
    match l, hc with
    | [x0, x1, x2, x3, x4], _ => exact ⟨_, _, _, _, _, rfl⟩
  have g2 := heap_setCell_same _ _ 0 _ _ (.int .i64 k) g1
  have g3 := heap_setCell_same _ _ 1 _ _ (.int .i64 i) g2
  have g4 := heap_setCell_same _ _ 2 _ _ (.int .i64 m) g3
  have g5 := heap_setCell_same _ _ 3 _ _ (.string t) g4
  have g6 := heap_setCell_same _ _ 4 _ _ sl g5
  exact ⟨g6, ((((bW.setCell hb _).setCell hb _).setCell hb _).setCell hb _).setCell hb _⟩
end Go.Proofs.YtngnlofjjlkcmaaGreatDoor
