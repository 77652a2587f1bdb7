/- The document's spots of the runes of a text. -/
import Derived.Test.YtpbebcefnkbnlaaDoorTRefCells
namespace Go.Proofs.YtpbebcefnkbnlaaDoor
open Go.RowKit

/-- A block that holds three numbers. -/
def AtT (t : TypeId) (W : World) (A : Nat) (a b c : Int) : Prop := W.heap[A]? = some (.cells #[.int .i64 a, .int .i64 b, .int .i64 c] t (0, 0))
theorem AtT.cells {t : TypeId} {W : World} {A : Nat} {a b c : Int} (h : AtT t W A a b c) : W.cell? ⟨A, 0, none⟩ = some (.int .i64 a) ∧ W.cell? ⟨A, 1, none⟩ = some (.int .i64 b) ∧ W.cell? ⟨A, 2, none⟩ = some (.int .i64 c) ∧ W.frozen? ⟨A, 0, none⟩ = false ∧ W.frozen? ⟨A, 1, none⟩ = false ∧ W.frozen? ⟨A, 2, none⟩ = false := by
  refine ⟨?_, ?_, ?_, ?_, ?_, ?_⟩ <;> simp [World.cell?, World.frozen?, show W.heap[A]? = _ from h]
theorem AtT.set0 {t : TypeId} {W : World} {A : Nat} {a b c : Int} (h : AtT t W A a b c) (x : Int) : AtT t (W.setCell ⟨A, 0, none⟩ (.int .i64 x)) A x b c := by
  simp [AtT, World.setCell, Array.getElem?_modify, show W.heap[A]? = _ from h]
theorem AtT.set1 {t : TypeId} {W : World} {A : Nat} {a b c : Int} (h : AtT t W A a b c) (x : Int) : AtT t (W.setCell ⟨A, 1, none⟩ (.int .i64 x)) A a x c := by
  simp [AtT, World.setCell, Array.getElem?_modify, show W.heap[A]? = _ from h]
theorem AtT.set2 {t : TypeId} {W : World} {A : Nat} {a b c : Int} (h : AtT t W A a b c) (x : Int) : AtT t (W.setCell ⟨A, 2, none⟩ (.int .i64 x)) A a b x := by
  simp [AtT, World.setCell, Array.getElem?_modify, show W.heap[A]? = _ from h]
theorem AtT.alloc {t : TypeId} {W : World} {A : Nat} {a b c : Int} (h : AtT t W A a b c) (o : Obj) : AtT t (W.alloc o) A a b c :=
  (Below.heap_alloc W o A (Array.getElem?_eq_some_iff.1 h).1).trans h
theorem AtT.lt {t : TypeId} {W : World} {A : Nat} {a b c : Int} (h : AtT t W A a b c) : A < W.heap.size := (Array.getElem?_eq_some_iff.1 h).1
theorem below_set {w W : World} (h : Below w.heap.size w W) (A i : Nat) (v : Value) (hA : w.heap.size ≤ A) : Below w.heap.size w (W.setCell ⟨A, i, none⟩ v) :=
  h.grown (grown_set W A i v) h.size (fun k e => by cases e; exact hA)
theorem row_set {W : World} {base : Nat} {e : TypeId} {size : Nat} {v : Value} {k : Nat} {xs : List Value} (h : W.ownsRow base e size v k xs) (A i : Nat) (u : Value) (hA : A < base) : (W.setCell ⟨A, i, none⟩ u).ownsRow base e size v k xs :=
  h.kept (grown_set W A i u) (by
    rcases h.2 with ⟨e, _⟩ | ⟨g, cap, cur, e, hb, _⟩
    · rw [e]; exact .inl rfl
    · rw [e]; right; simp [Value.ownBlock]; omega)

theorem infoRefSpot3 : (Tryd.prog.info? 26).map (fun i => (i.zero, i.size, i.bytes)) = some (some (.agg #[.int .i64 0, .int .i64 0, .int .i64 0]), 3, 24) := by kernel_rfl

set_option maxRecDepth 100000 in
set_option maxHeartbeats 4000000 in
theorem refSpots_k (t0 : List (Int × Nat)) (a : Option Addr) (cp : Nat) (w : World) (hx : RsAt (rsT 0 t0) a w) (hM : t0.length ≤ 1048576) :
    Calls Tryd.prog 19 #[.slice a t0.length cp] w fun e w' => ∃ v, e = .returned v ∧ w'.ownsRow w.heap.size 26 3 v t0.length (spotCells (elS 0 1 1 t0)) ∧ Below w.heap.size w w' := by
  obtain ⟨i3, hi3, h30, h31, h32⟩ := info_parts infoRefSpot3
  have HX := hide hx
  clear hx
  go_enter Tryd.func19, Tryd.ntmps19
  go_wp2
  go_loopw [3, 5] (fun v vi wr => ∃ (i o line col : Nat) (z : Int) (t : List (Int × Nat)) (pre : List El), vi = .int .i64 (i : Int) ∧ i ≤ t0.length ∧ pre.length = i ∧ line ≤ i + 1 ∧ col ≤ i + 1 ∧ Hid ((rsT 0 t0).drop i = rsT o t) ∧ elS 0 1 1 t0 = pre ++ elS o line col t ∧ AtT 26 wr w.heap.size z line col ∧ wr.ownsRow (w.heap.size + 1) 26 3 v pre.length (spotCells pre) ∧ Below w.heap.size w wr)
    (fun _ v _ => t0.length - (Lib.intOf v).toNat)
  case atStart =>
    exact ⟨0, 0, 1, 1, 0, t0, [], rfl, Nat.zero_le _, rfl, Nat.le_refl _, Nat.le_refl _, rfl, rfl, heap_alloc_new w _, World.ownsRow_nil _ _ _ _, (Below.refl _ w).alloc (Nat.le_refl _) _⟩
  case round =>
    obtain ⟨i, o, line, col, z, t, pre, rfl, hi, hpl, hline, hcol, HD, hels, hat, hrow, hbel⟩ := hrel
    obtain ⟨ao, cp', rfl⟩ := row_slice hrow
    have hlen : (rsT 0 t0).length = t0.length := rsT_length _ _
    by_cases hlt : i < t0.length
    · have hd := HD.out
      rw [List.drop_eq_getElem_cons (by omega)] at hd
      obtain ⟨g, rfl, d1, d2, -⟩ := HX.out i (by omega)
      match t, hd, hels with
      | [], hd, _ => rw [rsT] at hd; cases hd
      | (r, k) :: t, hd, hels =>
        rw [rsT] at hd
        obtain ⟨hd1, hd2⟩ := List.cons.inj hd
        rw [hd1] at d1 d2
        rw [elS_step] at hels
        clear HD hd hd1
        have HD := hide hd2
        have HE := hide hels
        clear hd2 hels
        have hAl := hat.lt
        have e2 := keepCell d2 hbel
        obtain ⟨_, _, _, f0, _, _⟩ := hat.cells
        have hat1 := hat.set0 (o : Int)
        obtain ⟨c10, c11, c12, _, _, _⟩ := hat1.cells
        have hrow1 := row_set hrow w.heap.size 0 (.int .i64 (o : Int)) (by omega)
        have hbel1 := below_set hbel w.heap.size 0 (.int .i64 (o : Int)) (Nat.le_refl _)
        have hsz1 := hbel1.size
        have key : ∀ (w2 : World) (u : Value), ((wr.setCell ⟨w.heap.size, 0, none⟩ (.int .i64 (o : Int))).alloc (.cells #[.int .i64 o, .int .i64 line, .int .i64 col] 26)).grownBy w2 (Value.slice ao pre.length cp').ownBlock → u = .int .i64 r →
            AtT 26 w2 w.heap.size o line col ∧ Below w.heap.size w w2 ∧ (w2.setCell ⟨w.heap.size, 2, none⟩ (.int .i64 ((col : Int) + 1))).cell? ⟨g, i * 3, none⟩ = some u := by
          intro w2 u hg e
          subst e
          have hb2 : Below w.heap.size w w2 := (hbel1.alloc hbel1.size _).grown hg (by simp; omega) (fun j ej => by have := (row_block hrow j ej).1; omega)
          refine ⟨?_, hb2, keepCell d1 (below_set hb2 _ _ _ (Nat.le_refl _))⟩
          have := hat1.alloc (.cells #[.int .i64 o, .int .i64 line, .int .i64 col] 26)
          unfold AtT at this ⊢
          rw [← this]
          exact hg.block _ (by simp; omega) (fun e => by have := (row_block hrow _ e.symm).1; omega)
        by_cases hr : r = 10
        · subst hr
          go_wp2_with (at_builtin; refine wpList_append_own _ rfl _ _ 41 rfl (w.heap.size + 1) 26 i3 (.agg #[.int .i64 0, .int .i64 0, .int .i64 0]) 3 24 Tryd.underlying41 hi3 h30 h31 h32 rfl (by decide) _ _ _ rfl (hrow1.alloc _) ⟨wr.heap.size, 0, none⟩ 1 1 [.int .i64 o, .int .i64 line, .int .i64 col] rfl rfl (cell_three_at _ _ _ _ _ _ (by simp [World.setCell])) (by simp [Value.oneCell']) (by unfold maxLen; omega) (by omega) (by simp; omega) ?_; intro v' w2 hown' hgrow _; obtain ⟨g', cap', rfl⟩ := ownsRow_succ hown'; obtain ⟨hat2, hb2, r2⟩ := key w2 _ hgrow rfl; obtain ⟨c20, c21, c22, f20, f21, f22⟩ := hat2.cells; have hat3 := hat2.set2 ((col : Int) + 1); obtain ⟨c30, c31, c32, f30, f31, f32⟩ := hat3.cells; have hat4 := hat3.set1 ((line : Int) + 1); obtain ⟨c40, c41, c42, f40, f41, f42⟩ := hat4.cells)
          have hb3 := below_set hb2 w.heap.size 2 (.int .i64 ((col : Int) + 1)) (Nat.le_refl _)
          have hrow3 := row_set hown' w.heap.size 2 (.int .i64 ((col : Int) + 1)) (by omega)
          have hb4 := below_set hb3 w.heap.size 1 (.int .i64 ((line : Int) + 1)) (Nat.le_refl _)
          have hrow4 := row_set hrow3 w.heap.size 1 (.int .i64 ((line : Int) + 1)) (by omega)
          have hb5 := below_set hb4 w.heap.size 2 (.int .i64 1) (Nat.le_refl _)
          have hrow5 := row_set hrow4 w.heap.size 2 (.int .i64 1) (by omega)
          go_roundw
          case rel =>
            refine ⟨i + 1, o + k, line + 1, 1, o, t, pre ++ [⟨o, line, col, 10⟩], by simp, by omega, by simp [hpl], by omega, by omega, HD, ?_, hat4.set2 1, ?_, hb5⟩
            · rw [HE.out]
              simp [bLine, bCol]
            · rw [spotCells_snoc, List.length_append, ← hpl]
              exact hrow5
          case measure =>
            simp [Lib.intOf]
            omega
        · have hr' : (r == 10) = false := by simpa using hr
          go_wp2_with (at_builtin; refine wpList_append_own _ rfl _ _ 41 rfl (w.heap.size + 1) 26 i3 (.agg #[.int .i64 0, .int .i64 0, .int .i64 0]) 3 24 Tryd.underlying41 hi3 h30 h31 h32 rfl (by decide) _ _ _ rfl (hrow1.alloc _) ⟨wr.heap.size, 0, none⟩ 1 1 [.int .i64 o, .int .i64 line, .int .i64 col] rfl rfl (cell_three_at _ _ _ _ _ _ (by simp [World.setCell])) (by simp [Value.oneCell']) (by unfold maxLen; omega) (by omega) (by simp; omega) ?_; intro v' w2 hown' hgrow _; obtain ⟨g', cap', rfl⟩ := ownsRow_succ hown'; obtain ⟨hat2, hb2, r2⟩ := key w2 _ hgrow rfl; obtain ⟨c20, c21, c22, f20, f21, f22⟩ := hat2.cells; have hat3 := hat2.set2 ((col : Int) + 1); obtain ⟨c30, c31, c32, f30, f31, f32⟩ := hat3.cells)
          have hb3 := below_set hb2 w.heap.size 2 (.int .i64 ((col : Int) + 1)) (Nat.le_refl _)
          have hrow3 := row_set hown' w.heap.size 2 (.int .i64 ((col : Int) + 1)) (by omega)
          go_roundw
          case rel =>
            refine ⟨i + 1, o + k, line, col + 1, o, t, pre ++ [⟨o, line, col, r⟩], by simp, by omega, by simp [hpl], by omega, by omega, HD, ?_, hat3, ?_, hb3⟩
            · rw [HE.out]
              simp [bLine, bCol, hr]
            · rw [spotCells_snoc, List.length_append, ← hpl]
              exact hrow3
          case measure =>
            simp [Lib.intOf]
            omega
    · have hn : t = [] := by
        have hd := HD.out
        rw [List.drop_of_length_le (by omega)] at hd
        match t, hd with
        | [], _ => rfl
        | (r, k) :: t, hd => rw [rsT] at hd; cases hd
      subst hn
      rw [elS, List.append_nil] at hels
      have hie : i = t0.length := by omega
      go_wp2
      go_ret
      rw [hels]
      refine ⟨_, rfl, ?_, hbel⟩
      have e : t0.length = pre.length := by omega
      rw [e]
      exact row_base hrow (by omega)
end Go.Proofs.YtpbebcefnkbnlaaDoor
