/- Rows that may be written over, all the way down; smear, of the statements' own. -/
import Derived.Test.YtgglommnipbagaaGreatDoorZVCopied
import Derived.Test.YtgglommnipbagaaGreatDoorZVSetNil
import Derived.Test.YtgglommnipbagaaGreatDoorZVGather
import Derived.Test.YtgglommnipbagaaGreatDoorGArith
namespace Go.Proofs.YtgglommnipbagaaGreatDoor
open Go.RowKit

theorem sOther {w : World} {a b : Addr} {v : Value} (h : a ≠ b) : (w.setCell a v).cell? b = w.cell? b := by apply World.cell?_setCell_other; exact h
theorem sSame {w : World} {a : Addr} {u v : Value} (h : w.cell? a = some u) : (w.setCell a v).cell? a = some v := by apply World.cell?_setCell_same; exact h
/-- Five cells in a row are stored. -/
abbrev put5 (w : World) (g o : Nat) (v0 v1 v2 v3 v4 : Value) : World := ((((w.setCell ⟨g, o, none⟩ v0).setCell ⟨g, o + 1, none⟩ v1).setCell ⟨g, o + 2, none⟩ v2).setCell ⟨g, o + 3, none⟩ v3).setCell ⟨g, o + 4, none⟩ v4
theorem put5_other {w : World} {g o b o' : Nat} {v0 v1 v2 v3 v4 : Value} (h : b ≠ g ∨ o' < o ∨ o + 5 ≤ o') : (put5 w g o v0 v1 v2 v3 v4).cell? ⟨b, o', none⟩ = w.cell? ⟨b, o', none⟩ := by
  have ne : ∀ i, i < 5 → (⟨g, o + i, none⟩ : Addr) ≠ ⟨b, o', none⟩ := fun i hi e => by
    simp only [Addr.mk.injEq, and_true] at e
    omega
  unfold put5
  rw [sOther (ne 4 (by omega)), sOther (ne 3 (by omega)), sOther (ne 2 (by omega)), sOther (ne 1 (by omega))]
  exact sOther (ne 0 (by omega))
theorem put5_at {w : World} {g o : Nat} {v0 v1 v2 v3 v4 u0 u1 u2 u3 u4 : Value} (h0 : w.cell? ⟨g, o, none⟩ = some u0) (h1 : w.cell? ⟨g, o + 1, none⟩ = some u1) (h2 : w.cell? ⟨g, o + 2, none⟩ = some u2) (h3 : w.cell? ⟨g, o + 3, none⟩ = some u3) (h4 : w.cell? ⟨g, o + 4, none⟩ = some u4) :
    (put5 w g o v0 v1 v2 v3 v4).cell? ⟨g, o, none⟩ = some v0 ∧ (put5 w g o v0 v1 v2 v3 v4).cell? ⟨g, o + 1, none⟩ = some v1 ∧ (put5 w g o v0 v1 v2 v3 v4).cell? ⟨g, o + 2, none⟩ = some v2 ∧ (put5 w g o v0 v1 v2 v3 v4).cell? ⟨g, o + 3, none⟩ = some v3 ∧ (put5 w g o v0 v1 v2 v3 v4).cell? ⟨g, o + 4, none⟩ = some v4 := by
  have ne : ∀ i j, i ≠ j → (⟨g, o + i, none⟩ : Addr) ≠ ⟨g, o + j, none⟩ := fun i j hi e => by
    simp only [Addr.mk.injEq, true_and, and_true] at e
    omega
  have n10 : (⟨g, o + 1, none⟩ : Addr) ≠ ⟨g, o, none⟩ := ne 1 0 (by omega)
  have n20 : (⟨g, o + 2, none⟩ : Addr) ≠ ⟨g, o, none⟩ := ne 2 0 (by omega)
  have n30 : (⟨g, o + 3, none⟩ : Addr) ≠ ⟨g, o, none⟩ := ne 3 0 (by omega)
  have n40 : (⟨g, o + 4, none⟩ : Addr) ≠ ⟨g, o, none⟩ := ne 4 0 (by omega)
  have n01 : (⟨g, o, none⟩ : Addr) ≠ ⟨g, o + 1, none⟩ := ne 0 1 (by omega)
  have n02 : (⟨g, o, none⟩ : Addr) ≠ ⟨g, o + 2, none⟩ := ne 0 2 (by omega)
  have n03 : (⟨g, o, none⟩ : Addr) ≠ ⟨g, o + 3, none⟩ := ne 0 3 (by omega)
  have n04 : (⟨g, o, none⟩ : Addr) ≠ ⟨g, o + 4, none⟩ := ne 0 4 (by omega)
  unfold put5
  refine ⟨?_, ?_, ?_, ?_, ?_⟩
  · rw [sOther n40, sOther n30, sOther n20, sOther n10]
    exact sSame h0
  · rw [sOther (ne 4 1 (by omega)), sOther (ne 3 1 (by omega)), sOther (ne 2 1 (by omega))]
    exact sSame ((sOther n01).trans h1)
  · rw [sOther (ne 4 2 (by omega)), sOther (ne 3 2 (by omega))]
    exact sSame ((sOther (ne 1 2 (by omega))).trans ((sOther n02).trans h2))
  · rw [sOther (ne 4 3 (by omega))]
    exact sSame ((sOther (ne 2 3 (by omega))).trans ((sOther (ne 1 3 (by omega))).trans ((sOther n03).trans h3)))
  · exact sSame ((sOther (ne 3 4 (by omega))).trans ((sOther (ne 2 4 (by omega))).trans ((sOther (ne 1 4 (by omega))).trans ((sOther n04).trans h4))))
theorem put5_frozen (w : World) (g o : Nat) (v0 v1 v2 v3 v4 : Value) (x : Addr) : (put5 w g o v0 v1 v2 v3 v4).frozen? x = w.frozen? x := by unfold put5; simp
theorem put5_heap {w : World} {g o b : Nat} {v0 v1 v2 v3 v4 : Value} (h : b ≠ g) : (put5 w g o v0 v1 v2 v3 v4).heap[b]? = w.heap[b]? := by
  unfold put5
  rw [Below.heap_setCell _ _ _ _ h, Below.heap_setCell _ _ _ _ h, Below.heap_setCell _ _ _ _ h, Below.heap_setCell _ _ _ _ h, Below.heap_setCell _ _ _ _ h]
theorem put5_size (w : World) (g o : Nat) (v0 v1 v2 v3 v4 : Value) : (put5 w g o v0 v1 v2 v3 v4).heap.size = w.heap.size := by simp [put5, World.setCell]
theorem put5_below {w w' : World} {L g o : Nat} {v0 v1 v2 v3 v4 : Value} (h : Below L w w') (hg : L ≤ g) : Below L w (put5 w' g o v0 v1 v2 v3 v4) := ((((h.setCell hg _).setCell hg _).setCell hg _).setCell hg _).setCell hg _
theorem frozen_of_block {w w' : World} {b o : Nat} (h : w'.heap[b]? = w.heap[b]?) : w'.frozen? ⟨b, o, none⟩ = w.frozen? ⟨b, o, none⟩ := by unfold World.frozen?; rw [h]
/-- A slice of values in rows of the blocks S that may be written, all the way down. -/
def SmAt (w : World) (S : Nat → Prop) : Nat → Value → Prop
  | 0, _ => False
  | n + 1, sl => ∃ a len c, sl = .slice a len c ∧ len ≤ 1000000000 ∧ ∀ j, j < len → ∃ b k i m t s', a = some ⟨b, 0, none⟩ ∧ S b ∧ w.cell? ⟨b, j * 5, none⟩ = some (.int .i64 k) ∧ w.cell? ⟨b, j * 5 + 1, none⟩ = some (.int .i64 i) ∧ w.cell? ⟨b, j * 5 + 2, none⟩ = some (.int .i64 m) ∧
      w.cell? ⟨b, j * 5 + 3, none⟩ = some (.string t) ∧ w.cell? ⟨b, j * 5 + 4, none⟩ = some s' ∧ (∀ i, i < 5 → w.frozen? ⟨b, j * 5 + i, none⟩ = false) ∧ SmAt w S n s'
theorem SmAt.nil (w : World) (S : Nat → Prop) (n : Nat) (a : Option Addr) (c : Nat) : SmAt w S (n + 1) (.slice a 0 c) := ⟨a, 0, c, rfl, by omega, fun j h => by omega⟩
theorem SmAt.pos {w : World} {S : Nat → Prop} {n : Nat} {s : Value} (h : SmAt w S n s) : ∃ m, n = m + 1 := by
  cases n with
  | zero => exact h.elim
  | succ n => exact ⟨n, rfl⟩
theorem SmAt.kept {w w' : World} {S : Nat → Prop} (hk : ∀ b, S b → b < w.heap.size → w'.heap[b]? = w.heap[b]?) : ∀ {n : Nat} {s : Value}, SmAt w S n s → SmAt w' S n s
  | 0, _, h => h.elim
  | n + 1, _, h => by
    obtain ⟨a, len, c, e, hl, hc⟩ := h
    refine ⟨a, len, c, e, hl, fun j hj => ?_⟩
    obtain ⟨b, k, i, m, t, s', e, hb, h0, h1, h2, h3, h4, hf, h5⟩ := hc j hj
    have hbk := hk b hb (World.block_lt_of_cell? w _ h0)
    have hcell : ∀ o, w'.cell? ⟨b, o, none⟩ = w.cell? ⟨b, o, none⟩ := fun o => World.cell?_of_block hbk
    exact ⟨b, k, i, m, t, s', e, hb, (hcell _).trans h0, (hcell _).trans h1, (hcell _).trans h2, (hcell _).trans h3, (hcell _).trans h4, fun i hi => (frozen_of_block hbk).trans (hf i hi), SmAt.kept hk h5⟩
/-- What is written over in S alone. -/
def Smeared (L : Nat) (S : Nat → Prop) (w w' : World) : Prop := (∀ n s, SmAt w S n s → SmAt w' S n s) ∧ Below L w w' ∧ ∀ b, ¬ S b → b < w.heap.size → w'.heap[b]? = w.heap[b]?
theorem Smeared.refl (L : Nat) (S : Nat → Prop) (w : World) : Smeared L S w w := ⟨fun _ _ h => h, Below.refl _ _, fun _ _ _ => rfl⟩
theorem Smeared.trans {L : Nat} {S : Nat → Prop} {u v w : World} (h : Smeared L S u v) (k : Smeared L S v w) : Smeared L S u w :=
  ⟨fun n s hs => k.1 n s (h.1 n s hs), h.2.1.trans k.2.1, fun b hb hl => (k.2.2 b hb (by have := h.2.1.size; omega)).trans (h.2.2 b hb hl)⟩
theorem Smeared.below {L : Nat} {S : Nat → Prop} {w w' : World} (h : Below w.heap.size w w') (hL : L ≤ w.heap.size) : Smeared L S w w' :=
  ⟨fun _ _ hs => hs.kept (fun b _ hb => h.block b hb), h.mono hL, fun b _ hb => h.block b hb⟩
theorem Smeared.put {L n : Nat} {S : Nat → Prop} {w : World} {g len c : Nat} (h : SmAt w S (n + 1) (.slice (some ⟨g, 0, none⟩) len c)) (hL : ∀ b, S b → L ≤ b) (j : Nat) (hj : j < len) : Smeared L S w (put5 w g (j * 5) (.int .i64 9) (.int .i64 0) (.int .i64 0) (.string ⟨#[]⟩) (.slice none 0 0)) := by
  obtain ⟨a, len', c', e, hl, hc⟩ := h
  cases e
  obtain ⟨b, k, i, m, t, s', e, hb, h0, h1, h2, h3, h4, hf, h5⟩ := hc j hj
  cases e
  obtain ⟨p0, p1, p2, p3, p4⟩ := put5_at (v0 := .int .i64 9) (v1 := .int .i64 0) (v2 := .int .i64 0) (v3 := .string ⟨#[]⟩) (v4 := .slice none 0 0) h0 h1 h2 h3 h4
  refine ⟨?_, put5_below (Below.refl _ _) (hL _ hb), fun b hn _ => put5_heap (fun e => hn (by rw [e]; exact hb))⟩
  intro n
  induction n with
  | zero => intro s hs; exact hs.elim
  | succ n ih =>
    rintro s ⟨a2, l2, c2, e2, hl2, hc2⟩
    refine ⟨a2, l2, c2, e2, hl2, fun j2 hj2 => ?_⟩
    obtain ⟨b2, k2, i2, m2, t2, s2, e2, hb2, q0, q1, q2, q3, q4, qf, q5⟩ := hc2 j2 hj2
    obtain ⟨n', rfl⟩ := q5.pos
    by_cases hs : b2 = g ∧ j2 = j
    · obtain ⟨rfl, rfl⟩ := hs
      exact ⟨b2, 9, 0, 0, ⟨#[]⟩, .slice none 0 0, e2, hb2, p0, p1, p2, p3, p4, fun i hi => by rw [put5_frozen]; exact qf i hi, SmAt.nil _ _ _ _ _⟩
    · have out : ∀ x, x < 5 → (put5 w g (j * 5) (.int .i64 9) (.int .i64 0) (.int .i64 0) (.string ⟨#[]⟩) (.slice none 0 0)).cell? ⟨b2, j2 * 5 + x, none⟩ = w.cell? ⟨b2, j2 * 5 + x, none⟩ := fun x hx => put5_other (by omega)
      exact ⟨b2, k2, i2, m2, t2, s2, e2, hb2, (out 0 (by omega)).trans q0, (out 1 (by omega)).trans q1, (out 2 (by omega)).trans q2, (out 3 (by omega)).trans q3, (out 4 (by omega)).trans q4, fun i hi => by rw [put5_frozen]; exact qf i hi, ih _ q5⟩
def SmearC (n : Nat) : Prop := ∀ (L : Nat) (S : Nat → Prop) (w : World) (k i m : Int) (t : ByteArray) (sl : Value), (∀ b, S b → L ≤ b ∧ b < w.heap.size) → L ≤ w.heap.size → SmAt w S n sl →
  Calls Tryz.prog 29 #[.agg #[.int .i64 k, .int .i64 i, .int .i64 m, .string t, sl]] w fun e w' => (∃ v, e = .returned v) ∧ Smeared L S w w'
set_option maxRecDepth 100000 in
set_option maxHeartbeats 1000000 in
theorem smear_step {n : Nat} (hC : SmearC n) : SmearC (n + 1) := by
  intro L S w k i m t sl hS hL hsl
  obtain ⟨W, hW⟩ : ∃ W, w.alloc (.cells #[.int .i64 k, .int .i64 i, .int .i64 m, .string t, sl] 25) = W := ⟨_, rfl⟩
  have bW : Below w.heap.size w W := by rw [← hW]; exact alloc_v (Below.refl _ _) _
  have e1 : W.heap[w.heap.size]? = some (.cells #[.int .i64 k, .int .i64 i, .int .i64 m, .string t, sl] 25 (0, 0)) := by rw [← hW]; exact World.alloc_heap_new w _
  have zW : w.heap.size < W.heap.size := (Array.getElem?_eq_some_iff.1 e1).1
  have hnb : ¬ S w.heap.size := fun h => by have := (hS _ h).2; omega
  have hsW := hsl.kept (fun b _ hb => bW.block b hb)
  obtain ⟨a, len, c, rfl, hln, _⟩ := hsl
  have HE := hide e1
  have HC := hide hC
  have HS := hide hS
  have HW := hide hsW
  have HSW := hide (Smeared.below (L := L) (S := S) bW hL)
  clear e1 hC hsW
  go_enter Tryz.func29, Tryz.ntmps29
  go_wp2
  clear hW
  go_loopw [2] (fun ii wr => ∃ kk : Nat, kk ≤ len ∧ ii = .int .i64 kk ∧ Smeared L S W wr) (fun ii _ => len - (intOf ii).toNat)
  case atStart => exact ⟨0, Nat.zero_le _, rfl, Smeared.refl _ _ _⟩
  case round =>
    obtain ⟨kk, hk, rfl, hM⟩ := hrel
    have f1 := (hM.2.2 _ hnb zW).trans HE.out
    have x4 := cells_at f1 4 _ rfl
    have hms := hM.2.1.size
    by_cases hlt : kk < len
    · have hr := hM.1 _ _ HW.out
      obtain ⟨_, _, _, e, _, hc⟩ := id hr
      cases e
      obtain ⟨b, k', i', m', t', s', rfl, hb, p0, p1, p2, p3, p4, pf, p5⟩ := hc kk hlt
      have hSr : ∀ b, S b → L ≤ b ∧ b < wr.heap.size := fun b h => by have := HS.out b h; omega
      have HR := hide (HC.out L S wr k' i' m' t' s' hSr (by omega) p5)
      have HRR := hide hr
      have HM := hide hM
      have HF := hide f1
      obtain ⟨n', rfl⟩ := p5.pos
      obtain ⟨xa, xl, xc, rfl, _⟩ := id p5
      have hk0 : (0 : Int) ≤ (kk : Int) := by omega
      have hk1 : (kk : Int) < (len : Int) := by omega
      clear hr hc p5 pf hM f1
      go_wp2_with (go_at_call 29; refine HR.out.mono ?_; clear HR; rintro e w2 ⟨⟨ev, rfl⟩, h2⟩; have hr2 := h2.1 _ _ HRR.out; have HP := hide ((HM.out.trans h2).trans (Smeared.put hr2 (fun b hb => (HS.out b hb).1) kk hlt)); obtain ⟨_, _, _, e2, _, hc2⟩ := id hr2; cases e2; obtain ⟨b', k2, i2, m2, t2, s2, e2, _, r0, r1, r2, r3, r4, rf, _⟩ := hc2 kk hlt; cases e2; have q0 := rf 0 (by omega); have q1 := rf 1 (by omega); have q2 := rf 2 (by omega); have q3 := rf 3 (by omega); have q4 := rf 4 (by omega); rw [Nat.add_zero] at q0; have f2 := (h2.2.2 _ hnb (by omega)).trans HF.out; have y4 := cells_at f2 4 _ rfl; clear h2 hr2 hc2 rf f2)
      go_roundw
      case rel => exact ⟨kk + 1, by omega, by go_num, HP.out⟩
      case measure => simp [intOf]; omega
    · have HM := hide hM
      clear hM f1
      go_wp2
      go_end0
      exact ⟨⟨_, rfl⟩, HSW.out.trans HM.out⟩
theorem smear_k : ∀ n, SmearC n
  | 0 => fun _ _ _ _ _ _ _ _ _ _ h => h.elim
  | n + 1 => smear_step (smear_k n)
end Go.Proofs.YtgglommnipbagaaGreatDoor

/- arith's copied: a copy whose rows may be written, all the way down. -/
namespace Go.Proofs.YtgglommnipbagaaGreatDoor
open Go.RowKit

/-- A value that is item j of the row in block g. -/
def ItemCells (w : World) (g j : Nat) (v : Vl) (s : Value) : Prop := w.cell? ⟨g, j * 5, none⟩ = some (.int .i64 v.kind) ∧ w.cell? ⟨g, j * 5 + 1, none⟩ = some (.int .i64 v.int) ∧ w.cell? ⟨g, j * 5 + 2, none⟩ = some (.int .i64 v.im) ∧
  w.cell? ⟨g, j * 5 + 3, none⟩ = some (.string v.text) ∧ w.cell? ⟨g, j * 5 + 4, none⟩ = some s ∧ ∀ i, i < 5 → w.frozen? ⟨g, j * 5 + i, none⟩ = false
theorem ItemCells.kept {w w' : World} {g j : Nat} {v : Vl} {s : Value} (h : ItemCells w g j v s) (hk : w'.heap[g]? = w.heap[g]?) : ItemCells w' g j v s :=
  have hc : ∀ o, w'.cell? ⟨g, o, none⟩ = w.cell? ⟨g, o, none⟩ := fun _ => World.cell?_of_block hk
  ⟨(hc _).trans h.1, (hc _).trans h.2.1, (hc _).trans h.2.2.1, (hc _).trans h.2.2.2.1, (hc _).trans h.2.2.2.2.1, fun i hi => (frozen_of_block hk).trans (h.2.2.2.2.2 i hi)⟩
theorem ItemCells.put {w : World} {g j : Nat} {v : Vl} {s : Value} (h : ItemCells w g j v s) (k : Nat) (hk : j ≠ k) (v0 v1 v2 v3 v4 : Value) : ItemCells (put5 w g (k * 5) v0 v1 v2 v3 v4) g j v s := by
  have out : ∀ x, x < 5 → (put5 w g (k * 5) v0 v1 v2 v3 v4).cell? ⟨g, j * 5 + x, none⟩ = w.cell? ⟨g, j * 5 + x, none⟩ := fun x hx => put5_other (by omega)
  exact ⟨(out 0 (by omega)).trans h.1, (out 1 (by omega)).trans h.2.1, (out 2 (by omega)).trans h.2.2.1, (out 3 (by omega)).trans h.2.2.2.1, (out 4 (by omega)).trans h.2.2.2.2.1, fun i hi => by rw [put5_frozen]; exact h.2.2.2.2.2 i hi⟩
theorem ItemCells.new {w : World} {g k : Nat} {v : Vl} {s : Value} (h : ItemCells w g k v s) (v' : Vl) (s' : Value) : ItemCells (put5 w g (k * 5) (.int .i64 v'.kind) (.int .i64 v'.int) (.int .i64 v'.im) (.string v'.text) s') g k v' s' := by
  obtain ⟨h0, h1, h2, h3, h4, hf⟩ := h
  obtain ⟨p0, p1, p2, p3, p4⟩ := put5_at (v0 := .int .i64 v'.kind) (v1 := .int .i64 v'.int) (v2 := .int .i64 v'.im) (v3 := .string v'.text) (v4 := s') h0 h1 h2 h3 h4
  exact ⟨p0, p1, p2, p3, p4, fun i hi => by rw [put5_frozen]; exact hf i hi⟩
/-- A slice of values in rows of the blocks S that may be written, all the way down, with what they hold. -/
def ItemsS (w : World) (S : Nat → Prop) : Nat → Value → List Vl → Prop
  | 0, _, _ => False
  | n + 1, sl, its => ∃ a c, sl = .slice a its.length c ∧ its.length ≤ 1000000000 ∧ ∀ j (h : j < its.length), ∃ b s', a = some ⟨b, 0, none⟩ ∧ S b ∧ ItemCells w b j its[j] s' ∧ ItemsS w S n s' its[j].items ∧ its[j].ok
theorem ItemsS.kept {w w' : World} {S S' : Nat → Prop} (hk : ∀ b, S b → b < w.heap.size → w'.heap[b]? = w.heap[b]?) (hS : ∀ b, S b → S' b) : ∀ {n : Nat} {sl : Value} {its : List Vl}, ItemsS w S n sl its → ItemsS w' S' n sl its
  | 0, _, _, h => h.elim
  | n + 1, _, its, h => by
    obtain ⟨a, c, e, hl, hc⟩ := h
    refine ⟨a, c, e, hl, fun j hj => ?_⟩
    obtain ⟨b, s', e, hb, h0, h5, h6⟩ := hc j hj
    exact ⟨b, s', e, hS _ hb, h0.kept (hk b hb (World.block_lt_of_cell? w _ h0.1)), ItemsS.kept hk hS h5, h6⟩
theorem ItemsS.more {w : World} {S : Nat → Prop} : ∀ {n : Nat} {sl : Value} {its : List Vl}, ItemsS w S n sl its → ItemsS w S (n + 1) sl its
  | 0, _, _, h => h.elim
  | n + 1, _, its, h => by
    obtain ⟨a, c, e, hl, hc⟩ := h
    refine ⟨a, c, e, hl, fun j hj => ?_⟩
    obtain ⟨b, s', e, hb, h0, h5, h6⟩ := hc j hj
    exact ⟨b, s', e, hb, h0, ItemsS.more h5, h6⟩
theorem ItemsS.in {w : World} {S : Nat → Prop} : ∀ {n : Nat} {sl : Value} {its : List Vl}, ItemsS w S n sl its → ItemsIn w S n sl its
  | 0, _, _, h => h.elim
  | n + 1, _, its, h => by
    obtain ⟨a, c, e, hl, hc⟩ := h
    refine ⟨a, c, e, by unfold maxLen; omega, fun j hj => ?_⟩
    obtain ⟨b, s', e, hb, ⟨h0, h1, h2, h3, h4, _⟩, h5, h6⟩ := hc j hj
    exact ⟨b, 0, s', e, hb, by rw [Nat.zero_add]; exact h0, by rw [Nat.zero_add]; exact h1, by rw [Nat.zero_add]; exact h2, by rw [Nat.zero_add]; exact h3, by rw [Nat.zero_add]; exact h4, ItemsS.in h5, h6⟩
theorem ItemsS.sm {w : World} {S : Nat → Prop} : ∀ {n : Nat} {sl : Value} {its : List Vl}, ItemsS w S n sl its → SmAt w S n sl
  | 0, _, _, h => h.elim
  | n + 1, _, its, h => by
    obtain ⟨a, c, e, hl, hc⟩ := h
    refine ⟨a, its.length, c, e, hl, fun j hj => ?_⟩
    obtain ⟨b, s', e, hb, ⟨h0, h1, h2, h3, h4, h7⟩, h5, h6⟩ := hc j hj
    exact ⟨b, _, _, _, _, s', e, hb, h0, h1, h2, h3, h4, h7, ItemsS.sm h5⟩
theorem cloneS_any (w : World) (B n : Nat) (sl : Value) (its : List Vl) (hi : ItemsAt w B (n + 1) sl its) (hl : its.length ≤ 1000000000) (hB : B ≤ w.heap.size) :
    Calls Tryz.prog 199 #[sl] w fun e w' => ∃ ca cc g, e = .returned (.slice ca its.length cc) ∧ w.heap.size ≤ g ∧ (∀ j (h : j < its.length), ca = some ⟨g, 0, none⟩ ∧ g < w'.heap.size ∧ ∃ s, ItemCells w' g j its[j] s ∧ ItemsAt w B n s its[j].items ∧ its[j].ok) ∧ Below w.heap.size w w' := by
  obtain ⟨a, c, rfl, _⟩ := hi.len
  by_cases h0 : its = []
  · subst h0
    refine (cloneNil a c w).mono ?_
    rintro e w' ⟨a', c', rfl, hb⟩
    exact ⟨a', c', w.heap.size, rfl, Nat.le_refl _, fun j h => by simp at h, hb⟩
  · obtain ⟨l, h1, h2⟩ := hi.evs
    have hlen : its.length = l.length := by rw [← h1, List.length_map]
    have hpos : 0 < l.length := by rw [← hlen]; exact List.length_pos_iff.2 h0
    obtain ⟨b, off, rfl, _, _⟩ := h2 0 hpos
    have := cloneV_k w B n ⟨b, off, none⟩ c l hpos (by omega) hB fun j hj => by
      obtain ⟨b', off', e, hb, hc⟩ := h2 j hj
      cases e
      exact ⟨rfl, hb, hc⟩
    rw [← hlen] at this
    refine this.mono ?_
    rintro e w' ⟨g, cap, rfl, hg1, hg2, _, hr, hb⟩
    refine ⟨_, cap, g, rfl, hg1, fun j hj => ⟨rfl, hg2, ?_⟩, hb⟩
    have hjl : j < l.length := by omega
    have ev : its[j] = l[j].v := by simp only [← h1, List.getElem_map]
    have hr' : ∀ c, c < 5 → w'.cell? ⟨g, j * 5 + c, none⟩ = some (l[j].cells)[c]! ∧ w'.frozen? ⟨g, j * 5 + c, none⟩ = false := fun c hc => by
      have := hr j (by simpa using hjl) c hc
      rw [Nat.zero_add] at this
      simpa using this
    rw [ev]
    exact ⟨l[j].sl, ⟨(hr' 0 (by omega)).1, (hr' 1 (by omega)).1, (hr' 2 (by omega)).1, (hr' 3 (by omega)).1, (hr' 4 (by omega)).1, fun i hi => (hr' i hi).2⟩, l[j].lies, l[j].ok⟩
def ACopyC (n : Nat) : Prop := ∀ (v : Vl) (w : World) (B : Nat) (sl : Value), v.size ≤ 1000000000 → B ≤ w.heap.size → ItemsAt w B n sl v.items →
  Calls Tryz.prog 126 #[.agg (vcells v sl)] w fun e w' => ∃ s', e = .returned (.agg (vcells v s')) ∧ ItemsS w' (fun b => w.heap.size ≤ b ∧ b < w'.heap.size) n s' v.items ∧ Below w.heap.size w w'
set_option maxRecDepth 100000 in
set_option maxHeartbeats 2000000 in
theorem acopied_step {n : Nat} (hC : ACopyC n) : ACopyC (n + 1) := by
  intro v w B sl hv hB hi
  have hln : v.items.length ≤ 1000000000 := by have := size_len v; omega
  have HSZ := hide (fun (x : Vl) (hx : x ∈ v.items) => (show x.size ≤ 1000000000 from by have := Vl.size_item hx; omega))
  obtain ⟨W, hW⟩ : ∃ W, (w.alloc (.cells (vcells v sl) 25)).alloc (.cells zcells 25) = W := ⟨_, rfl⟩
  have bW : Below w.heap.size w W := by rw [← hW]; exact alloc_v (alloc_v (Below.refl _ _) _) _
  have e1 : W.heap[w.heap.size]? = some (.cells (vcells v sl) 25 (0, 0)) := by rw [← hW]; exact (Below.heap_alloc _ _ _ (by simp)).trans (World.alloc_heap_new w _)
  have e2 : W.heap[w.heap.size + 1]? = some (.cells zcells 25 (0, 0)) := by rw [← hW]; have := World.alloc_heap_new (w.alloc (.cells (vcells v sl) 25)) (.cells zcells 25); rwa [World.size_alloc] at this
  have zW : W.heap.size = w.heap.size + 2 := by rw [← hW]; simp
  have x4 := cells_at e1 4 _ rfl
  have HE1 := hide e1
  have HE2 := hide e2
  have HCL := hide (cloneS_any W B n sl v.items (hi.below (bW.mono hB)) hln (by omega))
  have HC0 := hide hC
  obtain ⟨a, c, rfl, _⟩ := hi.len
  clear hi hC e1 e2
  go_enter Tryz.func126, Tryz.ntmps126
  go_wp2_with (go_at_call 199; refine HCL.out.mono ?_; clear HCL; rintro e w2 ⟨ca, cc, g, rfl, hg, hrow, b2⟩; have f1 := (b2.block w.heap.size (by omega)).trans HE1.out; have f2 := (b2.block (w.heap.size + 1) (by omega)).trans HE2.out; have y4 := cells_at f1 4 _ rfl; have q4 := frozen_at f1 4; have F1 := hide f1; have F2 := hide f2; have B2 := hide b2; have HROW := hide hrow; clear f1 f2 b2 hrow x4)
  obtain ⟨W3, hW3⟩ : ∃ W3, w2.setCell ⟨w.heap.size, 4, none⟩ (.slice ca v.items.length cc) = W3 := ⟨_, rfl⟩
  have g1 : W3.heap[w.heap.size]? = some (.cells (vcells v (.slice ca v.items.length cc)) 25 (0, 0)) := by rw [← hW3]; exact heap_setCell_same _ _ 4 _ _ _ F1.out
  have g2 : W3.heap[w.heap.size + 1]? = some (.cells zcells 25 (0, 0)) := by rw [← hW3]; exact (Below.heap_setCell _ _ _ _ (by show w.heap.size + 1 ≠ w.heap.size; omega)).trans F2.out
  have b3 : Below w.heap.size w W3 := by rw [← hW3]; exact (trans_v bW B2.out).setCell (Nat.le_refl _) _
  have hz3 : W3.heap.size = w2.heap.size := by rw [← hW3]; simp [World.setCell]
  have hz2 := B2.out.size
  have row3 : ∀ j (h : j < v.items.length), ca = some ⟨g, 0, none⟩ ∧ g < W3.heap.size ∧ ∃ s, ItemCells W3 g j v.items[j] s ∧ ItemsAt W3 B n s v.items[j].items ∧ v.items[j].ok := fun j hj => by
    obtain ⟨h1, h2, s, h3, h4, h5⟩ := HROW.out j hj
    have hgb : W3.heap[g]? = w2.heap[g]? := by rw [← hW3]; exact Below.heap_setCell _ _ _ _ (by show g ≠ w.heap.size; omega)
    refine ⟨h1, by omega, s, h3.kept hgb, h4.kept (fun b o hb => World.cell?_of_block ?_), h5⟩
    rw [← hW3]
    exact (Below.heap_setCell _ _ _ _ (by show b ≠ w.heap.size; omega)).trans (B2.out.block b (by omega))
  rw [hW3]
  have G1 := hide g1
  have G2 := hide g2
  have B3 := hide b3
  have R3 := hide row3
  have x0 := cells_at g1 4 _ rfl
  clear g1 g2 b3 row3 hW3 F1 F2 HROW B2 HE1 HE2 y4 q4 hW
  go_wp2
  clear x0
  go_loopw [3, 4, 12] (fun _ _ i wr => ∃ k : Nat, k ≤ v.items.length ∧ i = .int .i64 k ∧ (∀ j (h : j < v.items.length), ∃ s, ItemCells wr g j v.items[j] s ∧ (j < k → ItemsS wr (fun b => g < b ∧ b < wr.heap.size) n s v.items[j].items) ∧ (k ≤ j → ItemsAt wr B n s v.items[j].items)) ∧ wr.heap[w.heap.size]? = some (.cells (vcells v (.slice ca v.items.length cc)) 25 (0, 0)) ∧ wr.heap[w.heap.size + 1]? = some (.cells zcells 25 (0, 0)) ∧ Below w.heap.size w wr ∧ W3.heap.size ≤ wr.heap.size) (fun _ _ i _ => v.items.length - (intOf i).toNat)
  case atStart => exact ⟨0, Nat.zero_le _, rfl, fun j hj => by
    obtain ⟨_, _, s, h1, h2, _⟩ := R3.out j hj
    exact ⟨s, h1, fun h => by omega, fun _ => h2⟩, G1.out, G2.out, B3.out, Nat.le_refl _⟩
  case round =>
    obtain ⟨k, hk, rfl, hrow, h1, h2, hbel, hsz⟩ := hrel
    by_cases hlt : k < v.items.length
    · obtain ⟨rfl, hgl, _, _, _, hok⟩ := R3.out k hlt
      obtain ⟨s, hcel, _, hat⟩ := hrow k hlt
      have hit := hat (Nat.le_refl _)
      obtain ⟨p0, p1, p2, p3, p4, _⟩ := id hcel
      have hgr : g < wr.heap.size := by omega
      have bA : Below wr.heap.size wr (wr.alloc (.cells (vcells v.items[k] s) 25)) := alloc_v (Below.refl _ _) _
      have hitA := hit.below (bA.mono (show B ≤ wr.heap.size by have := hbel.size; omega))
      have HX := hide (HC0.out v.items[k] (wr.alloc (.cells (vcells v.items[k] s) 25)).drew B s (HSZ.out _ (List.getElem_mem hlt)) (by have := hbel.size; have := bA.size; show B ≤ (wr.alloc _).heap.size; omega) (ItemsAt.kept (w := wr.alloc (.cells (vcells v.items[k] s) 25)) (w' := (wr.alloc (.cells (vcells v.items[k] s) 25)).drew) (fun _ _ _ => rfl) hitA))
      have HN := hide (fun (U : World) (s4 : Value) (b : Below (wr.alloc (.cells (vcells v.items[k] s) 25)).heap.size (wr.alloc (.cells (vcells v.items[k] s) 25)) U) (i4 : ItemsS U (fun b => (wr.alloc (.cells (vcells v.items[k] s) 25)).heap.size ≤ b ∧ b < U.heap.size) n s4 v.items[k].items) => (show ItemCells U g k v.items[k] s ∧ (∀ j (h : j < v.items.length), ∃ s, ItemCells (put5 U g (k * 5) (.int .i64 v.items[k].kind) (.int .i64 v.items[k].int) (.int .i64 v.items[k].im) (.string v.items[k].text) s4) g j v.items[j] s ∧ (j < k + 1 → ItemsS (put5 U g (k * 5) (.int .i64 v.items[k].kind) (.int .i64 v.items[k].int) (.int .i64 v.items[k].im) (.string v.items[k].text) s4) (fun b => g < b ∧ b < (put5 U g (k * 5) (.int .i64 v.items[k].kind) (.int .i64 v.items[k].int) (.int .i64 v.items[k].im) (.string v.items[k].text) s4).heap.size) n s v.items[j].items) ∧ (k + 1 ≤ j → ItemsAt (put5 U g (k * 5) (.int .i64 v.items[k].kind) (.int .i64 v.items[k].int) (.int .i64 v.items[k].im) (.string v.items[k].text) s4) B n s v.items[j].items)) ∧ U.heap[w.heap.size]? = some (.cells (vcells v (.slice (some ⟨g, 0, none⟩) v.items.length cc)) 25 (0, 0)) ∧ U.heap[w.heap.size + 1]? = some (.cells zcells 25 (0, 0)) ∧ Below w.heap.size w U ∧ wr.heap.size ≤ U.heap.size from by
        have bU := trans_v bA b
        have hwr := hbel.size
        have hsu := bU.size
        refine ⟨hcel.kept (bU.block g hgr), fun j hj => ?_, (bU.block _ (by omega)).trans h1, (bU.block _ (by omega)).trans h2, trans_v hbel bU, hsu⟩
        by_cases ej : j = k
        · subst ej
          exact ⟨s4, (hcel.kept (bU.block g hgr)).new _ _, fun _ => i4.kept (fun b hb _ => put5_heap (by have := hb.1; rw [World.size_alloc] at this; omega)) (fun b hb => ⟨by have := hb.1; rw [World.size_alloc] at this; omega, by rw [put5_size]; exact hb.2⟩), fun h => by omega⟩
        · obtain ⟨s, c1, c2, c3⟩ := hrow j hj
          refine ⟨s, (c1.kept (bU.block g hgr)).put k ej _ _ _ _ _, fun h => ?_, fun h => ?_⟩
          · exact (c2 (by omega)).kept (fun b hb hb2 => (put5_heap (by have := hb.1; omega)).trans (bU.block b hb2)) (fun b hb => ⟨hb.1, by rw [put5_size]; omega⟩)
          · exact (c3 (by omega)).kept (fun b o hb => World.cell?_of_block ((put5_heap (show b ≠ g by omega)).trans (bU.block b (by omega))))))
      have y4 := cells_at h1 4 _ rfl
      have hlw : w.heap.size < wr.heap.size := (Array.getElem?_eq_some_iff.1 h1).1
      obtain ⟨xx1, yy1, rfl, _⟩ := hit.len
      have hk0 : (0 : Int) ≤ (k : Int) := by omega
      have hk1 : (k : Int) < (v.items.length : Int) := by omega
      clear hrow h1 h2 hcel hat hit hok bA hitA
      have HSB := hide hbel.size
      clear hbel
      generalize v.items[k].items = xi at *
      generalize v.items[k] = x at *
      go_wp2
      go_region_law
        ((go_simp; go_at_call 126; refine HX.out.mono ?_; clear HX; rintro e w4 ⟨s4, rfl, i4, b4'⟩; have b4 : Below (wr.alloc (.cells (vcells x (.slice xx1 xi.length yy1)) 25)).heap.size (wr.alloc (.cells (vcells x (.slice xx1 xi.length yy1)) 25)) w4 := ⟨b4'.os, b4'.tape, b4'.output, b4'.size, b4'.block⟩; have hn := HN.out w4 s4 b4 i4; clear HN; obtain ⟨⟨r0, r1, r2, r3, r4, rf⟩, hn2⟩ := hn; have q0 := rf 0 (by omega); have q1 := rf 1 (by omega); have q2 := rf 2 (by omega); have q3 := rf 3 (by omega); have q4 := rf 4 (by omega); rw [Nat.add_zero] at q0; have k4 := cells_at hn2.2.1 4 _ rfl; have HN2 := hide hn2; obtain ⟨sa4, sc4, rfl, _⟩ := i4.in.len; clear hn2 rf i4 b4 b4'))
      all_goals
        go_wp2
        go_roundw
        case rel =>
          obtain ⟨n1, n2, n3, n4, n5⟩ := HN2.out
          exact ⟨k + 1, by omega, by go_num, n1, (put5_heap (show w.heap.size ≠ g by omega)).trans n2, (put5_heap (show w.heap.size + 1 ≠ g by omega)).trans n3, put5_below n4 (by omega), by rw [put5_size]; omega⟩
        case measure => simp [intOf]; omega
    · have hall : ItemsS wr (fun b => w.heap.size + 2 ≤ b ∧ b < wr.heap.size) (n + 1) (.slice ca v.items.length cc) v.items := ⟨ca, cc, rfl, hln, fun j hj => by
        obtain ⟨s, c1, c2, _⟩ := hrow j hj
        obtain ⟨r1, r2, _, _, _, r3⟩ := R3.out j hj
        exact ⟨g, s, r1, ⟨by omega, by omega⟩, c1, (c2 (by omega)).kept (fun _ _ _ => rfl) (fun b hb => ⟨by omega, hb.2⟩), r3⟩⟩
      have HALL := hide hall
      have x0 := cells_at h1 0 _ rfl
      have x1 := cells_at h1 1 _ rfl
      have x2 := cells_at h1 2 _ rfl
      have x3 := cells_at h1 3 _ rfl
      have x4 := cells_at h1 4 _ rfl
      have y0 := cells_at h2 0 _ rfl
      have y1 := cells_at h2 1 _ rfl
      have y2 := cells_at h2 2 _ rfl
      have y3 := cells_at h2 3 _ rfl
      have y4 := cells_at h2 4 _ rfl
      have q0 := frozen_at h2 0
      have q1 := frozen_at h2 1
      have q2 := frozen_at h2 2
      have q3 := frozen_at h2 3
      have q4 := frozen_at h2 4
      have H2 := hide h2
      have HB2 := hide hbel
      clear hrow h1 h2 hbel hall
      go_wp2
      have g := stored w wr v.kind v.int v.im v.text (.slice ca v.items.length cc) zcells (w.heap.size + 1) (by omega) HB2.out rfl H2.out
      refine bodyPost_ret (results_cell_row rfl _ _ (w.heap.size + 1) _ _ _ _ rfl g.1 Tryz.underlying25 rfl infoVal5) rfl ?_
      exact ⟨.slice ca v.items.length cc, rfl, HALL.out.kept (fun b hb _ => put5_heap (o := 0) (show b ≠ w.heap.size + 1 by omega)) (fun b hb => ⟨by omega, by simpa using hb.2⟩), g.2⟩
theorem acopied_k : ∀ n, ACopyC n
  | 0 => fun _ _ _ _ _ _ h => h.elim
  | n + 1 => acopied_step (acopied_k n)
end Go.Proofs.YtgglommnipbagaaGreatDoor

/- Fields: an item of a tuple, in memory of its own; the reference's. -/
namespace Go.Proofs.YtgglommnipbagaaGreatDoor
open Go.RowKit

theorem isPlace_yes (a : Option Addr) (l c : Nat) (i : Int) (h0 : 0 ≤ i) (h1 : i < l) (w : World) : Calls Tryz.prog 125 #[.slice a l c, .int .i64 i] w fun e w' => e = .returned (.bool true) ∧ w = w' := by
  go_enter Tryz.func125, Tryz.ntmps125
  go_wp2
  go_ret
  exact ⟨rfl, rfl⟩
theorem isPlace_no (a : Option Addr) (l c : Nat) (i : Int) (h : ¬ (0 ≤ i ∧ i < l)) (w : World) : Calls Tryz.prog 125 #[.slice a l c, .int .i64 i] w fun e w' => e = .returned (.bool false) ∧ w = w' := by
  by_cases h0 : 0 ≤ i
  · have h1 : ¬ i < (l : Int) := fun h2 => h ⟨h0, h2⟩
    clear h
    go_enter Tryz.func125, Tryz.ntmps125
    go_wp2
    go_ret
    exact ⟨rfl, rfl⟩
  · clear h
    go_enter Tryz.func125, Tryz.ntmps125
    go_wp2
    go_ret
    exact ⟨rfl, rfl⟩
set_option maxRecDepth 100000 in
theorem itemAt_no (a : Option Addr) (l c : Nat) (i : Int) (h : ¬ (0 ≤ i ∧ i < l)) (w : World) : Calls Tryz.prog 89 #[.slice a l c, .int .i64 i] w fun e w' => e = .returned (.tuple #[.agg zcells, .int .i64 50]) ∧ Below w.heap.size w w' := by
  obtain ⟨W, hW⟩ : ∃ W, w.alloc (.cells zcells 25) = W := ⟨_, rfl⟩
  have bW : Below w.heap.size w W := by rw [← hW]; exact alloc_v (Below.refl _ _) _
  have e1 : W.heap[w.heap.size]? = some (.cells zcells 25 (0, 0)) := by rw [← hW]; exact World.alloc_heap_new w _
  have E1 := hide e1
  have y0 := cells_at e1 0 _ rfl
  have y1 := cells_at e1 1 _ rfl
  have y2 := cells_at e1 2 _ rfl
  have y3 := cells_at e1 3 _ rfl
  have y4 := cells_at e1 4 _ rfl
  have q0 := frozen_at e1 0
  have q1 := frozen_at e1 1
  have q2 := frozen_at e1 2
  have q3 := frozen_at e1 3
  have q4 := frozen_at e1 4
  clear e1
  have HP := hide (isPlace_no a l c i h W)
  clear h
  go_enter Tryz.func89, Tryz.ntmps89
  go_wp2_with (go_at_call 125; refine HP.out.mono ?_; clear HP; rintro e wq ⟨rfl, rfl⟩)
  have g := stored w W 0 0 0 ⟨#[]⟩ (.slice none 0 0) zcells w.heap.size (Nat.le_refl _) bW rfl E1.out
  refine bodyPost_ret (results_struct_tmp rfl _ _ w.heap.size _ _ _ _ rfl g.1 Tryz.underlying25 rfl infoVal5) rfl ?_
  exact ⟨rfl, g.2⟩
set_option maxRecDepth 100000 in
set_option maxHeartbeats 1000000 in
theorem itemAt_yes (its : List Vl) (w : World) (n : Nat) (sl : Value) (k : Nat) (hk : k < its.length) (hi : ItemsAt w w.heap.size (n + 1) sl its) (hz : its[k].size ≤ 1000000000) :
    Calls Tryz.prog 89 #[sl, .int .i64 k] w fun e w' => ∃ s', e = .returned (.tuple #[.agg (vcells its[k] s'), .int .i64 0]) ∧ ItemsS w' (fun b => w.heap.size ≤ b ∧ b < w'.heap.size) n s' its[k].items ∧ Below w.heap.size w w' := by
  obtain ⟨W, hW⟩ : ∃ W, w.alloc (.cells zcells 25) = W := ⟨_, rfl⟩
  have bW : Below w.heap.size w W := by rw [← hW]; exact alloc_v (Below.refl _ _) _
  have e1 : W.heap[w.heap.size]? = some (.cells zcells 25 (0, 0)) := by rw [← hW]; exact World.alloc_heap_new w _
  have zW : W.heap.size = w.heap.size + 1 := by rw [← hW]; simp
  have E1 := hide e1
  obtain ⟨a, c, rfl, _⟩ := hi.len
  obtain ⟨b1, o1, s1, rfl, g1, p0, p1, p2, p3, p4, p5, p6⟩ := (hi.below bW).item k hk
  have HP := hide (isPlace_yes (some ⟨b1, o1, none⟩) its.length c (k : Int) (by omega) (by omega) W)
  have HC := hide (acopied_k n its[k] W w.heap.size s1 hz bW.size p5)
  obtain ⟨xx1, yy1, rfl, _⟩ := p5.len
  have hk0 : (0 : Int) ≤ (k : Int) := by omega
  have hk1 : (k : Int) < (its.length : Int) := by omega
  clear hi e1 p5 p6 hz
  generalize its[k].items = xi at *
  generalize its[k] = x at *
  go_enter Tryz.func89, Tryz.ntmps89
  go_wp2_with (first
    | (go_at_call 125; refine HP.out.mono ?_; clear HP; rintro e wq ⟨rfl, rfl⟩)
    | (go_at_call 126; refine HC.out.mono ?_; clear HC; rintro e w2 ⟨s2, rfl, i2, b2⟩; obtain ⟨sa, sc, rfl, _⟩ := i2.in.len; have f2 := (b2.block _ (by omega)).trans E1.out; have F2 := hide f2; have I2 := hide i2; have B2 := hide b2; have y0 := cells_at f2 0 _ rfl; have y1 := cells_at f2 1 _ rfl; have y2 := cells_at f2 2 _ rfl; have y3 := cells_at f2 3 _ rfl; have y4 := cells_at f2 4 _ rfl; have q0 := frozen_at f2 0; have q1 := frozen_at f2 1; have q2 := frozen_at f2 2; have q3 := frozen_at f2 3; have q4 := frozen_at f2 4; clear f2 i2 b2))
  have g := stored w w2 x.kind x.int x.im x.text (.slice sa xi.length sc) zcells w.heap.size (Nat.le_refl _) (trans_v bW B2.out) rfl F2.out
  refine bodyPost_ret (results_struct_tmp rfl _ _ w.heap.size _ _ _ _ rfl g.1 Tryz.underlying25 rfl infoVal5) rfl ?_
  exact ⟨.slice sa xi.length sc, rfl, I2.out.kept (fun b hb _ => put5_heap (o := 0) (show b ≠ w.heap.size by omega)) (fun b hb => ⟨by omega, by simpa using hb.2⟩), g.2⟩
end Go.Proofs.YtgglommnipbagaaGreatDoor

/- Fields: an item of a tuple, in memory of its own; the reference's. -/
namespace Go.Proofs.YtgglommnipbagaaGreatDoor
open Go.RowKit

set_option maxRecDepth 100000 in
set_option maxHeartbeats 1000000 in
theorem field_bad (v : Vl) (i : Int) (w : World) (n : Nat) (sl : Value) (hT : TabL w) (hok : v.ok) (hs : ItemsAt w w.heap.size (n + 1) sl v.items) (hr : rightV v = false) :
    Calls Tryz.prog 32 #[.agg (vcells v sl), .int .i64 i] w fun e w' => e = .returned (.tuple #[.agg zcells, .int .i64 2]) ∧ Below w.heap.size w w' := by
  obtain ⟨W, hW⟩ : ∃ W, (w.alloc (.cells (vcells v sl) 25)).alloc (.cells zcells 25) = W := ⟨_, rfl⟩
  have bW : Below w.heap.size w W := by rw [← hW]; exact two_below _ _ _
  have e1 : W.heap[w.heap.size]? = some (.cells (vcells v sl) 25 (0, 0)) := by rw [← hW]; exact two_first _ _ _
  have e2 : W.heap[w.heap.size + 1]? = some (.cells zcells 25 (0, 0)) := by rw [← hW]; exact two_second _ _ _
  have zW : w.heap.size + 1 < W.heap.size := (Array.getElem?_eq_some_iff.1 e2).1
  have ZWE := hide (show W.heap.size = w.heap.size + 2 by rw [← hW]; simp)
  have x0 := cells_at e1 0 _ rfl
  have x1 := cells_at e1 1 _ rfl
  have x2 := cells_at e1 2 _ rfl
  have x3 := cells_at e1 3 _ rfl
  have x4 := cells_at e1 4 _ rfl
  have E1 := hide e1
  have E2 := hide e2
  have hs' := ((hs.below bW).up bW.size).more
  have HR := hide (aright_k [v] (W.alloc (.cells (vcells v sl) 25)) (n + 1) (.slice (some ⟨W.heap.size, 0, none⟩) 1 1) (hT.below (alloc_v bW _)) (items_one hs' hok))
  have hall : [v].all rightV = rightV v := by simp
  rw [hall] at HR
  clear hall
  rw [hr] at HR
  have HV := hide (hs.below bW)
  obtain ⟨a, c, rfl, _⟩ := hs.len
  obtain ⟨vk, vi, vm, vt, vl⟩ := v
  clear hs hs' e1 e2 hT hok hr
  simp only at *
  go_enter Tryz.func32, Tryz.ntmps32
  go_wp2_with (go_at_call 66; refine HR.out.mono ?_; clear HR; rintro e w2 ⟨rfl, b2⟩; have b3 := trans_v (alloc_v (Below.refl _ _) _) b2; have f1 := (b3.block _ (Nat.lt_trans (Nat.lt_succ_self _) zW)).trans E1.out; have f2 := (b3.block _ zW).trans E2.out; have F1 := hide f1; have F2 := hide f2; have B3 := hide b3; have z0 := cells_at f1 0 _ rfl; have z1 := cells_at f1 1 _ rfl; have z2 := cells_at f1 2 _ rfl; have z3 := cells_at f1 3 _ rfl; have z4 := cells_at f1 4 _ rfl; have y0 := cells_at f2 0 _ rfl; have y1 := cells_at f2 1 _ rfl; have y2 := cells_at f2 2 _ rfl; have y3 := cells_at f2 3 _ rfl; have y4 := cells_at f2 4 _ rfl; have q0 := frozen_at f2 0; have q1 := frozen_at f2 1; have q2 := frozen_at f2 2; have q3 := frozen_at f2 3; have q4 := frozen_at f2 4; clear f1 f2 b2 b3)
  have zWe := ZWE.out
  have g := stored w w2 0 0 0 ⟨#[]⟩ (.slice none 0 0) zcells (w.heap.size + 1) (by omega) (trans_v bW B3.out) rfl F2.out
  refine bodyPost_ret (results_struct_tmp rfl _ _ (w.heap.size + 1) _ _ _ _ rfl g.1 Tryz.underlying25 rfl infoVal5) rfl ?_
  exact ⟨rfl, g.2⟩
set_option maxRecDepth 100000 in
set_option maxHeartbeats 1000000 in
theorem field_sort (v : Vl) (i : Int) (w : World) (n : Nat) (sl : Value) (hT : TabL w) (hok : v.ok) (hk : v.kind ≠ 5) (hs : ItemsAt w w.heap.size (n + 1) sl v.items) (hr : rightV v = true) :
    Calls Tryz.prog 32 #[.agg (vcells v sl), .int .i64 i] w fun e w' => e = .returned (.tuple #[.agg zcells, .int .i64 51]) ∧ Below w.heap.size w w' := by
  obtain ⟨W, hW⟩ : ∃ W, (w.alloc (.cells (vcells v sl) 25)).alloc (.cells zcells 25) = W := ⟨_, rfl⟩
  have bW : Below w.heap.size w W := by rw [← hW]; exact two_below _ _ _
  have e1 : W.heap[w.heap.size]? = some (.cells (vcells v sl) 25 (0, 0)) := by rw [← hW]; exact two_first _ _ _
  have e2 : W.heap[w.heap.size + 1]? = some (.cells zcells 25 (0, 0)) := by rw [← hW]; exact two_second _ _ _
  have zW : w.heap.size + 1 < W.heap.size := (Array.getElem?_eq_some_iff.1 e2).1
  have ZWE := hide (show W.heap.size = w.heap.size + 2 by rw [← hW]; simp)
  have x0 := cells_at e1 0 _ rfl
  have x1 := cells_at e1 1 _ rfl
  have x2 := cells_at e1 2 _ rfl
  have x3 := cells_at e1 3 _ rfl
  have x4 := cells_at e1 4 _ rfl
  have E1 := hide e1
  have E2 := hide e2
  have hs' := ((hs.below bW).up bW.size).more
  have HR := hide (aright_k [v] (W.alloc (.cells (vcells v sl) 25)) (n + 1) (.slice (some ⟨W.heap.size, 0, none⟩) 1 1) (hT.below (alloc_v bW _)) (items_one hs' hok))
  have hall : [v].all rightV = rightV v := by simp
  rw [hall] at HR
  clear hall
  rw [hr] at HR
  have HV := hide (hs.below bW)
  obtain ⟨a, c, rfl, _⟩ := hs.len
  obtain ⟨vk, vi, vm, vt, vl⟩ := v
  clear hs hs' e1 e2 hT hok hr
  simp only at *
  have hkn : (vk != 5) = true := by simpa using hk
  clear hk
  go_enter Tryz.func32, Tryz.ntmps32
  go_wp2_with (go_at_call 66; refine HR.out.mono ?_; clear HR; rintro e w2 ⟨rfl, b2⟩; have b3 := trans_v (alloc_v (Below.refl _ _) _) b2; have f1 := (b3.block _ (Nat.lt_trans (Nat.lt_succ_self _) zW)).trans E1.out; have f2 := (b3.block _ zW).trans E2.out; have F1 := hide f1; have F2 := hide f2; have B3 := hide b3; have z0 := cells_at f1 0 _ rfl; have z1 := cells_at f1 1 _ rfl; have z2 := cells_at f1 2 _ rfl; have z3 := cells_at f1 3 _ rfl; have z4 := cells_at f1 4 _ rfl; have y0 := cells_at f2 0 _ rfl; have y1 := cells_at f2 1 _ rfl; have y2 := cells_at f2 2 _ rfl; have y3 := cells_at f2 3 _ rfl; have y4 := cells_at f2 4 _ rfl; have q0 := frozen_at f2 0; have q1 := frozen_at f2 1; have q2 := frozen_at f2 2; have q3 := frozen_at f2 3; have q4 := frozen_at f2 4; clear f1 f2 b2 b3)
  have zWe := ZWE.out
  have g := stored w w2 0 0 0 ⟨#[]⟩ (.slice none 0 0) zcells (w.heap.size + 1) (by omega) (trans_v bW B3.out) rfl F2.out
  refine bodyPost_ret (results_struct_tmp rfl _ _ (w.heap.size + 1) _ _ _ _ rfl g.1 Tryz.underlying25 rfl infoVal5) rfl ?_
  exact ⟨rfl, g.2⟩
set_option maxRecDepth 100000 in
set_option maxHeartbeats 1000000 in
theorem field_no (v : Vl) (i : Int) (w : World) (n : Nat) (sl : Value) (hT : TabL w) (hok : v.ok) (hk : v.kind = 5) (hp : ¬ (0 ≤ i ∧ i < (v.items.length : Int))) (hs : ItemsAt w w.heap.size (n + 1) sl v.items) (hr : rightV v = true) :
    Calls Tryz.prog 32 #[.agg (vcells v sl), .int .i64 i] w fun e w' => e = .returned (.tuple #[.agg zcells, .int .i64 50]) ∧ Below w.heap.size w w' := by
  obtain ⟨W, hW⟩ : ∃ W, (w.alloc (.cells (vcells v sl) 25)).alloc (.cells zcells 25) = W := ⟨_, rfl⟩
  have bW : Below w.heap.size w W := by rw [← hW]; exact two_below _ _ _
  have e1 : W.heap[w.heap.size]? = some (.cells (vcells v sl) 25 (0, 0)) := by rw [← hW]; exact two_first _ _ _
  have e2 : W.heap[w.heap.size + 1]? = some (.cells zcells 25 (0, 0)) := by rw [← hW]; exact two_second _ _ _
  have zW : w.heap.size + 1 < W.heap.size := (Array.getElem?_eq_some_iff.1 e2).1
  have ZWE := hide (show W.heap.size = w.heap.size + 2 by rw [← hW]; simp)
  have x0 := cells_at e1 0 _ rfl
  have x1 := cells_at e1 1 _ rfl
  have x2 := cells_at e1 2 _ rfl
  have x3 := cells_at e1 3 _ rfl
  have x4 := cells_at e1 4 _ rfl
  have E1 := hide e1
  have E2 := hide e2
  have hs' := ((hs.below bW).up bW.size).more
  have HR := hide (aright_k [v] (W.alloc (.cells (vcells v sl) 25)) (n + 1) (.slice (some ⟨W.heap.size, 0, none⟩) 1 1) (hT.below (alloc_v bW _)) (items_one hs' hok))
  have hall : [v].all rightV = rightV v := by simp
  rw [hall] at HR
  clear hall
  rw [hr] at HR
  have HV := hide (hs.below bW)
  obtain ⟨a, c, rfl, _⟩ := hs.len
  obtain ⟨vk, vi, vm, vt, vl⟩ := v
  clear hs hs' e1 e2 hT hok hr
  simp only at *
  have hkn : (vk != 5) = false := by simpa using hk
  subst hk
  go_enter Tryz.func32, Tryz.ntmps32
  go_wp2_with (first
    | (go_at_call 66; refine HR.out.mono ?_; clear HR; rintro e w2 ⟨rfl, b2⟩; have b3 := trans_v (alloc_v (Below.refl _ _) _) b2; have f1 := (b3.block _ (Nat.lt_trans (Nat.lt_succ_self _) zW)).trans E1.out; have f2 := (b3.block _ zW).trans E2.out; have F1 := hide f1; have F2 := hide f2; have B3 := hide b3; have z0 := cells_at f1 0 _ rfl; have z1 := cells_at f1 1 _ rfl; have z2 := cells_at f1 2 _ rfl; have z3 := cells_at f1 3 _ rfl; have z4 := cells_at f1 4 _ rfl; have y0 := cells_at f2 0 _ rfl; have y1 := cells_at f2 1 _ rfl; have y2 := cells_at f2 2 _ rfl; have y3 := cells_at f2 3 _ rfl; have y4 := cells_at f2 4 _ rfl; have q0 := frozen_at f2 0; have q1 := frozen_at f2 1; have q2 := frozen_at f2 2; have q3 := frozen_at f2 3; have q4 := frozen_at f2 4; clear f1 f2 b2 b3)
    | (go_at_call 89; refine (itemAt_no a vl.length c i hp _).mono ?_; rintro e w4 ⟨rfl, b4⟩; have f4 := (b4.block _ (by have := B3.out.size; omega)).trans F2.out; have F4 := hide f4; have B4 := hide b4; have r0 := cells_at f4 0 _ rfl; have r1 := cells_at f4 1 _ rfl; have r2 := cells_at f4 2 _ rfl; have r3 := cells_at f4 3 _ rfl; have r4 := cells_at f4 4 _ rfl; have t0 := frozen_at f4 0; have t1 := frozen_at f4 1; have t2 := frozen_at f4 2; have t3 := frozen_at f4 3; have t4 := frozen_at f4 4; clear f4 b4))
  have zWe := ZWE.out
  have g := stored w w4 0 0 0 ⟨#[]⟩ (.slice none 0 0) zcells (w.heap.size + 1) (by omega) (trans_v bW (trans_v B3.out B4.out)) rfl F4.out
  refine bodyPost_ret (results_struct_tmp rfl _ _ (w.heap.size + 1) _ _ _ _ rfl g.1 Tryz.underlying25 rfl infoVal5) rfl ?_
  exact ⟨rfl, g.2⟩
set_option maxRecDepth 100000 in
set_option maxHeartbeats 1000000 in
theorem field_yes (v : Vl) (i : Int) (w : World) (n : Nat) (sl : Value) (hT : TabL w) (hok : v.ok) (hz : v.size ≤ 1000000000) (hk : v.kind = 5) (k : Nat) (hkl : k < v.items.length) (hik : i = k) (hs : ItemsAt w w.heap.size (n + 1) sl v.items) (hr : rightV v = true) :
    Calls Tryz.prog 32 #[.agg (vcells v sl), .int .i64 i] w fun e w' => ∃ s', e = .returned (.tuple #[.agg (vcells v.items[k] s'), .int .i64 0]) ∧ ItemsS w' (fun b => w.heap.size ≤ b ∧ b < w'.heap.size) n s' v.items[k].items ∧ Below w.heap.size w w' := by
  obtain ⟨W, hW⟩ : ∃ W, (w.alloc (.cells (vcells v sl) 25)).alloc (.cells zcells 25) = W := ⟨_, rfl⟩
  have bW : Below w.heap.size w W := by rw [← hW]; exact two_below _ _ _
  have e1 : W.heap[w.heap.size]? = some (.cells (vcells v sl) 25 (0, 0)) := by rw [← hW]; exact two_first _ _ _
  have e2 : W.heap[w.heap.size + 1]? = some (.cells zcells 25 (0, 0)) := by rw [← hW]; exact two_second _ _ _
  have zW : w.heap.size + 1 < W.heap.size := (Array.getElem?_eq_some_iff.1 e2).1
  have ZWE := hide (show W.heap.size = w.heap.size + 2 by rw [← hW]; simp)
  have x0 := cells_at e1 0 _ rfl
  have x1 := cells_at e1 1 _ rfl
  have x2 := cells_at e1 2 _ rfl
  have x3 := cells_at e1 3 _ rfl
  have x4 := cells_at e1 4 _ rfl
  have E1 := hide e1
  have E2 := hide e2
  have hs' := ((hs.below bW).up bW.size).more
  have HR := hide (aright_k [v] (W.alloc (.cells (vcells v sl) 25)) (n + 1) (.slice (some ⟨W.heap.size, 0, none⟩) 1 1) (hT.below (alloc_v bW _)) (items_one hs' hok))
  have hall : [v].all rightV = rightV v := by simp
  rw [hall] at HR
  clear hall
  rw [hr] at HR
  have HV := hide (hs.below bW)
  obtain ⟨a, c, rfl, _⟩ := hs.len
  obtain ⟨vk, vi, vm, vt, vl⟩ := v
  clear hs hs' e1 e2 hT hok hr
  simp only at *
  have hkn : (vk != 5) = false := by simpa using hk
  have HSZ := hide (show ∀ x ∈ vl, x.size ≤ 1000000000 from fun x hx => by have := Vl.size_item (v := ⟨vk, vi, vm, vt, vl⟩) hx; omega)
  subst hk hik
  have hkl' : k < vl.length := hkl
  clear hz
  go_enter Tryz.func32, Tryz.ntmps32
  go_wp2_with (first
    | (go_at_call 66; refine HR.out.mono ?_; clear HR; rintro e w2 ⟨rfl, b2⟩; have b3 := trans_v (alloc_v (Below.refl _ _) _) b2; have f1 := (b3.block _ (Nat.lt_trans (Nat.lt_succ_self _) zW)).trans E1.out; have f2 := (b3.block _ zW).trans E2.out; have F1 := hide f1; have F2 := hide f2; have B3 := hide b3; have z0 := cells_at f1 0 _ rfl; have z1 := cells_at f1 1 _ rfl; have z2 := cells_at f1 2 _ rfl; have z3 := cells_at f1 3 _ rfl; have z4 := cells_at f1 4 _ rfl; have y0 := cells_at f2 0 _ rfl; have y1 := cells_at f2 1 _ rfl; have y2 := cells_at f2 2 _ rfl; have y3 := cells_at f2 3 _ rfl; have y4 := cells_at f2 4 _ rfl; have q0 := frozen_at f2 0; have q1 := frozen_at f2 1; have q2 := frozen_at f2 2; have q3 := frozen_at f2 3; have q4 := frozen_at f2 4; clear f1 f2 b2 b3)
    | (go_at_call 89; refine (itemAt_yes vl _ n (.slice a vl.length c) k hkl ((HV.out.below (B3.out.mono bW.size)).up (by have := B3.out.size; omega)) (HSZ.out _ (List.getElem_mem hkl))).mono ?_; rintro e w4 ⟨s4, rfl, i4, b4⟩; obtain ⟨sa, sc, rfl, _⟩ := i4.in.len; have f4 := (b4.block _ (by have := B3.out.size; omega)).trans F2.out; have F4 := hide f4; have I4 := hide i4; have B4 := hide b4; have r0 := cells_at f4 0 _ rfl; have r1 := cells_at f4 1 _ rfl; have r2 := cells_at f4 2 _ rfl; have r3 := cells_at f4 3 _ rfl; have r4 := cells_at f4 4 _ rfl; have t0 := frozen_at f4 0; have t1 := frozen_at f4 1; have t2 := frozen_at f4 2; have t3 := frozen_at f4 3; have t4 := frozen_at f4 4; clear f4 i4 b4))
  have zWe := ZWE.out
  have g := stored w w4 vl[k].kind vl[k].int vl[k].im vl[k].text (.slice sa vl[k].items.length sc) zcells (w.heap.size + 1) (by omega) (trans_v bW (trans_v B3.out B4.out)) rfl F4.out
  refine bodyPost_ret (results_struct_tmp rfl _ _ (w.heap.size + 1) _ _ _ _ rfl g.1 Tryz.underlying25 rfl infoVal5) rfl ?_
  exact ⟨_, rfl, I4.out.kept (fun b hb _ => put5_heap (o := 0) (show b ≠ w.heap.size + 1 by have := B3.out.size; omega)) (fun b hb => ⟨by have := B3.out.size; omega, by simpa using hb.2⟩), g.2⟩
set_option maxRecDepth 100000 in
set_option maxHeartbeats 1000000 in
theorem refField_bad (v : Vl) (i : Int) (w : World) (n : Nat) (sl : Value) (hok : v.ok) (hs : ItemsAt w w.heap.size (n + 1) sl v.items) (hr : rightV v = false) :
    Calls Tryz.prog 33 #[.agg (vcells v sl), .int .i64 i] w fun e w' => e = .returned (.tuple #[.agg zcells, .int .i64 2]) ∧ Below w.heap.size w w' := by
  obtain ⟨W, hW⟩ : ∃ W, (w.alloc (.cells (vcells v sl) 25)).alloc (.cells zcells 25) = W := ⟨_, rfl⟩
  have bW : Below w.heap.size w W := by rw [← hW]; exact two_below _ _ _
  have e1 : W.heap[w.heap.size]? = some (.cells (vcells v sl) 25 (0, 0)) := by rw [← hW]; exact two_first _ _ _
  have e2 : W.heap[w.heap.size + 1]? = some (.cells zcells 25 (0, 0)) := by rw [← hW]; exact two_second _ _ _
  have zW : w.heap.size + 1 < W.heap.size := (Array.getElem?_eq_some_iff.1 e2).1
  have ZWE := hide (show W.heap.size = w.heap.size + 2 by rw [← hW]; simp)
  have x0 := cells_at e1 0 _ rfl
  have x1 := cells_at e1 1 _ rfl
  have x2 := cells_at e1 2 _ rfl
  have x3 := cells_at e1 3 _ rfl
  have x4 := cells_at e1 4 _ rfl
  have E1 := hide e1
  have E2 := hide e2
  have hs' := ((hs.below bW).up bW.size).more
  have HR := hide (refRight_k v W (n + 1 + 1) sl hok.1 hs')
  rw [hr] at HR
  have HV := hide (hs.below bW)
  obtain ⟨a, c, rfl, _⟩ := hs.len
  obtain ⟨vk, vi, vm, vt, vl⟩ := v
  clear hs hs' e1 e2 hok hr
  simp only at *
  go_enter Tryz.func33, Tryz.ntmps33
  go_wp2_with (go_at_call 38; refine HR.out.mono ?_; clear HR; rintro e w2 ⟨rfl, b2⟩; have b3 := b2; have f1 := (b3.block _ (Nat.lt_trans (Nat.lt_succ_self _) zW)).trans E1.out; have f2 := (b3.block _ zW).trans E2.out; have F1 := hide f1; have F2 := hide f2; have B3 := hide b3; have z0 := cells_at f1 0 _ rfl; have z1 := cells_at f1 1 _ rfl; have z2 := cells_at f1 2 _ rfl; have z3 := cells_at f1 3 _ rfl; have z4 := cells_at f1 4 _ rfl; have y0 := cells_at f2 0 _ rfl; have y1 := cells_at f2 1 _ rfl; have y2 := cells_at f2 2 _ rfl; have y3 := cells_at f2 3 _ rfl; have y4 := cells_at f2 4 _ rfl; have q0 := frozen_at f2 0; have q1 := frozen_at f2 1; have q2 := frozen_at f2 2; have q3 := frozen_at f2 3; have q4 := frozen_at f2 4; clear f1 f2 b2 b3)
  have zWe := ZWE.out
  have g := stored w w2 0 0 0 ⟨#[]⟩ (.slice none 0 0) zcells (w.heap.size + 1) (by omega) (trans_v bW B3.out) rfl F2.out
  refine bodyPost_ret (results_struct_tmp rfl _ _ (w.heap.size + 1) _ _ _ _ rfl g.1 Tryz.underlying25 rfl infoVal5) rfl ?_
  exact ⟨rfl, g.2⟩
set_option maxRecDepth 100000 in
set_option maxHeartbeats 1000000 in
theorem refField_sort (v : Vl) (i : Int) (w : World) (n : Nat) (sl : Value) (hok : v.ok) (hk : v.kind ≠ 5) (hs : ItemsAt w w.heap.size (n + 1) sl v.items) (hr : rightV v = true) :
    Calls Tryz.prog 33 #[.agg (vcells v sl), .int .i64 i] w fun e w' => e = .returned (.tuple #[.agg zcells, .int .i64 51]) ∧ Below w.heap.size w w' := by
  obtain ⟨W, hW⟩ : ∃ W, (w.alloc (.cells (vcells v sl) 25)).alloc (.cells zcells 25) = W := ⟨_, rfl⟩
  have bW : Below w.heap.size w W := by rw [← hW]; exact two_below _ _ _
  have e1 : W.heap[w.heap.size]? = some (.cells (vcells v sl) 25 (0, 0)) := by rw [← hW]; exact two_first _ _ _
  have e2 : W.heap[w.heap.size + 1]? = some (.cells zcells 25 (0, 0)) := by rw [← hW]; exact two_second _ _ _
  have zW : w.heap.size + 1 < W.heap.size := (Array.getElem?_eq_some_iff.1 e2).1
  have ZWE := hide (show W.heap.size = w.heap.size + 2 by rw [← hW]; simp)
  have x0 := cells_at e1 0 _ rfl
  have x1 := cells_at e1 1 _ rfl
  have x2 := cells_at e1 2 _ rfl
  have x3 := cells_at e1 3 _ rfl
  have x4 := cells_at e1 4 _ rfl
  have E1 := hide e1
  have E2 := hide e2
  have hs' := ((hs.below bW).up bW.size).more
  have HR := hide (refRight_k v W (n + 1 + 1) sl hok.1 hs')
  rw [hr] at HR
  have HV := hide (hs.below bW)
  obtain ⟨a, c, rfl, _⟩ := hs.len
  obtain ⟨vk, vi, vm, vt, vl⟩ := v
  clear hs hs' e1 e2 hok hr
  simp only at *
  have hkn : (vk != 5) = true := by simpa using hk
  clear hk
  go_enter Tryz.func33, Tryz.ntmps33
  go_wp2_with (go_at_call 38; refine HR.out.mono ?_; clear HR; rintro e w2 ⟨rfl, b2⟩; have b3 := b2; have f1 := (b3.block _ (Nat.lt_trans (Nat.lt_succ_self _) zW)).trans E1.out; have f2 := (b3.block _ zW).trans E2.out; have F1 := hide f1; have F2 := hide f2; have B3 := hide b3; have z0 := cells_at f1 0 _ rfl; have z1 := cells_at f1 1 _ rfl; have z2 := cells_at f1 2 _ rfl; have z3 := cells_at f1 3 _ rfl; have z4 := cells_at f1 4 _ rfl; have y0 := cells_at f2 0 _ rfl; have y1 := cells_at f2 1 _ rfl; have y2 := cells_at f2 2 _ rfl; have y3 := cells_at f2 3 _ rfl; have y4 := cells_at f2 4 _ rfl; have q0 := frozen_at f2 0; have q1 := frozen_at f2 1; have q2 := frozen_at f2 2; have q3 := frozen_at f2 3; have q4 := frozen_at f2 4; clear f1 f2 b2 b3)
  have zWe := ZWE.out
  have g := stored w w2 0 0 0 ⟨#[]⟩ (.slice none 0 0) zcells (w.heap.size + 1) (by omega) (trans_v bW B3.out) rfl F2.out
  refine bodyPost_ret (results_struct_tmp rfl _ _ (w.heap.size + 1) _ _ _ _ rfl g.1 Tryz.underlying25 rfl infoVal5) rfl ?_
  exact ⟨rfl, g.2⟩
set_option maxRecDepth 100000 in
set_option maxHeartbeats 1000000 in
theorem refField_no (v : Vl) (i : Int) (w : World) (n : Nat) (sl : Value) (hok : v.ok) (hk : v.kind = 5) (hp : ¬ (0 ≤ i ∧ i < (v.items.length : Int))) (hs : ItemsAt w w.heap.size (n + 1) sl v.items) (hr : rightV v = true) :
    Calls Tryz.prog 33 #[.agg (vcells v sl), .int .i64 i] w fun e w' => e = .returned (.tuple #[.agg zcells, .int .i64 50]) ∧ Below w.heap.size w w' := by
  obtain ⟨W, hW⟩ : ∃ W, (w.alloc (.cells (vcells v sl) 25)).alloc (.cells zcells 25) = W := ⟨_, rfl⟩
  have bW : Below w.heap.size w W := by rw [← hW]; exact two_below _ _ _
  have e1 : W.heap[w.heap.size]? = some (.cells (vcells v sl) 25 (0, 0)) := by rw [← hW]; exact two_first _ _ _
  have e2 : W.heap[w.heap.size + 1]? = some (.cells zcells 25 (0, 0)) := by rw [← hW]; exact two_second _ _ _
  have zW : w.heap.size + 1 < W.heap.size := (Array.getElem?_eq_some_iff.1 e2).1
  have ZWE := hide (show W.heap.size = w.heap.size + 2 by rw [← hW]; simp)
  have x0 := cells_at e1 0 _ rfl
  have x1 := cells_at e1 1 _ rfl
  have x2 := cells_at e1 2 _ rfl
  have x3 := cells_at e1 3 _ rfl
  have x4 := cells_at e1 4 _ rfl
  have E1 := hide e1
  have E2 := hide e2
  have hs' := ((hs.below bW).up bW.size).more
  have HR := hide (refRight_k v W (n + 1 + 1) sl hok.1 hs')
  rw [hr] at HR
  have HV := hide (hs.below bW)
  obtain ⟨a, c, rfl, _⟩ := hs.len
  obtain ⟨vk, vi, vm, vt, vl⟩ := v
  clear hs hs' e1 e2 hok hr
  simp only at *
  have hkn : (vk != 5) = false := by simpa using hk
  subst hk
  by_cases h0 : i < 0
  · go_enter Tryz.func33, Tryz.ntmps33
    go_wp2_with (go_at_call 38; refine HR.out.mono ?_; clear HR; rintro e w2 ⟨rfl, b2⟩; have b3 := b2; have f1 := (b3.block _ (Nat.lt_trans (Nat.lt_succ_self _) zW)).trans E1.out; have f2 := (b3.block _ zW).trans E2.out; have F1 := hide f1; have F2 := hide f2; have B3 := hide b3; have z0 := cells_at f1 0 _ rfl; have z1 := cells_at f1 1 _ rfl; have z2 := cells_at f1 2 _ rfl; have z3 := cells_at f1 3 _ rfl; have z4 := cells_at f1 4 _ rfl; have y0 := cells_at f2 0 _ rfl; have y1 := cells_at f2 1 _ rfl; have y2 := cells_at f2 2 _ rfl; have y3 := cells_at f2 3 _ rfl; have y4 := cells_at f2 4 _ rfl; have q0 := frozen_at f2 0; have q1 := frozen_at f2 1; have q2 := frozen_at f2 2; have q3 := frozen_at f2 3; have q4 := frozen_at f2 4; clear f1 f2 b2 b3)
    have zWe := ZWE.out
    have g := stored w w2 0 0 0 ⟨#[]⟩ (.slice none 0 0) zcells (w.heap.size + 1) (by omega) (trans_v bW B3.out) rfl F2.out
    refine bodyPost_ret (results_struct_tmp rfl _ _ (w.heap.size + 1) _ _ _ _ rfl g.1 Tryz.underlying25 rfl infoVal5) rfl ?_
    exact ⟨rfl, g.2⟩
  · have h1 : i ≥ (vl.length : Int) := by omega
    go_enter Tryz.func33, Tryz.ntmps33
    go_wp2_with (go_at_call 38; refine HR.out.mono ?_; clear HR; rintro e w2 ⟨rfl, b2⟩; have b3 := b2; have f1 := (b3.block _ (Nat.lt_trans (Nat.lt_succ_self _) zW)).trans E1.out; have f2 := (b3.block _ zW).trans E2.out; have F1 := hide f1; have F2 := hide f2; have B3 := hide b3; have z0 := cells_at f1 0 _ rfl; have z1 := cells_at f1 1 _ rfl; have z2 := cells_at f1 2 _ rfl; have z3 := cells_at f1 3 _ rfl; have z4 := cells_at f1 4 _ rfl; have y0 := cells_at f2 0 _ rfl; have y1 := cells_at f2 1 _ rfl; have y2 := cells_at f2 2 _ rfl; have y3 := cells_at f2 3 _ rfl; have y4 := cells_at f2 4 _ rfl; have q0 := frozen_at f2 0; have q1 := frozen_at f2 1; have q2 := frozen_at f2 2; have q3 := frozen_at f2 3; have q4 := frozen_at f2 4; clear f1 f2 b2 b3)
    have zWe := ZWE.out
    have g := stored w w2 0 0 0 ⟨#[]⟩ (.slice none 0 0) zcells (w.heap.size + 1) (by omega) (trans_v bW B3.out) rfl F2.out
    refine bodyPost_ret (results_struct_tmp rfl _ _ (w.heap.size + 1) _ _ _ _ rfl g.1 Tryz.underlying25 rfl infoVal5) rfl ?_
    exact ⟨rfl, g.2⟩
set_option maxRecDepth 100000 in
set_option maxHeartbeats 1000000 in
theorem refField_yes (v : Vl) (i : Int) (w : World) (n : Nat) (sl : Value) (hok : v.ok) (hz : v.size ≤ 1000000000) (hk : v.kind = 5) (k : Nat) (hkl : k < v.items.length) (hik : i = k) (hs : ItemsAt w w.heap.size (n + 1) sl v.items) (hr : rightV v = true) :
    Calls Tryz.prog 33 #[.agg (vcells v sl), .int .i64 i] w fun e w' => ∃ s', e = .returned (.tuple #[.agg (vcells v.items[k] s'), .int .i64 0]) ∧ ItemsAt w' w'.heap.size n s' v.items[k].items ∧ Below w.heap.size w w' := by
  obtain ⟨W, hW⟩ : ∃ W, (w.alloc (.cells (vcells v sl) 25)).alloc (.cells zcells 25) = W := ⟨_, rfl⟩
  have bW : Below w.heap.size w W := by rw [← hW]; exact two_below _ _ _
  have e1 : W.heap[w.heap.size]? = some (.cells (vcells v sl) 25 (0, 0)) := by rw [← hW]; exact two_first _ _ _
  have e2 : W.heap[w.heap.size + 1]? = some (.cells zcells 25 (0, 0)) := by rw [← hW]; exact two_second _ _ _
  have zW : w.heap.size + 1 < W.heap.size := (Array.getElem?_eq_some_iff.1 e2).1
  have ZWE := hide (show W.heap.size = w.heap.size + 2 by rw [← hW]; simp)
  have x0 := cells_at e1 0 _ rfl
  have x1 := cells_at e1 1 _ rfl
  have x2 := cells_at e1 2 _ rfl
  have x3 := cells_at e1 3 _ rfl
  have x4 := cells_at e1 4 _ rfl
  have E1 := hide e1
  have E2 := hide e2
  have hs' := ((hs.below bW).up bW.size).more
  have HR := hide (refRight_k v W (n + 1 + 1) sl hok.1 hs')
  rw [hr] at HR
  have HV := hide (hs.below bW)
  obtain ⟨a, c, rfl, _⟩ := hs.len
  obtain ⟨vk, vi, vm, vt, vl⟩ := v
  clear hs hs' e1 e2 hok hr
  simp only at *
  have hkn : (vk != 5) = false := by simpa using hk
  have HSZ := hide (show ∀ x ∈ vl, x.size ≤ 1000000000 from fun x hx => by have := Vl.size_item (v := ⟨vk, vi, vm, vt, vl⟩) hx; omega)
  subst hk hik
  have hkl' : k < vl.length := hkl
  clear hz
  obtain ⟨b1, o1, s1, rfl, g1, p0, p1, p2, p3, p4, p5, p6⟩ := HV.out.item k hkl
  have hk0 : (0 : Int) ≤ (k : Int) := by omega
  have hk1 : (k : Int) < (vl.length : Int) := by omega
  have hk2 : ¬ (k : Int) < 0 := by omega
  have hk3 : ¬ (k : Int) ≥ (vl.length : Int) := by omega
  have HI := hide p5
  obtain ⟨xx1, yy1, rfl, _⟩ := p5.len
  have HC := hide (fun (U : World) (b : Below W.heap.size W U) => (show U.cell? ⟨b1, o1 + k * 5, none⟩ = some (.int .i64 vl[k].kind) ∧ U.cell? ⟨b1, o1 + k * 5 + 1, none⟩ = some (.int .i64 vl[k].int) ∧ U.cell? ⟨b1, o1 + k * 5 + 2, none⟩ = some (.int .i64 vl[k].im) ∧ U.cell? ⟨b1, o1 + k * 5 + 3, none⟩ = some (.string vl[k].text) ∧ U.cell? ⟨b1, o1 + k * 5 + 4, none⟩ = some (.slice xx1 vl[k].items.length yy1) from by
    have hb1 : b1 < W.heap.size := by omega
    have hc : ∀ o, U.cell? ⟨b1, o, none⟩ = W.cell? ⟨b1, o, none⟩ := fun o => World.cell?_of_block (b.block b1 hb1)
    exact ⟨(hc _).trans p0, (hc _).trans p1, (hc _).trans p2, (hc _).trans p3, (hc _).trans p4⟩))
  clear p0 p1 p2 p3 p4 p5 p6
  go_enter Tryz.func33, Tryz.ntmps33
  go_wp2_with (go_at_call 38; refine HR.out.mono ?_; clear HR; rintro e w2 ⟨rfl, b2⟩; have b3 := b2; have f1 := (b3.block _ (Nat.lt_trans (Nat.lt_succ_self _) zW)).trans E1.out; have f2 := (b3.block _ zW).trans E2.out; have F1 := hide f1; have F2 := hide f2; have B3 := hide b3; have z0 := cells_at f1 0 _ rfl; have z1 := cells_at f1 1 _ rfl; have z2 := cells_at f1 2 _ rfl; have z3 := cells_at f1 3 _ rfl; have z4 := cells_at f1 4 _ rfl; have y0 := cells_at f2 0 _ rfl; have y1 := cells_at f2 1 _ rfl; have y2 := cells_at f2 2 _ rfl; have y3 := cells_at f2 3 _ rfl; have y4 := cells_at f2 4 _ rfl; have q0 := frozen_at f2 0; have q1 := frozen_at f2 1; have q2 := frozen_at f2 2; have q3 := frozen_at f2 3; have q4 := frozen_at f2 4; obtain ⟨u0, u1, u2, u3, u4⟩ := HC.out w2 b3; clear f1 f2 b2 b3)
  have zWe := ZWE.out
  have g := stored w w2 vl[k].kind vl[k].int vl[k].im vl[k].text (.slice xx1 vl[k].items.length yy1) zcells (w.heap.size + 1) (by omega) (trans_v bW B3.out) rfl F2.out
  refine bodyPost_ret (results_struct_tmp rfl _ _ (w.heap.size + 1) _ _ _ _ rfl g.1 Tryz.underlying25 rfl infoVal5) rfl ?_
  have hz2 := B3.out.size
  exact ⟨_, rfl, ((HI.out.below (B3.out.mono (show w.heap.size ≤ W.heap.size by omega))).kept (fun b o hb => World.cell?_of_block (put5_heap (o := 0) (show b ≠ w.heap.size + 1 by omega)))).up (by simp; omega), g.2⟩
end Go.Proofs.YtgglommnipbagaaGreatDoor
