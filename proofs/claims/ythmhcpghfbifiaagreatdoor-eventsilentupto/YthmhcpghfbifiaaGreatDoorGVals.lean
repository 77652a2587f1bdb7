/- Values, as the document speaks of them: their order. -/
import Derived.WalkKit
import Derived.Test.YthmhcpghfbifiaaGreatDoorGText
import Derived.Test.YthmhcpghfbifiaaGreatDoorGE0
namespace Go.Proofs.YthmhcpghfbifiaaGreatDoor

/-- A value: its kind, its numbers, its text, its items. -/
structure Vl where
  kind : Int
  int : Int
  im : Int
  text : ByteArray
  items : List Vl

/-- Its text is not too long, its numbers are of 64 bits. -/
def Vl.ok (v : Vl) : Prop := v.text.size ≤ 1048576 ∧ (-9223372036854775808 ≤ v.int ∧ v.int ≤ 9223372036854775807) ∧ (-9223372036854775808 ≤ v.im ∧ v.im ≤ 9223372036854775807)
/-- How much a value holds. -/
def Vl.size : Vl → Nat
  | ⟨_, _, _, _, l⟩ => (l.map Vl.size).sum + 1
theorem Vl.size_eq (v : Vl) : v.size = (v.items.map Vl.size).sum + 1 := by
  cases v
  rw [Vl.size]
theorem size_le_sum {x : Vl} : ∀ {l : List Vl}, x ∈ l → x.size ≤ (l.map Vl.size).sum
  | y :: l, h => by
    rw [List.map_cons, List.sum_cons]
    rcases List.mem_cons.1 h with rfl | h
    · omega
    · have := size_le_sum h
      omega
theorem Vl.size_item {v x : Vl} (h : x ∈ v.items) : x.size < v.size := by
  have := size_le_sum h
  rw [Vl.size_eq v]
  omega
theorem Vl.size_pos (v : Vl) : 0 < v.size := by rw [Vl.size_eq]; omega

def cmpI (a b : Int) : Int := if a < b then -1 else if b < a then 1 else 0
def cmpS (a b : ByteArray) : Int := if Op.bytesLess a.toList b.toList then -1 else if !(Op.bytesLess a.toList b.toList || a.toList == b.toList) then 1 else 0
/-- The first that is not 0. -/
def orI : List Int → Int
  | [] => 0
  | x :: l => if x = 0 then orI l else x
/-- Item by item, by an order of items. -/
def ordLF (f : Vl → Vl → Int) : List Vl → List Vl → Int
  | [], _ => 0
  | _ :: _, [] => 0
  | a :: l, b :: r => if f a b = 0 then ordLF f l r else f a b
def ordF : Nat → Vl → Vl → Int
  | 0, _, _ => 0
  | n + 1, a, b => orI [cmpI a.kind b.kind, cmpI a.int b.int, cmpI a.im b.im, cmpS a.text b.text, if cmpI a.items.length b.items.length = 0 then ordLF (ordF n) a.items b.items else cmpI a.items.length b.items.length]
def ordV (a b : Vl) : Int := ordF (a.size) a b
def ordL (l r : List Vl) : Int := ordLF ordV l r
theorem ordLF_congr {f g : Vl → Vl → Int} : ∀ (l r : List Vl), (∀ x ∈ l, ∀ y, f x y = g x y) → ordLF f l r = ordLF g l r
  | [], _, _ => rfl
  | _ :: _, [], _ => rfl
  | a :: l, b :: r, h => by
    simp only [ordLF]
    rw [h a (by simp) b, ordLF_congr l r fun x hx y => h x (by simp [hx]) y]
theorem ordF_more (n : Nat) : ∀ (m : Nat) (a b : Vl), a.size ≤ n → n ≤ m → ordF m a b = ordF n a b := by
  induction n with
  | zero =>
    intro m a b h _
    have := a.size_pos
    omega
  | succ n ih =>
    intro m a b h hm
    cases m with
    | zero => omega
    | succ m =>
      simp only [ordF]
      rw [ordLF_congr a.items b.items fun x hx y => ih m x y (by have := Vl.size_item hx; omega) (by omega)]
theorem ordV_eq (a b : Vl) : ordV a b = orI [cmpI a.kind b.kind, cmpI a.int b.int, cmpI a.im b.im, cmpS a.text b.text, if cmpI a.items.length b.items.length = 0 then ordL a.items b.items else cmpI a.items.length b.items.length] := by
  have h0 := a.size_pos
  unfold ordV
  obtain ⟨n, hn⟩ : ∃ n, a.size = n + 1 := ⟨a.size - 1, by omega⟩
  rw [hn]
  simp only [ordF]
  rw [ordLF_congr (g := ordV) a.items b.items fun x hx y => ordF_more (x.size) n x y (Nat.le_refl _) (by have := Vl.size_item hx; omega)]
  rfl
/-- By how many items there are, then item by item. -/
def ordI (l r : List Vl) : Int := if cmpI l.length r.length = 0 then ordL l r else cmpI l.length r.length
theorem ordV_is (a b : Vl) : ordV a b = orI [cmpI a.kind b.kind, cmpI a.int b.int, cmpI a.im b.im, cmpS a.text b.text, ordI a.items b.items] := ordV_eq a b
theorem ordL_nil (r : List Vl) : ordL [] r = 0 := by unfold ordL; rw [ordLF]
theorem ordL_nil' (l : List Vl) : ordL l [] = 0 := by unfold ordL; cases l <;> rw [ordLF]
theorem ordL_cons (a b : Vl) (l r : List Vl) : ordL (a :: l) (b :: r) = if ordV a b = 0 then ordL l r else ordV a b := by unfold ordL; rw [ordLF]
theorem ordL_take {l r : List Vl} {k : Nat} (hl : k < l.length) (hr : k < r.length) (h : ordL (l.take k) (r.take k) = 0) : ordL (l.take (k + 1)) (r.take (k + 1)) = ordV l[k] r[k] := by
  induction k generalizing l r with
  | zero =>
    cases l with
    | nil => simp at hl
    | cons a l =>
      cases r with
      | nil => simp at hr
      | cons b r =>
        simp only [List.take_succ_cons, List.take_zero, ordL_cons, ordL_nil, List.getElem_cons_zero]
        split
        · rename_i e; exact e.symm
        · rfl
  | succ k ih =>
    cases l with
    | nil => simp at hl
    | cons a l =>
      cases r with
      | nil => simp at hr
      | cons b r =>
        simp only [List.take_succ_cons, ordL_cons] at h ⊢
        split at h
        · rename_i e
          rw [if_pos e]
          have := ih (l := l) (r := r) (by simpa using hl) (by simpa using hr) h
          simpa using this
        · rename_i e; exact absurd h e
theorem ordL_part {l r : List Vl} {k : Nat} (h : ordL (l.take k) (r.take k) ≠ 0) : ordL l r = ordL (l.take k) (r.take k) := by
  induction k generalizing l r with
  | zero => simp [ordL_nil] at h
  | succ k ih =>
    cases l with
    | nil => simp [ordL_nil] at h
    | cons a l =>
      cases r with
      | nil => rw [List.take_succ_cons, List.take_nil, ordL_nil'] at h; exact absurd rfl h
      | cons b r =>
        simp only [List.take_succ_cons, ordL_cons] at h ⊢
        split at h
        · rename_i e
          rw [if_pos e, if_pos e]
          exact ih h
        · rename_i e
          rw [if_neg e, if_neg e]
end Go.Proofs.YthmhcpghfbifiaaGreatDoor

/- How a value lies in memory. -/
namespace Go.Proofs.YthmhcpghfbifiaaGreatDoor
open Go.RowKit

/-- The five cells of a value. -/
abbrev vcells (v : Vl) (sl : Value) : Array Value := #[.int .i64 v.kind, .int .i64 v.int, .int .i64 v.im, .string v.text, sl]
/-- A slice of values that lies in blocks below B; n bounds how deep. -/
def ItemsAt (w : World) (B : Nat) : Nat → Value → List Vl → Prop
  | 0, _, _ => False
  | n + 1, sl, its => ∃ a c, sl = .slice a its.length c ∧ its.length ≤ maxLen ∧ ∀ j (h : j < its.length), ∃ b off s', a = some ⟨b, off, none⟩ ∧ b < B ∧
      w.cell? ⟨b, off + j * 5, none⟩ = some (.int .i64 its[j].kind) ∧ w.cell? ⟨b, off + j * 5 + 1, none⟩ = some (.int .i64 its[j].int) ∧ w.cell? ⟨b, off + j * 5 + 2, none⟩ = some (.int .i64 its[j].im) ∧
      w.cell? ⟨b, off + j * 5 + 3, none⟩ = some (.string its[j].text) ∧ w.cell? ⟨b, off + j * 5 + 4, none⟩ = some s' ∧ ItemsAt w B n s' its[j].items ∧ its[j].ok
theorem ItemsAt.kept {w w' : World} {B : Nat} (hk : ∀ b o, b < B → w'.cell? ⟨b, o, none⟩ = w.cell? ⟨b, o, none⟩) : ∀ {n : Nat} {sl : Value} {its : List Vl}, ItemsAt w B n sl its → ItemsAt w' B n sl its
  | 0, _, _, h => h.elim
  | n + 1, _, its, h => by
    obtain ⟨a, c, e, hl, hc⟩ := h
    refine ⟨a, c, e, hl, fun j hj => ?_⟩
    obtain ⟨b, off, s', e, hb, h0, h1, h2, h3, h4, h5, h6⟩ := hc j hj
    exact ⟨b, off, s', e, hb, (hk _ _ hb).trans h0, (hk _ _ hb).trans h1, (hk _ _ hb).trans h2, (hk _ _ hb).trans h3, (hk _ _ hb).trans h4, ItemsAt.kept hk h5, h6⟩
theorem ItemsAt.below {w w' : World} {B n : Nat} {sl : Value} {its : List Vl} (h : ItemsAt w B n sl its) (hb : Below B w w') : ItemsAt w' B n sl its :=
  h.kept fun b o hB => hb.cell (p := ⟨b, o, none⟩) hB
theorem ItemsAt.up {w : World} {B B' : Nat} (hB : B ≤ B') : ∀ {n : Nat} {sl : Value} {its : List Vl}, ItemsAt w B n sl its → ItemsAt w B' n sl its
  | 0, _, _, h => h.elim
  | n + 1, _, its, h => by
    obtain ⟨a, c, e, hl, hc⟩ := h
    refine ⟨a, c, e, hl, fun j hj => ?_⟩
    obtain ⟨b, off, s', e, hb, h0, h1, h2, h3, h4, h5, h6⟩ := hc j hj
    exact ⟨b, off, s', e, by omega, h0, h1, h2, h3, h4, h5.up hB, h6⟩
theorem ItemsAt.len {w : World} {B n : Nat} {sl : Value} {its : List Vl} (h : ItemsAt w B n sl its) : ∃ a c, sl = .slice a its.length c ∧ its.length ≤ maxLen := by
  cases n with
  | zero => exact h.elim
  | succ n => obtain ⟨a, c, e, hl, _⟩ := h; exact ⟨a, c, e, hl⟩
theorem ItemsAt.item {w : World} {B n : Nat} {a : Option Addr} {l c : Nat} {its : List Vl} (h : ItemsAt w B (n + 1) (.slice a l c) its) (j : Nat) (hj : j < its.length) : ∃ b off s', a = some ⟨b, off, none⟩ ∧ b < B ∧
      w.cell? ⟨b, off + j * 5, none⟩ = some (.int .i64 its[j].kind) ∧ w.cell? ⟨b, off + j * 5 + 1, none⟩ = some (.int .i64 its[j].int) ∧ w.cell? ⟨b, off + j * 5 + 2, none⟩ = some (.int .i64 its[j].im) ∧
      w.cell? ⟨b, off + j * 5 + 3, none⟩ = some (.string its[j].text) ∧ w.cell? ⟨b, off + j * 5 + 4, none⟩ = some s' ∧ ItemsAt w B n s' its[j].items ∧ its[j].ok := by
  obtain ⟨a', c', e, _, hc⟩ := h
  cases e
  exact hc j hj
theorem ItemsAt.pos {w : World} {B n : Nat} {sl : Value} {its : List Vl} (h : ItemsAt w B n sl its) : ∃ m, n = m + 1 := by
  cases n with
  | zero => exact h.elim
  | succ n => exact ⟨n, rfl⟩
theorem trans_v {w W W' : World} (b : Below w.heap.size w W) (b' : Below W.heap.size W W') : Below w.heap.size w W' := b.trans (b'.mono b.size)
theorem alloc_v {w W : World} (b : Below w.heap.size w W) (o : Obj) : Below w.heap.size w (W.alloc o) := b.alloc b.size o
end Go.Proofs.YthmhcpghfbifiaaGreatDoor
