/- A range over a function whose iterator keeps a block of cells of its own: what the iterator owes, what a round owes, and the loop's law, at the wide fence. -/
import Derived.RangeFuncNested
import Derived.RangeFuncBound
import Derived.RangeFuncCalls
import Derived.RangeFuncLeaves
import Derived.Shelf.Abstract
import Derived.Shelf.RegionOpen
import Derived.WalkKit
import Derived.OwnWalkIn
import Derived.TacticsInMore
import Derived.LoopNIn
import Derived.LoopIn
import Derived.Maps.AppendAt
import Derived.Lib.OthersKept
namespace Go.Proofs.YtpbebcefnkbnlabDoor
open Go.RowKit

/-- What a round leaves as it was: what is no cells from B on; the block sb; the block A, the iterator's own. -/
structure Kept (B sb A : Nat) (W W' : World) : Prop where
  size : W.heap.size ≤ W'.heap.size
  other : ∀ (k : Nat) (o : Obj), B ≤ k → W.heap[k]? = some o → o.isCells = false → W'.heap[k]? = some o
  box : ∀ o : Obj, W.heap[sb]? = some o → W'.heap[sb]? = some o
  own : ∀ o : Obj, W.heap[A]? = some o → W'.heap[A]? = some o

theorem Kept.refl (B sb A : Nat) (W : World) : Kept B sb A W W := ⟨Nat.le_refl _, fun _ _ _ h _ => h, fun _ h => h, fun _ h => h⟩
theorem Kept.trans {B sb A : Nat} {X Y Z : World} (h : Kept B sb A X Y) (k : Kept B sb A Y Z) : Kept B sb A X Z :=
  ⟨Nat.le_trans h.size k.size, fun i o hB hi ho => k.other i o hB (h.other i o hB hi ho) ho, fun o ho => k.box o (h.box o ho), fun o ho => k.own o (h.own o ho)⟩
theorem Kept.grown {B sb A : Nat} {W W' : World} {row : Option Nat} (hg : W.grownBy W' row)
    (hr : ∀ r, row = some r → r ≠ sb ∧ r ≠ A ∧ (r < B ∨ ∀ o, W.heap[r]? = some o → o.isCells = true)) : Kept B sb A W W' := by
  have same : ∀ k o, W.heap[k]? = some o → some k ≠ row → W'.heap[k]? = some o := fun k o hk hne => (hg.block k (Array.getElem?_eq_some_iff.1 hk).1 hne).trans hk
  refine ⟨hg.size, fun k o hB hk ho => same k o hk fun e => ?_, fun o ho => same _ o ho fun e => (hr _ e.symm).1 rfl, fun o ho => same _ o ho fun e => (hr _ e.symm).2.1 rfl⟩
  rcases (hr _ e.symm).2.2 with h | h
  · omega
  · rw [h o hk] at ho
    cases ho
theorem Kept.alloc (B sb A : Nat) (W : World) (o : Obj) : Kept B sb A W (W.alloc o) := Kept.grown (World.grownBy_alloc W o none) (fun _ e => by cases e)

/-- A loop's invariant does not mind new blocks, nor a turn of one block from B on that is no cells or is the iterator's own. -/
def OwnB {β : Type} (B A : Nat) (KA : Obj → Prop) (I : β → World → Prop) : Prop :=
  ∀ s W W' row, I s W → W.grownBy W' row → (∀ r, row = some r → B ≤ r ∧ ((∃ o : Obj, W.heap[r]? = some o ∧ o.isCells = false) ∨ (r = A ∧ ∃ o : Obj, W.heap[r]? = some o ∧ KA o))) → I s W'
/-- The same from the iterator's side: A is the block of cells that it keeps. -/
def OwnI {β : Type} (B A : Nat) (KA : Obj → Prop) (J : β → World → Prop) : Prop :=
  ∀ s W W' row, J s W → W.grownBy W' row → (∀ r, row = some r → B + 2 ≤ r ∧ ((∃ o : Obj, W.heap[r]? = some o ∧ o.isCells = false) ∨ (r = A ∧ ∃ o : Obj, W.heap[r]? = some o ∧ KA o))) → J s W'

theorem OwnB.and {β : Type} {B A : Nat} {KA : Obj → Prop} {I I' : β → World → Prop} (h : OwnB B A KA I) (h' : OwnB B A KA I') : OwnB B A KA (fun s W => I s W ∧ I' s W) := fun s W W' row hs hg hr => ⟨h s W W' row hs.1 hg hr, h' s W W' row hs.2 hg hr⟩
theorem OwnB.alloc {β : Type} {B A : Nat} {KA : Obj → Prop} {I : β → World → Prop} (h : OwnB B A KA I) {s : β} {W : World} (o : Obj) (hs : I s W) : I s (W.alloc o) :=
  h s W _ none hs (World.grownBy_alloc W o none) (fun _ e => by cases e)
theorem OwnB.putObj {β : Type} {B A : Nat} {KA : Obj → Prop} {I : β → World → Prop} (h : OwnB B A KA I) {s : β} {W : World} {l : Nat} {o : Obj} (o' : Obj) (hs : I s W) (hB : B ≤ l) (hl : W.heap[l]? = some o) (hc : o.isCells = false) : I s (W.putObj l o') :=
  h s W _ (some l) hs (grownBy_putObj' _ _ _) (fun r e => by cases e; exact ⟨hB, .inl ⟨o, hl, hc⟩⟩)
theorem OwnB.pure {β : Type} (B A : Nat) (KA : Obj → Prop) (f : β → Prop) : OwnB B A KA (fun s _ => f s) := fun _ _ _ _ hs _ _ => hs
/-- A block that lies below B stays. -/
theorem OwnB.block {β : Type} (B A k : Nat) (KA : Obj → Prop) (hk : k < B) (f : β → Option Obj → Prop) : OwnB B A KA (fun s W => k < W.heap.size ∧ f s W.heap[k]?) := fun s W W' row hs hg hr => by
  refine ⟨Nat.lt_of_lt_of_le hs.1 hg.size, ?_⟩
  rw [hg.block k hs.1 fun e => by have := (hr _ e.symm).1; omega]
  exact hs.2
theorem OwnB.boxed {β : Type} (B A k : Nat) (KA : Obj → Prop) (hk : k < B) (t : TypeId) (f : β → Value) : OwnB B A KA (fun s W => Boxed W k t (f s)) := fun s W W' row hs hg hr =>
  hs.kept hg fun e => by have := (hr _ e.symm).1; omega
theorem OwnB.below {β : Type} {n₀ B A : Nat} {KA : Obj → Prop} {w₀ : World} (hn : n₀ ≤ w₀.heap.size) (hB : n₀ ≤ B) : OwnB B A KA (fun (_ : β) W => Below n₀ w₀ W) := fun s W W' row hs hg hr =>
  hs.grown hg (by have := hs.size; omega) (fun k e => by have := (hr k e).1; omega)

theorem grown_set (W : World) (b i : Nat) (v : Value) : W.grownBy (W.setCell ⟨b, i, none⟩ v) (some b) :=
  ⟨rfl, rfl, rfl, by simp [World.setCell], fun k _ hne => Below.heap_setCell W _ v k (fun e => hne (by rw [e]))⟩
theorem grown_iter (W : World) (k : Nat) (s : ByteArray) (p : Nat) : W.grownBy (W.iterAt k s p) (some k) :=
  ⟨rfl, rfl, rfl, by simp [World.iterAt], fun j _ hne => Lib.iterAt_other W k j s p (fun e => hne (by rw [e]))⟩
theorem OwnI.alloc {β : Type} {B A : Nat} {KA : Obj → Prop} {J : β → World → Prop} (h : OwnI B A KA J) {s : β} {W : World} (o : Obj) (hs : J s W) : J s (W.alloc o) :=
  h s W _ none hs (World.grownBy_alloc W o none) (fun _ e => by cases e)
theorem OwnI.set {β : Type} {B A : Nat} {KA : Obj → Prop} {J : β → World → Prop} (h : OwnI B A KA J) {s : β} {W : World} (hB : B + 2 ≤ A) (ha : ∃ o : Obj, W.heap[A]? = some o ∧ KA o) (i : Nat) (v : Value) (hs : J s W) : J s (W.setCell ⟨A, i, none⟩ v) :=
  h s W _ _ hs (grown_set W A i v) (fun r e => by cases e; exact ⟨hB, .inr ⟨rfl, ha⟩⟩)
theorem OwnI.iter {β : Type} {B A : Nat} {KA : Obj → Prop} {J : β → World → Prop} (h : OwnI B A KA J) {s : β} {W : World} {k : Nat} {t : ByteArray} {p : Nat} (hB : B + 2 ≤ k) (hk : W.heap[k]? = some (.stringIter t p)) (p' : Nat) (hs : J s W) : J s (W.iterAt k t p') :=
  h s W _ _ hs (grown_iter W k t p') (fun r e => by cases e; exact ⟨hB, .inl ⟨_, hk, rfl⟩⟩)

theorem heldB {B A k : Nat} {KA : Obj → Prop} {W W' : World} {row : Option Nat} {o : Obj} (h : W.heap[k]? = some o) (hc : o.isCells = true) (hk : k ≠ A) (hg : W.grownBy W' row)
    (hr : ∀ r, row = some r → B ≤ r ∧ ((∃ o : Obj, W.heap[r]? = some o ∧ o.isCells = false) ∨ (r = A ∧ ∃ o : Obj, W.heap[r]? = some o ∧ KA o))) : W'.heap[k]? = some o :=
  (hg.block k (Array.getElem?_eq_some_iff.1 h).1 fun e => by
    rcases (hr k e.symm).2 with ⟨o', ho, hn⟩ | h'
    · rw [h] at ho
      cases ho
      rw [hc] at hn
      cases hn
    · exact hk h'.1).trans h
theorem rowB_kept {B A : Nat} {KA : Obj → Prop} {W W' : World} {row : Option Nat} {base : Nat} {e : TypeId} {size : Nat} {v : Value} {k : Nat} {xs : List Value} (h : W.ownsRow base e size v k xs) (hb : A < base) (hg : W.grownBy W' row)
    (hr : ∀ r, row = some r → B ≤ r ∧ ((∃ o : Obj, W.heap[r]? = some o ∧ o.isCells = false) ∨ (r = A ∧ ∃ o : Obj, W.heap[r]? = some o ∧ KA o))) : W'.ownsRow base e size v k xs := by
  refine h.kept hg ?_
  rcases h.2 with ⟨rfl, _⟩ | ⟨g, cap, cur, rfl, hbg, hgb, _⟩
  · exact .inl rfl
  · refine .inr fun e' => ?_
    have e2 : row = some g := by simpa [Value.ownBlock] using e'.symm
    rcases (hr g e2).2 with ⟨o, ho, hn⟩ | h'
    · rw [hgb] at ho
      cases ho
      cases hn
    · have := h'.1
      omega
theorem row_ne {W : World} {b1 b2 : Nat} {e1 e2 : TypeId} {s1 s2 : Nat} {v1 v2 : Value} {k1 k2 : Nat} {x1 x2 : List Value} (h1 : W.ownsRow b1 e1 s1 v1 k1 x1) (h2 : W.ownsRow b2 e2 s2 v2 k2 x2) (hne : e1 ≠ e2) : v1.ownBlock = none ∨ v1.ownBlock ≠ v2.ownBlock := by
  rcases h1.2 with ⟨rfl, _⟩ | ⟨g, cap, cur, rfl, _, hg1, _⟩
  · exact .inl rfl
  · refine .inr fun e => ?_
    rcases h2.2 with ⟨rfl, _⟩ | ⟨g', cap', cur', rfl, _, hg2, _⟩
    · simp [Value.ownBlock] at e
    · have : g = g' := by simpa [Value.ownBlock] using e
      subst this
      rw [hg1] at hg2
      simp at hg2
      exact hne hg2.2
theorem row_base {W : World} {b b' : Nat} {e : TypeId} {size : Nat} {v : Value} {k : Nat} {xs : List Value} (h : W.ownsRow b e size v k xs) (hb : b' ≤ b) : W.ownsRow b' e size v k xs := by
  refine ⟨h.1, ?_⟩
  rcases h.2 with hn | ⟨g, cap, cur, rfl, hbg, rest⟩
  · exact .inl hn
  · exact .inr ⟨g, cap, cur, rfl, by omega, rest⟩
theorem row_slice {W : World} {b : Nat} {e : TypeId} {size : Nat} {v : Value} {k : Nat} {xs : List Value} (h : W.ownsRow b e size v k xs) : ∃ a cap, v = .slice a k cap := by
  rcases h.2 with ⟨rfl, h0⟩ | ⟨g, cap, cur, rfl, _⟩
  · exact ⟨none, 0, by rw [h0]⟩
  · exact ⟨_, _, rfl⟩
/-- The row's block: from its base on; cells. -/
theorem row_block {W : World} {b : Nat} {e : TypeId} {size : Nat} {v : Value} {k : Nat} {xs : List Value} (h : W.ownsRow b e size v k xs) : ∀ g, v.ownBlock = some g → b ≤ g ∧ ∀ o, W.heap[g]? = some o → o.isCells = true := by
  intro g hg
  rcases h.2 with ⟨rfl, _⟩ | ⟨g', cap, cur, rfl, hb, hgg, _⟩
  · simp [Value.ownBlock] at hg
  · have : g' = g := by simpa [Value.ownBlock] using hg
    subst this
    refine ⟨hb, fun o ho => ?_⟩
    rw [hgg] at ho
    cases ho
    rfl

/-- A slice in a box is grown by append: the box, the row, and what stays. -/
theorem appendStep {W w1 w0 : World} {n₀ b base : Nat} {t e : TypeId} {size : Nat} {v v' : Value} {k m : Nat} {xs ys : List Value} {tmp : Obj}
    (hv : Boxed W b t v) (hte : t ≠ e) (hrow : W.ownsRow base e size v k xs) (hown' : w1.ownsRow base e size v' m ys) (hgrow : (W.alloc tmp).grownBy w1 v.ownBlock) (hnb : n₀ ≤ b) (hnB : n₀ ≤ base) (hbel : Below n₀ w0 W) (hw0 : n₀ ≤ w0.heap.size) :
    Boxed w1 b t v ∧ Boxed (w1.setCell ⟨b, 0, none⟩ v') b t v' ∧ (w1.setCell ⟨b, 0, none⟩ v').ownsRow base e size v' m ys ∧ Below n₀ w0 (w1.setCell ⟨b, 0, none⟩ v') ∧ W.heap.size ≤ (w1.setCell ⟨b, 0, none⟩ v').heap.size ∧
      ∀ j, j < W.heap.size → j ≠ b → some j ≠ v.ownBlock → (w1.setCell ⟨b, 0, none⟩ v').heap[j]? = W.heap[j]? := by
  have hv1 : Boxed w1 b t v := (hv.alloc tmp).kept hgrow (hv.not_row hte hrow)
  have hsz := hgrow.size
  rw [World.size_alloc] at hsz
  refine ⟨hv1, hv1.set v', hown'.kept (grownBy_setCell' w1 b v') (.inr (hv1.not_row hte hown').symm), ?_, ?_, ?_⟩
  · refine ((hbel.alloc (by have := hbel.size; omega) tmp).grown hgrow (by have := hbel.size; simp; omega) fun j ej => ?_).setCell (p := ⟨b, 0, none⟩) hnb v'
    have := (row_block hrow j ej).1
    omega
  · have : (w1.setCell ⟨b, 0, none⟩ v').heap.size = w1.heap.size := by simp [World.setCell]
    omega
  · intro j hj hne hrw
    rw [Below.heap_setCell _ _ _ _ (by simpa using hne), hgrow.block j (by simp; omega) hrw, Below.heap_alloc _ _ _ hj]
/-- What such a step keeps of the iterator's. -/
theorem Kept.frame {B sb A b base : Nat} {e : TypeId} {size : Nat} {v : Value} {k : Nat} {xs : List Value} {W W' : World} (hrow : W.ownsRow base e size v k xs) (hsz : W.heap.size ≤ W'.heap.size)
    (hF : ∀ j, j < W.heap.size → j ≠ b → some j ≠ v.ownBlock → W'.heap[j]? = W.heap[j]?) (hb : b < B) (hbs : b ≠ sb) (hbA : b ≠ A) (hA : A < base) (hs : sb < base) : Kept B sb A W W' := by
  have same : ∀ j o, W.heap[j]? = some o → j ≠ b → some j ≠ v.ownBlock → W'.heap[j]? = some o := fun j o hj h1 h2 => (hF j (Array.getElem?_eq_some_iff.1 hj).1 h1 h2).trans hj
  have far : ∀ j, j < base → some j ≠ v.ownBlock := fun j hj e' => by have := (row_block hrow j e'.symm).1; omega
  refine ⟨hsz, fun j o hB hj ho => same j o hj (by omega) fun e' => ?_, fun o ho => same _ o ho (Ne.symm hbs) (far _ hs), fun o ho => same _ o ho (Ne.symm hbA) (far _ hA)⟩
  have := (row_block hrow j e'.symm).2 o hj
  rw [this] at ho
  cases ho
theorem grown_below {W W' : World} (h : Below W.heap.size W W') : W.grownBy W' none := ⟨h.os, h.tape, h.output, h.size, fun k hk _ => h.block k hk⟩
theorem row_below {W W' : World} {base : Nat} {e : TypeId} {size : Nat} {v : Value} {k : Nat} {xs : List Value} (h : W.ownsRow base e size v k xs) (hb : Below W.heap.size W W') : W'.ownsRow base e size v k xs :=
  h.kept (grown_below hb) (by cases hv : v.ownBlock <;> simp)
theorem row_frame {b : Nat} {v : Value} {W W' : World} {base : Nat} {e : TypeId} {size : Nat} {u : Value} {k : Nat} {xs : List Value} (h : W.ownsRow base e size u k xs)
    (hF : ∀ j, j < W.heap.size → j ≠ b → some j ≠ v.ownBlock → W'.heap[j]? = W.heap[j]?) (hb : b < base) (hne : u.ownBlock = none ∨ u.ownBlock ≠ v.ownBlock) : W'.ownsRow base e size u k xs := by
  refine ⟨h.1, ?_⟩
  rcases h.2 with hn | ⟨g, cap, cur, rfl, hbg, hgg, rest⟩
  · exact .inl hn
  · refine .inr ⟨g, cap, cur, rfl, hbg, ?_, rest⟩
    rw [hF g (Array.getElem?_eq_some_iff.1 hgg).1 (by omega) (by simpa [Value.ownBlock] using hne)]
    exact hgg
theorem cell_one_at (w : World) (x : Value) (t : TypeId) (N : Nat) (hN : N = w.heap.size) : ∀ j u, [x][j]? = some u → (w.alloc (.cells #[x] t)).cell? ((⟨N, 0, none⟩ : Addr).add j) = some u := by
  subst hN
  exact cell_one_new w x t
theorem cell_three_new (w : World) (x y z : Value) (t : TypeId) : ∀ j u, [x, y, z][j]? = some u → (w.alloc (.cells #[x, y, z] t)).cell? ((⟨w.heap.size, 0, none⟩ : Addr).add j) = some u := by
  intro j u hj
  match j, hj with
  | 0, hj => simp at hj; subst hj; simp [Addr.add]
  | 1, hj => simp at hj; subst hj; simp [Addr.add]
  | 2, hj => simp at hj; subst hj; simp [Addr.add]

/-- How the body of a round may be left. -/
def roundPostB {α : Type} (B sb A : Nat) (I : List α → World → Prop) (Ix : Code → List α → World → Prop) (xs : List α) (W : World) : Exit → Act → World → Prop
  | .normal, _, W' => Kept B sb A W W' ∧ I xs W'
  | .ret, _, W' => Kept B sb A W W' ∧ Ix .ret xs W'
  | .exit id, _, W' => Kept B sb A W W' ∧ Ix (.exit id) xs W'
  | .goto t, _, W' => Kept B sb A W W' ∧ Ix (.goto t) xs W'
  | .panic _, _, _ => False
  | .outgrown, _, _ => False

/-- What the iterator owes to a loop that begins in w. -/
def Seq {α : Type} (n : Nat) (P : Program) (g : Nat) (lb : Array Value) (encs : α → Array Value) (sb A : Nat) (KA : Obj → Prop) (xs : List α) (w : World) : Prop :=
  ∀ (l : Nat) (J Jx : List α → World → Prop) (W : World), W.heap.size = w.heap.size + 2 → (∀ k, k < w.heap.size → W.heap[k]? = w.heap[k]?) → OwnI w.heap.size A KA J → OwnI w.heap.size A KA Jx →
    (∀ pre x W1, J pre W1 → (∃ post, xs = pre ++ x :: post) → (∃ o : Obj, W1.heap[A]? = some o ∧ KA o) → YieldAt Fence.wide (n - 1) P l (encs x) W1 fun e W' =>
      (e = .returned (.bool true) ∧ J (pre ++ [x]) W' ∧ Kept w.heap.size sb A W1 W') ∨ (e = .returned (.bool false) ∧ Jx (pre ++ [x]) W')) →
    J [] W →
    CallsIn Fence.wide n P g (#[.func (.yield l) #[] #[]] ++ lb) W fun e W' => (∃ v, e = .returned v) ∧ (J xs W' ∨ (∃ pre x post, xs = pre ++ x :: post ∧ Jx (pre ++ [x]) W'))

theorem seq_law {α : Type} {n : Nat} {P : Program} {g : Operand} {ps : Array Tmp} {assign body : Code} {Q : Exit → Act → World → Prop} {a : Act} {w : World}
    {gf : Nat} {lb : Array Value} (hg : a.eval g = .func (.func gf) #[] lb) (eg : ∀ args w, (callFunc gf args).run P w = .ok (.enter gf args) w)
    {encs : α → Array Value} {sb A : Nat} (hsb : sb < w.heap.size) (hA : w.heap.size + 2 ≤ A) {KA : Obj → Prop} {xs : List α} (hseq : Seq (n - 1) P gf lb encs sb A KA xs w) (hps : ∀ x, (encs x).size = ps.size)
    (I : List α → World → Prop) (Ix : Code → List α → World → Prop) (hI : OwnB w.heap.size A KA I) (hIx : ∀ c, OwnB w.heap.size A KA (Ix c)) (h0 : I [] w)
    (hround : ∀ (l : Nat) (pre : List α) (x : α) (W : World), I pre W → (∃ post, xs = pre ++ x :: post) → A < W.heap.size → (∃ o : Obj, W.heap[A]? = some o ∧ KA o) →
      assign.wpIn (Fence.wide.inRound l) (n - 1 - 1) P (Exit.then (fun a₁ W₁ => Kept w.heap.size sb A W W₁ ∧ ∃ J : Unit → World → Prop, OwnB w.heap.size A KA J ∧ J () W₁ ∧
          ∀ W₂, J () W₂ → A < W₂.heap.size → (∃ o : Obj, W₂.heap[A]? = some o ∧ KA o) → body.wpIn (Fence.wide.inRound l) (n - 1 - 1) P (roundPostB w.heap.size sb A I Ix (pre ++ [x]) W₂) a₁ W₂) (fun _ _ _ => False))
        { tmps := (ps.zip (encs x)).foldl (fun t (p, v) => t.setIfInBounds p v) a.tmps, defers := [] } W)
    (hdone : ∀ (W : World), I xs W → W.heap[w.heap.size]? = some (.deferred (some [])) → Q .normal { a with defers := { target := .collected w.heap.size, args := #[] } :: a.defers } W)
    (hstop : ∀ (c : Code) (pre : List α) (x : α) (W : World), (∃ post, xs = pre ++ x :: post) → Ix c (pre ++ [x]) W → W.heap[w.heap.size]? = some (.deferred (some [])) → c.wpIn Fence.wide n P Q { a with defers := { target := .collected w.heap.size, args := #[] } :: a.defers } W) :
    (Code.rangeFunc g ps assign body).wpIn Fence.wide n P Q a w := by
  refine wpIn_rangeFunc ?_
  intro fn hfn
  let rec' : LoopState → Option Code → Loop := fun st pe => { state := st, pending := pe, fn, tmps := a.tmps, params := ps, assign, body, defers := w.heap.size }
  obtain ⟨R, hR⟩ : ∃ R : LoopState → Option Code → Loop, R = rec' := ⟨_, rfl⟩
  obtain ⟨W1, hW1⟩ : ∃ W1, (w.alloc (.deferred (some []))).alloc (.loop (R .ready none)) = W1 := ⟨_, rfl⟩
  have hs1 : W1.heap.size = w.heap.size + 2 := by rw [← hW1]; simp
  have hlow : ∀ k, k < w.heap.size → W1.heap[k]? = w.heap[k]? := fun k hk => by
    rw [← hW1]
    exact (Below.heap_alloc _ _ _ (by simp; omega)).trans (Below.heap_alloc _ _ _ hk)
  have hL1 : W1.heap[w.heap.size + 1]? = some (.loop (R .ready none)) := by
    rw [← hW1]
    have := World.alloc_heap_new (w.alloc (.deferred (some []))) (.loop (R .ready none))
    rwa [World.size_alloc] at this
  have hK1 : W1.heap[w.heap.size]? = some (.deferred (some [])) := by
    rw [← hW1]
    exact (Below.heap_alloc _ _ _ (by simp)).trans (World.alloc_heap_new w _)
  have hI1 : I [] W1 := by rw [← hW1]; exact hI.alloc _ (hI.alloc _ h0)
  refine ⟨w.heap.size + 1, [{ target := .collected w.heap.size, args := #[] }], W1, { target := .fn (.func gf) lb, args := #[.func (.yield (w.heap.size + 1)) #[] #[]] }, W1, gf,
    #[.func (.yield (w.heap.size + 1)) #[] #[]] ++ lb, W1, ?_, ?_, fun _ _ => trivial, ?_, (fun h => by cases h), ?_⟩
  · rw [← hW1, hR]
    exact run_enterLoop_outer _ _ _ _ _
  · simp only [resolve, hg]
    simp [go_sem]
  · simp [invoke, go_sem, eg]
  have low : ∀ {W W' : World} {row : Option Nat} {k : Nat} {o : Obj}, W.grownBy W' row → (∀ r, row = some r → w.heap.size + 2 ≤ r ∧ ((∃ o : Obj, W.heap[r]? = some o ∧ o.isCells = false) ∨ (r = A ∧ ∃ o : Obj, W.heap[r]? = some o ∧ KA o))) → k < w.heap.size + 2 → W.heap[k]? = some o → W'.heap[k]? = some o :=
    fun hg' hr hk ho => (hg'.block _ (Array.getElem?_eq_some_iff.1 ho).1 fun e => by have := (hr _ e.symm).1; omega).trans ho
  have up : ∀ {W : World} {row : Option Nat}, (∀ r, row = some r → w.heap.size + 2 ≤ r ∧ ((∃ o : Obj, W.heap[r]? = some o ∧ o.isCells = false) ∨ (r = A ∧ ∃ o : Obj, W.heap[r]? = some o ∧ KA o))) → ∀ r, row = some r → w.heap.size ≤ r ∧ ((∃ o : Obj, W.heap[r]? = some o ∧ o.isCells = false) ∨ (r = A ∧ ∃ o : Obj, W.heap[r]? = some o ∧ KA o)) :=
    fun hr r e => ⟨by have := (hr r e).1; omega, (hr r e).2⟩
  refine (hseq (w.heap.size + 1)
    (fun pre W => I pre W ∧ W.heap[w.heap.size + 1]? = some (.loop (R .ready none)) ∧ W.heap[w.heap.size]? = some (.deferred (some [])))
    (fun pre W => ∃ c, Ix c pre W ∧ W.heap[w.heap.size + 1]? = some (.loop (R .done (some c))) ∧ W.heap[w.heap.size]? = some (.deferred (some [])))
    W1 hs1 hlow
    (fun s X Y row hs hg' hr => ⟨hI s X Y row hs.1 hg' (up hr), low hg' hr (by omega) hs.2.1, low hg' hr (by omega) hs.2.2⟩)
    (fun s X Y row hs hg' hr => by
      obtain ⟨c, hc, hl, hk⟩ := hs
      exact ⟨c, hIx c s X Y row hc hg' (up hr), low hg' hr (by omega) hl, low hg' hr (by omega) hk⟩)
    ?_ ⟨hI1, hL1, hK1⟩).mono ?_
  · rintro pre x W ⟨hi, hl, hk⟩ hpost ⟨oA, hoA, hkA⟩
    have hAW : A < W.heap.size := (Array.getElem?_eq_some_iff.1 hoA).1
    have hlt : w.heap.size + 1 < W.heap.size := (Array.getElem?_eq_some_iff.1 hl).1
    have hy := run_yield (P := P) (args := encs x) hl (by rw [hR]; exact hps x)
    rw [hR] at hy
    refine ⟨fn, _, assign, body, hy, roundIn_of_wpIn hfn (wpIn_mono (hround _ pre x W hi hpost hAW ⟨oA, hoA, hkA⟩) ?_)⟩
    rintro e a₁ Wa he
    cases e with
    | normal =>
      obtain ⟨hka, J, hJ, hJa, hbody⟩ := he
      have hla := hka.other _ _ (by omega) hl rfl
      have hkka := hka.other _ _ (Nat.le_refl _) hk rfl
      have hlta := (Array.getElem?_eq_some_iff.1 hla).1
      refine ⟨_, run_beginRound hla (by rw [hR]), ?_⟩
      obtain ⟨Wb, hWb⟩ : ∃ Wb, Wa.putObj (w.heap.size + 1) (.loop { R .ready none with state := .busy }) = Wb := ⟨_, rfl⟩
      rw [hWb]
      have hgb : Wa.grownBy Wb (some (w.heap.size + 1)) := by rw [← hWb]; exact grownBy_putObj' _ _ _
      have hlb : Wb.heap[w.heap.size + 1]? = some (.loop { R .ready none with state := .busy }) := by rw [← hWb]; exact World.putObj_heap_same hlta
      have hkb : Wb.heap[w.heap.size]? = some (.deferred (some [])) := (hgb.block _ (Array.getElem?_eq_some_iff.1 hkka).1 (by simp)).trans hkka
      have hJb : J () Wb := hJ () Wa Wb _ hJa hgb (fun r e => by cases e; exact ⟨by omega, .inl ⟨_, hla, rfl⟩⟩)
      refine wpIn_mono (hbody Wb hJb (by have := hgb.size; have := hka.size; omega) ⟨oA, (hgb.block A (by have := hka.size; omega) (by simp; omega)).trans (hka.own oA hoA), hkA⟩) ?_
      have fin : ∀ (jump : Option Code) (W3 : World), Kept w.heap.size sb A Wb W3 →
          W3.heap[w.heap.size + 1]? = some (.loop { R .ready none with state := .busy }) ∧
          (Instr.endRound (w.heap.size + 1) jump).run P W3 = .ok (.bool jump.isNone) (W3.putObj (w.heap.size + 1) (.loop (R (if jump.isNone then .ready else .done) jump))) ∧
          (W3.putObj (w.heap.size + 1) (.loop (R (if jump.isNone then .ready else .done) jump))).heap[w.heap.size + 1]? = some (.loop (R (if jump.isNone then .ready else .done) jump)) ∧
          (W3.putObj (w.heap.size + 1) (.loop (R (if jump.isNone then .ready else .done) jump))).heap[w.heap.size]? = some (.deferred (some [])) ∧
          ∀ k o, k ≠ w.heap.size + 1 → Wb.heap[k]? = some o → W3.heap[k]? = some o → (W3.putObj (w.heap.size + 1) (.loop (R (if jump.isNone then .ready else .done) jump))).heap[k]? = some o := fun jump W3 hk3 => by
        have hl3 := hk3.other _ _ (by omega) hlb rfl
        have hend := run_endRound (P := P) jump hl3
        refine ⟨hl3, ?_, World.putObj_heap_same (Array.getElem?_eq_some_iff.1 hl3).1, (World.putObj_heap_other (by omega)).trans (hk3.other _ _ (Nat.le_refl _) hkb rfl), fun k o hne _ h3 => (World.putObj_heap_other hne).trans h3⟩
        rw [hR] at hend ⊢
        exact hend
      rintro e a3 W3 hp
      cases e with
      | normal =>
        obtain ⟨hk3, hi3⟩ := hp
        obtain ⟨hl3, hr, hl4, hk4, hoth⟩ := fin none W3 hk3
        refine ⟨_, _, hr, .inl ⟨rfl, ⟨hI.putObj _ hi3 (by omega) hl3 rfl, hl4, hk4⟩, ?_⟩⟩
        have hb : ∀ k o, k ≠ w.heap.size + 1 → Wa.heap[k]? = some o → Wb.heap[k]? = some o := fun k o hne h => (hgb.block k (Array.getElem?_eq_some_iff.1 h).1 (by simpa using hne)).trans h
        refine ⟨by have := hka.size; have := hgb.size; have := hk3.size; simp; omega, fun k o hB hk' ho => ?_, fun o ho => ?_, fun o ho => ?_⟩
        · by_cases e : k = w.heap.size + 1
          · subst e
            rw [hl] at hk'
            cases hk'
            exact hl4
          · have h1 := hb k o e (hka.other k o hB hk' ho)
            exact hoth k o e h1 (hk3.other k o hB h1 ho)
        · have h1 := hb sb o (by omega) (hka.box o ho)
          exact hoth sb o (by omega) h1 (hk3.box o h1)
        · have h1 := hb _ o (by omega) (hka.own o ho)
          exact hoth _ o (by omega) h1 (hk3.own o h1)
      | ret =>
        obtain ⟨hk3, hi3⟩ := hp
        obtain ⟨hl3, hr, hl4, hk4, _⟩ := fin (some .ret) W3 hk3
        exact ⟨_, _, hr, .inr ⟨rfl, .ret, (hIx _).putObj _ hi3 (by omega) hl3 rfl, hl4, hk4⟩⟩
      | exit id =>
        obtain ⟨hk3, hi3⟩ := hp
        obtain ⟨hl3, hr, hl4, hk4, _⟩ := fin (some (.exit id)) W3 hk3
        exact ⟨_, _, hr, .inr ⟨rfl, .exit id, (hIx _).putObj _ hi3 (by omega) hl3 rfl, hl4, hk4⟩⟩
      | goto t =>
        obtain ⟨hk3, hi3⟩ := hp
        obtain ⟨hl3, hr, hl4, hk4, _⟩ := fin (some (.goto t)) W3 hk3
        exact ⟨_, _, hr, .inr ⟨rfl, .goto t, (hIx _).putObj _ hi3 (by omega) hl3 rfl, hl4, hk4⟩⟩
      | panic ch => exact hp.elim
      | outgrown => exact hp.elim
    | ret => exact he
    | exit id => exact he
    | goto t => exact he
    | panic ch => exact he
    | outgrown => exact he
  · rintro e W2 ⟨⟨v, rfl⟩, (⟨hi, hl, hk⟩ | ⟨pre, x, post, hx, c, hi, hl, hk⟩)⟩
    · exact ⟨none, _, by have := run_endLoop (P := P) hl (by rw [hR]; simp [rec']); rw [hR] at this; rw [hR] at hl; exact this, hdone _ (hI.putObj _ hi (by omega) hl rfl) ((World.putObj_heap_other (by omega)).trans hk)⟩
    · exact ⟨some c, _, by have := run_endLoop (P := P) hl (by rw [hR]; simp [rec']); rw [hR] at this; exact this, hstop c pre x _ ⟨post, hx⟩ ((hIx c).putObj _ hi (by omega) hl rfl) ((World.putObj_heap_other (by omega)).trans hk)⟩
end Go.Proofs.YtpbebcefnkbnlabDoor
