/- The runes of a text, as rows of bytes: by the model's own decoding. -/
import Derived.Lib.MapLaws
import Derived.RangeFuncNested
import Derived.RangeFuncBound
import Derived.RangeFuncCalls
import Derived.RangeFuncLeaves
import Derived.Shelf.Abstract
import Derived.Shelf.RegionOpen
import Derived.WalkKit
import Derived.OwnWalkIn
import Derived.TacticsInMore
import Derived.LoopNIn
import Derived.LoopIn
import Derived.Maps.AppendAt
import Derived.Lib.OthersKept
import Derived.Test.YthmhcpghfbifiaaGreatDoorGE0
import Derived.BigCall
import Derived.Lib.LaidTab
import Derived.Lib.ItoaNum
import Derived.Sort.Grow
import Derived.Laws.Rows
namespace Go.Proofs.YthmhcpghfbifiaaGreatDoor

/-- A fact that the walk must not use. -/
def Hid (p : Prop) : Prop := p
theorem hide {p : Prop} (h : p) : Hid p := h
theorem Hid.out {p : Prop} (h : Hid p) : p := h

/-- How many bytes the first rune has. -/
def wd (l : List UInt8) : Nat := (Lib.decodeL l).2
/-- The first rune; -1: a broken one. -/
def rv (l : List UInt8) : Int := if (Lib.decodeL l).1 = 65533 ∧ (Lib.decodeL l).2 = 1 then -1 else ((Lib.decodeL l).1 : Int)

theorem wd_pos (l : List UInt8) : 1 ≤ wd l := Lib.decodeL_width l
theorem wd_le (l : List UInt8) (h : l ≠ []) : wd l ≤ l.length := Lib.decodeL_le l h
theorem wd_le4 (l : List UInt8) : wd l ≤ 4 := by
  unfold wd
  rw [Lib.decodeL_N]
  rcases Lib.decodeN_shape l.length (l.getD 0 0).toNat (l.getD 1 0).toNat (l.getD 2 0).toNat (l.getD 3 0).toNat with ⟨c, e⟩ | ⟨c1, c2, c3, cv, e⟩ | ⟨c1, c2, c3, c4, cv, cs, e⟩ | ⟨c1, c2, c3, c4, c5, cv, cw, e⟩ | e
  all_goals (rw [e]; dsimp only; omega)
theorem rv_lo (l : List UInt8) : -1 ≤ rv l := by
  unfold rv
  split <;> omega
theorem rv_hi (l : List UInt8) : rv l ≤ 1114111 := by
  have := Lib.decodeL_rune l
  unfold rv
  split <;> omega
theorem rv_ascii (b : UInt8) (t : List UInt8) (h : b.toNat < 128) : rv (b :: t) = (b.toNat : Int) ∧ wd (b :: t) = 1 := by
  have e : Lib.decodeL (b :: t) = (b.toNat, 1) := by
    rw [Lib.decodeL_N, Lib.decodeN_ascii _ _ _ _ _ (by simpa using h)]
    simp
  unfold rv wd
  rw [e]
  dsimp only
  refine ⟨?_, rfl⟩
  rw [if_neg (by omega)]
theorem rv_high (b : UInt8) (t : List UInt8) (h : 128 ≤ b.toNat) : rv (b :: t) = -1 ∨ 128 ≤ rv (b :: t) := by
  unfold rv
  split
  · exact .inl rfl
  · right
    rename_i hn
    rw [Lib.decodeL_N] at hn ⊢
    have k : ((b :: t).getD 0 0) = b := by simp
    rw [k] at hn ⊢
    rcases Lib.decodeN_shape (b :: t).length b.toNat ((b :: t).getD 1 0).toNat ((b :: t).getD 2 0).toNat ((b :: t).getD 3 0).toNat with ⟨c, e⟩ | ⟨c1, c2, c3, cv, e⟩ | ⟨c1, c2, c3, c4, cv, cs, e⟩ | ⟨c1, c2, c3, c4, c5, cv, cw, e⟩ | e
    all_goals (rw [e] at hn ⊢; dsimp only at hn ⊢; omega)
theorem rv_low_iff (b : UInt8) (t : List UInt8) (c : Nat) (hc : c < 128) : rv (b :: t) = (c : Int) ↔ b.toNat = c := by
  by_cases h : b.toNat < 128
  · rw [(rv_ascii b t h).1]
    omega
  · have := rv_high b t (by omega)
    omega
theorem rv_neg_wd (l : List UInt8) (h : rv l < 0) : wd l = 1 := by
  unfold rv at h
  unfold wd
  split at h
  · rename_i hc
    exact hc.2
  · omega
theorem rv_encode (l : List UInt8) (hl : l ≠ []) (h : 0 ≤ rv l) : Lib.encodeRune (rv l) = l.take (wd l) := by
  have hn : ¬ ((Lib.decodeL l).1 = 65533 ∧ (Lib.decodeL l).2 = 1) := fun hc => by
    unfold rv at h
    rw [if_pos hc] at h
    omega
  have e := Lib.encode_decode l hl hn
  unfold rv wd
  rw [if_neg hn]
  exact e

theorem pre3 (l : List UInt8) : Lib.hasPrefix l [239, 191, 189] = true ↔ 3 ≤ l.length ∧ (l.getD 0 0).toNat = 239 ∧ (l.getD 1 0).toNat = 191 ∧ (l.getD 2 0).toNat = 189 := by
  unfold Lib.hasPrefix
  match l with
  | [] => simp
  | [a] => simp [List.isPrefixOf]
  | [a, b] => simp [List.isPrefixOf]
  | a :: b :: c :: t =>
    simp only [List.isPrefixOf, Bool.and_eq_true, beq_iff_eq, and_true]
    simp only [List.length_cons, List.getD_cons_zero, List.getD_cons_succ]
    constructor
    · rintro ⟨rfl, rfl, rfl⟩
      exact ⟨by omega, rfl, rfl, rfl⟩
    · rintro ⟨_, h1, h2, h3⟩
      exact ⟨(UInt8.toNat_inj.1 (by rw [h1]; rfl)), (UInt8.toNat_inj.1 (by rw [h2]; rfl)), (UInt8.toNat_inj.1 (by rw [h3]; rfl))⟩

/-- How a broken rune is told by a text's beginning. -/
theorem rv_told (l : List UInt8) : rv l = if (Lib.decodeL l).1 = 65533 ∧ Lib.hasPrefix l [239, 191, 189] = false then -1 else ((Lib.decodeL l).1 : Int) := by
  have hp := pre3 l
  unfold rv
  have k0 := (l.getD 0 0).toNat_lt
  have k1 := (l.getD 1 0).toNat_lt
  have k2 := (l.getD 2 0).toNat_lt
  rw [Lib.decodeL_N]
  by_cases hq : Lib.hasPrefix l [239, 191, 189] = true
  · rw [hq]
    obtain ⟨hl, h0, h1, h2⟩ := hp.1 hq
    rw [h0, h1, h2]
    have e : Lib.decodeN l.length 239 191 189 (l.getD 3 0).toNat = (65533, 3) := by
      unfold Lib.decodeN
      simp
      omega
    rw [e]
    simp
  · have hf : Lib.hasPrefix l [239, 191, 189] = false := by simpa using hq
    rw [hf]
    have hn : ¬ (3 ≤ l.length ∧ (l.getD 0 0).toNat = 239 ∧ (l.getD 1 0).toNat = 191 ∧ (l.getD 2 0).toNat = 189) := fun h => hq (hp.2 h)
    rcases Lib.decodeN_shape l.length (l.getD 0 0).toNat (l.getD 1 0).toNat (l.getD 2 0).toNat (l.getD 3 0).toNat with ⟨c, e⟩ | ⟨c1, c2, c3, cv, e⟩ | ⟨c1, c2, c3, c4, cv, cs, e⟩ | ⟨c1, c2, c3, c4, c5, cv, cw, e⟩ | e
    · rw [e]; dsimp only; rw [if_neg (by omega), if_neg (by omega)]
    · rw [e]; dsimp only; rw [if_neg (by omega), if_neg (by omega)]
    · rw [e]; dsimp only; rw [if_neg (by omega), if_neg (by omega)]
    · rw [e]; dsimp only; rw [if_neg (by omega), if_neg (by omega)]
    · rw [e]; simp

/-! ### all runes -/
def ruF : Nat → List UInt8 → List (Int × Nat)
  | 0, _ => []
  | f + 1, l => if l = [] then [] else (rv l, wd l) :: ruF f (l.drop (wd l))
/-- A text's runes, each with how many bytes it has. -/
def ru (l : List UInt8) : List (Int × Nat) := ruF l.length l
theorem ruF_nil : ∀ n, ruF n [] = []
  | 0 => rfl
  | _ + 1 => by simp [ruF]
theorem ruF_fuel : ∀ (n m : Nat) (l : List UInt8), l.length ≤ n → l.length ≤ m → ruF n l = ruF m l
  | 0, m, l, hn, _ => by
    have : l = [] := List.eq_nil_of_length_eq_zero (by omega)
    subst this
    rw [ruF_nil, ruF_nil]
  | n + 1, 0, l, _, hm => by
    have : l = [] := List.eq_nil_of_length_eq_zero (by omega)
    subst this
    rw [ruF_nil, ruF_nil]
  | n + 1, m + 1, l, hn, hm => by
    by_cases hne : l = []
    · subst hne
      rw [ruF_nil, ruF_nil]
    · have hw := wd_pos l
      have hl : 0 < l.length := List.length_pos_iff.2 hne
      simp only [ruF, if_neg hne]
      rw [ruF_fuel n m _ (by rw [List.length_drop]; omega) (by rw [List.length_drop]; omega)]
theorem ru_nil : ru [] = [] := rfl
theorem ru_step (l : List UInt8) (h : l ≠ []) : ru l = (rv l, wd l) :: ru (l.drop (wd l)) := by
  have hw := wd_pos l
  have hl : 0 < l.length := List.length_pos_iff.2 h
  unfold ru
  obtain ⟨n, hn⟩ : ∃ n, l.length = n + 1 := ⟨l.length - 1, by omega⟩
  rw [hn]
  simp only [ruF, if_neg h]
  rw [ruF_fuel n _ _ (by rw [List.length_drop]; omega) (Nat.le_refl _)]
/-- One goes through a text rune by rune. -/
theorem ru_ind {C : List UInt8 → Prop} (h0 : C []) (h1 : ∀ l, l ≠ [] → C (l.drop (wd l)) → C l) : ∀ l, C l := by
  intro l
  generalize hn : l.length = n
  induction n using Nat.strongRecOn generalizing l with
  | _ n ih =>
    by_cases hl : l = []
    · subst hl
      exact h0
    · refine h1 l hl (ih _ ?_ _ rfl)
      have := wd_pos l
      have hp : 0 < l.length := List.length_pos_iff.2 hl
      rw [List.length_drop]
      omega
theorem ru_length_le : ∀ l : List UInt8, (ru l).length ≤ l.length := by
  refine ru_ind (by simp [ru_nil]) ?_
  intro l hl ih
  rw [ru_step l hl, List.length_cons]
  have := wd_pos l
  have hp : 0 < l.length := List.length_pos_iff.2 hl
  rw [List.length_drop] at ih
  omega
theorem ru_sum : ∀ l : List UInt8, ((ru l).map Prod.snd).sum = l.length := by
  refine ru_ind (by simp [ru_nil]) ?_
  intro l hl ih
  rw [ru_step l hl, List.map_cons, List.sum_cons, ih, List.length_drop]
  have := wd_le l hl
  omega

/-- A rune with its spot. -/
structure El where
  off : Nat
  line : Nat
  col : Nat
  r : Int

def elS : Nat → Nat → Nat → List (Int × Nat) → List El
  | _, _, _, [] => []
  | off, line, col, (r, k) :: t => ⟨off, line, col, r⟩ :: (if r = 10 then elS (off + k) (line + 1) 1 t else elS (off + k) line (col + 1) t)
/-- A text's runes with their spots. -/
def els (l : List UInt8) : List El := elS 0 1 1 (ru l)
theorem elS_length : ∀ (t : List (Int × Nat)) (off line col : Nat), (elS off line col t).length = t.length
  | [], _, _, _ => rfl
  | (r, k) :: t, off, line, col => by
    unfold elS
    split
    · rw [List.length_cons, elS_length t, List.length_cons]
    · rw [List.length_cons, elS_length t, List.length_cons]
theorem els_length (l : List UInt8) : (els l).length = (ru l).length := elS_length _ _ _ _
end Go.Proofs.YthmhcpghfbifiaaGreatDoor

/- A range over a function whose iterator keeps a block of cells of its own: what the iterator owes, what a round owes, and the loop's law, at the wide fence. -/
namespace Go.Proofs.YthmhcpghfbifiaaGreatDoor
open Go.RowKit

/-- What a round leaves as it was: what is no cells from B on; the block sb; the block A, the iterator's own. -/
structure Kept (B sb A : Nat) (W W' : World) : Prop where
  size : W.heap.size ≤ W'.heap.size
  other : ∀ (k : Nat) (o : Obj), B ≤ k → W.heap[k]? = some o → o.isCells = false → W'.heap[k]? = some o
  box : ∀ o : Obj, W.heap[sb]? = some o → W'.heap[sb]? = some o
  own : ∀ o : Obj, W.heap[A]? = some o → W'.heap[A]? = some o

theorem Kept.refl (B sb A : Nat) (W : World) : Kept B sb A W W := ⟨Nat.le_refl _, fun _ _ _ h _ => h, fun _ h => h, fun _ h => h⟩
theorem Kept.trans {B sb A : Nat} {X Y Z : World} (h : Kept B sb A X Y) (k : Kept B sb A Y Z) : Kept B sb A X Z :=
  ⟨Nat.le_trans h.size k.size, fun i o hB hi ho => k.other i o hB (h.other i o hB hi ho) ho, fun o ho => k.box o (h.box o ho), fun o ho => k.own o (h.own o ho)⟩
theorem Kept.grown {B sb A : Nat} {W W' : World} {row : Option Nat} (hg : W.grownBy W' row)
    (hr : ∀ r, row = some r → r ≠ sb ∧ r ≠ A ∧ (r < B ∨ ∀ o, W.heap[r]? = some o → o.isCells = true)) : Kept B sb A W W' := by
  have same : ∀ k o, W.heap[k]? = some o → some k ≠ row → W'.heap[k]? = some o := fun k o hk hne => (hg.block k (Array.getElem?_eq_some_iff.1 hk).1 hne).trans hk
  refine ⟨hg.size, fun k o hB hk ho => same k o hk fun e => ?_, fun o ho => same _ o ho fun e => (hr _ e.symm).1 rfl, fun o ho => same _ o ho fun e => (hr _ e.symm).2.1 rfl⟩
  rcases (hr _ e.symm).2.2 with h | h
  · omega
  · rw [h o hk] at ho
    cases ho
theorem Kept.alloc (B sb A : Nat) (W : World) (o : Obj) : Kept B sb A W (W.alloc o) := Kept.grown (World.grownBy_alloc W o none) (fun _ e => by cases e)

/-- A loop's invariant does not mind new blocks, nor a turn of one block from B on that is no cells or is the iterator's own. -/
def OwnB {β : Type} (B A : Nat) (KA : Obj → Prop) (I : β → World → Prop) : Prop :=
  ∀ s W W' row, I s W → W.grownBy W' row → (∀ r, row = some r → B ≤ r ∧ ((∃ o : Obj, W.heap[r]? = some o ∧ o.isCells = false) ∨ (r = A ∧ ∃ o : Obj, W.heap[r]? = some o ∧ KA o))) → I s W'
/-- The same from the iterator's side: A is the block of cells that it keeps. -/
def OwnI {β : Type} (B A : Nat) (KA : Obj → Prop) (J : β → World → Prop) : Prop :=
  ∀ s W W' row, J s W → W.grownBy W' row → (∀ r, row = some r → B + 2 ≤ r ∧ ((∃ o : Obj, W.heap[r]? = some o ∧ o.isCells = false) ∨ (r = A ∧ ∃ o : Obj, W.heap[r]? = some o ∧ KA o))) → J s W'

theorem OwnB.and {β : Type} {B A : Nat} {KA : Obj → Prop} {I I' : β → World → Prop} (h : OwnB B A KA I) (h' : OwnB B A KA I') : OwnB B A KA (fun s W => I s W ∧ I' s W) := fun s W W' row hs hg hr => ⟨h s W W' row hs.1 hg hr, h' s W W' row hs.2 hg hr⟩
theorem OwnB.alloc {β : Type} {B A : Nat} {KA : Obj → Prop} {I : β → World → Prop} (h : OwnB B A KA I) {s : β} {W : World} (o : Obj) (hs : I s W) : I s (W.alloc o) :=
  h s W _ none hs (World.grownBy_alloc W o none) (fun _ e => by cases e)
theorem OwnB.putObj {β : Type} {B A : Nat} {KA : Obj → Prop} {I : β → World → Prop} (h : OwnB B A KA I) {s : β} {W : World} {l : Nat} {o : Obj} (o' : Obj) (hs : I s W) (hB : B ≤ l) (hl : W.heap[l]? = some o) (hc : o.isCells = false) : I s (W.putObj l o') :=
  h s W _ (some l) hs (grownBy_putObj' _ _ _) (fun r e => by cases e; exact ⟨hB, .inl ⟨o, hl, hc⟩⟩)
theorem OwnB.pure {β : Type} (B A : Nat) (KA : Obj → Prop) (f : β → Prop) : OwnB B A KA (fun s _ => f s) := fun _ _ _ _ hs _ _ => hs
/-- A block that lies below B stays. -/
theorem OwnB.block {β : Type} (B A k : Nat) (KA : Obj → Prop) (hk : k < B) (f : β → Option Obj → Prop) : OwnB B A KA (fun s W => k < W.heap.size ∧ f s W.heap[k]?) := fun s W W' row hs hg hr => by
  refine ⟨Nat.lt_of_lt_of_le hs.1 hg.size, ?_⟩
  rw [hg.block k hs.1 fun e => by have := (hr _ e.symm).1; omega]
  exact hs.2
theorem OwnB.boxed {β : Type} (B A k : Nat) (KA : Obj → Prop) (hk : k < B) (t : TypeId) (f : β → Value) : OwnB B A KA (fun s W => Boxed W k t (f s)) := fun s W W' row hs hg hr =>
  hs.kept hg fun e => by have := (hr _ e.symm).1; omega
theorem OwnB.below {β : Type} {n₀ B A : Nat} {KA : Obj → Prop} {w₀ : World} (hn : n₀ ≤ w₀.heap.size) (hB : n₀ ≤ B) : OwnB B A KA (fun (_ : β) W => Below n₀ w₀ W) := fun s W W' row hs hg hr =>
  hs.grown hg (by have := hs.size; omega) (fun k e => by have := (hr k e).1; omega)

theorem grown_set (W : World) (b i : Nat) (v : Value) : W.grownBy (W.setCell ⟨b, i, none⟩ v) (some b) :=
  ⟨rfl, rfl, rfl, by simp [World.setCell], fun k _ hne => Below.heap_setCell W _ v k (fun e => hne (by rw [e]))⟩
theorem grown_iter (W : World) (k : Nat) (s : ByteArray) (p : Nat) : W.grownBy (W.iterAt k s p) (some k) :=
  ⟨rfl, rfl, rfl, by simp [World.iterAt], fun j _ hne => Lib.iterAt_other W k j s p (fun e => hne (by rw [e]))⟩
theorem OwnI.alloc {β : Type} {B A : Nat} {KA : Obj → Prop} {J : β → World → Prop} (h : OwnI B A KA J) {s : β} {W : World} (o : Obj) (hs : J s W) : J s (W.alloc o) :=
  h s W _ none hs (World.grownBy_alloc W o none) (fun _ e => by cases e)
theorem OwnI.set {β : Type} {B A : Nat} {KA : Obj → Prop} {J : β → World → Prop} (h : OwnI B A KA J) {s : β} {W : World} (hB : B + 2 ≤ A) (ha : ∃ o : Obj, W.heap[A]? = some o ∧ KA o) (i : Nat) (v : Value) (hs : J s W) : J s (W.setCell ⟨A, i, none⟩ v) :=
  h s W _ _ hs (grown_set W A i v) (fun r e => by cases e; exact ⟨hB, .inr ⟨rfl, ha⟩⟩)
theorem OwnI.iter {β : Type} {B A : Nat} {KA : Obj → Prop} {J : β → World → Prop} (h : OwnI B A KA J) {s : β} {W : World} {k : Nat} {t : ByteArray} {p : Nat} (hB : B + 2 ≤ k) (hk : W.heap[k]? = some (.stringIter t p)) (p' : Nat) (hs : J s W) : J s (W.iterAt k t p') :=
  h s W _ _ hs (grown_iter W k t p') (fun r e => by cases e; exact ⟨hB, .inl ⟨_, hk, rfl⟩⟩)

theorem heldB {B A k : Nat} {KA : Obj → Prop} {W W' : World} {row : Option Nat} {o : Obj} (h : W.heap[k]? = some o) (hc : o.isCells = true) (hk : k ≠ A) (hg : W.grownBy W' row)
    (hr : ∀ r, row = some r → B ≤ r ∧ ((∃ o : Obj, W.heap[r]? = some o ∧ o.isCells = false) ∨ (r = A ∧ ∃ o : Obj, W.heap[r]? = some o ∧ KA o))) : W'.heap[k]? = some o :=
  (hg.block k (Array.getElem?_eq_some_iff.1 h).1 fun e => by
    rcases (hr k e.symm).2 with ⟨o', ho, hn⟩ | h'
    · rw [h] at ho
      cases ho
      rw [hc] at hn
      cases hn
    · exact hk h'.1).trans h
theorem rowB_kept {B A : Nat} {KA : Obj → Prop} {W W' : World} {row : Option Nat} {base : Nat} {e : TypeId} {size : Nat} {v : Value} {k : Nat} {xs : List Value} (h : W.ownsRow base e size v k xs) (hb : A < base) (hg : W.grownBy W' row)
    (hr : ∀ r, row = some r → B ≤ r ∧ ((∃ o : Obj, W.heap[r]? = some o ∧ o.isCells = false) ∨ (r = A ∧ ∃ o : Obj, W.heap[r]? = some o ∧ KA o))) : W'.ownsRow base e size v k xs := by
  refine h.kept hg ?_
  rcases h.2 with ⟨rfl, _⟩ | ⟨g, cap, cur, rfl, hbg, hgb, _⟩
  · exact .inl rfl
  · refine .inr fun e' => ?_
    have e2 : row = some g := by simpa [Value.ownBlock] using e'.symm
    rcases (hr g e2).2 with ⟨o, ho, hn⟩ | h'
    · rw [hgb] at ho
      cases ho
      cases hn
    · have := h'.1
      omega
theorem row_ne {W : World} {b1 b2 : Nat} {e1 e2 : TypeId} {s1 s2 : Nat} {v1 v2 : Value} {k1 k2 : Nat} {x1 x2 : List Value} (h1 : W.ownsRow b1 e1 s1 v1 k1 x1) (h2 : W.ownsRow b2 e2 s2 v2 k2 x2) (hne : e1 ≠ e2) : v1.ownBlock = none ∨ v1.ownBlock ≠ v2.ownBlock := by
  rcases h1.2 with ⟨rfl, _⟩ | ⟨g, cap, cur, rfl, _, hg1, _⟩
  · exact .inl rfl
  · refine .inr fun e => ?_
    rcases h2.2 with ⟨rfl, _⟩ | ⟨g', cap', cur', rfl, _, hg2, _⟩
    · simp [Value.ownBlock] at e
    · have : g = g' := by simpa [Value.ownBlock] using e
      subst this
      rw [hg1] at hg2
      simp at hg2
      exact hne hg2.2
theorem row_base {W : World} {b b' : Nat} {e : TypeId} {size : Nat} {v : Value} {k : Nat} {xs : List Value} (h : W.ownsRow b e size v k xs) (hb : b' ≤ b) : W.ownsRow b' e size v k xs := by
  refine ⟨h.1, ?_⟩
  rcases h.2 with hn | ⟨g, cap, cur, rfl, hbg, rest⟩
  · exact .inl hn
  · exact .inr ⟨g, cap, cur, rfl, by omega, rest⟩
theorem row_slice {W : World} {b : Nat} {e : TypeId} {size : Nat} {v : Value} {k : Nat} {xs : List Value} (h : W.ownsRow b e size v k xs) : ∃ a cap, v = .slice a k cap := by
  rcases h.2 with ⟨rfl, h0⟩ | ⟨g, cap, cur, rfl, _⟩
  · exact ⟨none, 0, by rw [h0]⟩
  · exact ⟨_, _, rfl⟩
/-- The row's block: from its base on; cells. -/
theorem row_block {W : World} {b : Nat} {e : TypeId} {size : Nat} {v : Value} {k : Nat} {xs : List Value} (h : W.ownsRow b e size v k xs) : ∀ g, v.ownBlock = some g → b ≤ g ∧ ∀ o, W.heap[g]? = some o → o.isCells = true := by
  intro g hg
  rcases h.2 with ⟨rfl, _⟩ | ⟨g', cap, cur, rfl, hb, hgg, _⟩
  · simp [Value.ownBlock] at hg
  · have : g' = g := by simpa [Value.ownBlock] using hg
    subst this
    refine ⟨hb, fun o ho => ?_⟩
    rw [hgg] at ho
    cases ho
    rfl

/-- A slice in a box is grown by append: the box, the row, and what stays. -/
theorem appendStep {W w1 w0 : World} {n₀ b base : Nat} {t e : TypeId} {size : Nat} {v v' : Value} {k m : Nat} {xs ys : List Value} {tmp : Obj}
    (hv : Boxed W b t v) (hte : t ≠ e) (hrow : W.ownsRow base e size v k xs) (hown' : w1.ownsRow base e size v' m ys) (hgrow : (W.alloc tmp).grownBy w1 v.ownBlock) (hnb : n₀ ≤ b) (hnB : n₀ ≤ base) (hbel : Below n₀ w0 W) (hw0 : n₀ ≤ w0.heap.size) :
    Boxed w1 b t v ∧ Boxed (w1.setCell ⟨b, 0, none⟩ v') b t v' ∧ (w1.setCell ⟨b, 0, none⟩ v').ownsRow base e size v' m ys ∧ Below n₀ w0 (w1.setCell ⟨b, 0, none⟩ v') ∧ W.heap.size ≤ (w1.setCell ⟨b, 0, none⟩ v').heap.size ∧
      ∀ j, j < W.heap.size → j ≠ b → some j ≠ v.ownBlock → (w1.setCell ⟨b, 0, none⟩ v').heap[j]? = W.heap[j]? := by
  have hv1 : Boxed w1 b t v := (hv.alloc tmp).kept hgrow (hv.not_row hte hrow)
  have hsz := hgrow.size
  rw [World.size_alloc] at hsz
  refine ⟨hv1, hv1.set v', hown'.kept (grownBy_setCell' w1 b v') (.inr (hv1.not_row hte hown').symm), ?_, ?_, ?_⟩
  · refine ((hbel.alloc (by have := hbel.size; omega) tmp).grown hgrow (by have := hbel.size; simp; omega) fun j ej => ?_).setCell (p := ⟨b, 0, none⟩) hnb v'
    have := (row_block hrow j ej).1
    omega
  · have : (w1.setCell ⟨b, 0, none⟩ v').heap.size = w1.heap.size := by simp [World.setCell]
    omega
  · intro j hj hne hrw
    rw [Below.heap_setCell _ _ _ _ (by simpa using hne), hgrow.block j (by simp; omega) hrw, Below.heap_alloc _ _ _ hj]
/-- What such a step keeps of the iterator's. -/
theorem Kept.frame {B sb A b base : Nat} {e : TypeId} {size : Nat} {v : Value} {k : Nat} {xs : List Value} {W W' : World} (hrow : W.ownsRow base e size v k xs) (hsz : W.heap.size ≤ W'.heap.size)
    (hF : ∀ j, j < W.heap.size → j ≠ b → some j ≠ v.ownBlock → W'.heap[j]? = W.heap[j]?) (hb : b < B) (hbs : b ≠ sb) (hbA : b ≠ A) (hA : A < base) (hs : sb < base) : Kept B sb A W W' := by
  have same : ∀ j o, W.heap[j]? = some o → j ≠ b → some j ≠ v.ownBlock → W'.heap[j]? = some o := fun j o hj h1 h2 => (hF j (Array.getElem?_eq_some_iff.1 hj).1 h1 h2).trans hj
  have far : ∀ j, j < base → some j ≠ v.ownBlock := fun j hj e' => by have := (row_block hrow j e'.symm).1; omega
  refine ⟨hsz, fun j o hB hj ho => same j o hj (by omega) fun e' => ?_, fun o ho => same _ o ho (Ne.symm hbs) (far _ hs), fun o ho => same _ o ho (Ne.symm hbA) (far _ hA)⟩
  have := (row_block hrow j e'.symm).2 o hj
  rw [this] at ho
  cases ho
theorem grown_below {W W' : World} (h : Below W.heap.size W W') : W.grownBy W' none := ⟨h.os, h.tape, h.output, h.size, fun k hk _ => h.block k hk⟩
theorem row_below {W W' : World} {base : Nat} {e : TypeId} {size : Nat} {v : Value} {k : Nat} {xs : List Value} (h : W.ownsRow base e size v k xs) (hb : Below W.heap.size W W') : W'.ownsRow base e size v k xs :=
  h.kept (grown_below hb) (by cases hv : v.ownBlock <;> simp)
theorem row_frame {b : Nat} {v : Value} {W W' : World} {base : Nat} {e : TypeId} {size : Nat} {u : Value} {k : Nat} {xs : List Value} (h : W.ownsRow base e size u k xs)
    (hF : ∀ j, j < W.heap.size → j ≠ b → some j ≠ v.ownBlock → W'.heap[j]? = W.heap[j]?) (hb : b < base) (hne : u.ownBlock = none ∨ u.ownBlock ≠ v.ownBlock) : W'.ownsRow base e size u k xs := by
  refine ⟨h.1, ?_⟩
  rcases h.2 with hn | ⟨g, cap, cur, rfl, hbg, hgg, rest⟩
  · exact .inl hn
  · refine .inr ⟨g, cap, cur, rfl, hbg, ?_, rest⟩
    rw [hF g (Array.getElem?_eq_some_iff.1 hgg).1 (by omega) (by simpa [Value.ownBlock] using hne)]
    exact hgg
theorem cell_one_at (w : World) (x : Value) (t : TypeId) (N : Nat) (hN : N = w.heap.size) : ∀ j u, [x][j]? = some u → (w.alloc (.cells #[x] t)).cell? ((⟨N, 0, none⟩ : Addr).add j) = some u := by
  subst hN
  exact cell_one_new w x t
theorem cell_three_new (w : World) (x y z : Value) (t : TypeId) : ∀ j u, [x, y, z][j]? = some u → (w.alloc (.cells #[x, y, z] t)).cell? ((⟨w.heap.size, 0, none⟩ : Addr).add j) = some u := by
  intro j u hj
  match j, hj with
  | 0, hj => simp at hj; subst hj; simp [Addr.add]
  | 1, hj => simp at hj; subst hj; simp [Addr.add]
  | 2, hj => simp at hj; subst hj; simp [Addr.add]

/-- How the body of a round may be left. -/
def roundPostB {α : Type} (B sb A : Nat) (I : List α → World → Prop) (Ix : Code → List α → World → Prop) (xs : List α) (W : World) : Exit → Act → World → Prop
  | .normal, _, W' => Kept B sb A W W' ∧ I xs W'
  | .ret, _, W' => Kept B sb A W W' ∧ Ix .ret xs W'
  | .exit id, _, W' => Kept B sb A W W' ∧ Ix (.exit id) xs W'
  | .goto t, _, W' => Kept B sb A W W' ∧ Ix (.goto t) xs W'
  | .panic _, _, _ => False
  | .outgrown, _, _ => False

/-- What the iterator owes to a loop that begins in w. -/
def Seq {α : Type} (n : Nat) (P : Program) (g : Nat) (lb : Array Value) (encs : α → Array Value) (sb A : Nat) (KA : Obj → Prop) (xs : List α) (w : World) : Prop :=
  ∀ (l : Nat) (J Jx : List α → World → Prop) (W : World), W.heap.size = w.heap.size + 2 → (∀ k, k < w.heap.size → W.heap[k]? = w.heap[k]?) → OwnI w.heap.size A KA J → OwnI w.heap.size A KA Jx →
    (∀ pre x W1, J pre W1 → (∃ post, xs = pre ++ x :: post) → (∃ o : Obj, W1.heap[A]? = some o ∧ KA o) → YieldAt Fence.wide (n - 1) P l (encs x) W1 fun e W' =>
      (e = .returned (.bool true) ∧ J (pre ++ [x]) W' ∧ Kept w.heap.size sb A W1 W') ∨ (e = .returned (.bool false) ∧ Jx (pre ++ [x]) W')) →
    J [] W →
    CallsIn Fence.wide n P g (#[.func (.yield l) #[] #[]] ++ lb) W fun e W' => (∃ v, e = .returned v) ∧ (J xs W' ∨ (∃ pre x post, xs = pre ++ x :: post ∧ Jx (pre ++ [x]) W'))

theorem seq_law {α : Type} {n : Nat} {P : Program} {g : Operand} {ps : Array Tmp} {assign body : Code} {Q : Exit → Act → World → Prop} {a : Act} {w : World}
    {gf : Nat} {lb : Array Value} (hg : a.eval g = .func (.func gf) #[] lb) (eg : ∀ args w, (callFunc gf args).run P w = .ok (.enter gf args) w)
    {encs : α → Array Value} {sb A : Nat} (hsb : sb < w.heap.size) (hA : w.heap.size + 2 ≤ A) {KA : Obj → Prop} {xs : List α} (hseq : Seq (n - 1) P gf lb encs sb A KA xs w) (hps : ∀ x, (encs x).size = ps.size)
    (I : List α → World → Prop) (Ix : Code → List α → World → Prop) (hI : OwnB w.heap.size A KA I) (hIx : ∀ c, OwnB w.heap.size A KA (Ix c)) (h0 : I [] w)
    (hround : ∀ (l : Nat) (pre : List α) (x : α) (W : World), I pre W → (∃ post, xs = pre ++ x :: post) → A < W.heap.size → (∃ o : Obj, W.heap[A]? = some o ∧ KA o) →
      assign.wpIn (Fence.wide.inRound l) (n - 1 - 1) P (Exit.then (fun a₁ W₁ => Kept w.heap.size sb A W W₁ ∧ ∃ J : Unit → World → Prop, OwnB w.heap.size A KA J ∧ J () W₁ ∧
          ∀ W₂, J () W₂ → A < W₂.heap.size → (∃ o : Obj, W₂.heap[A]? = some o ∧ KA o) → body.wpIn (Fence.wide.inRound l) (n - 1 - 1) P (roundPostB w.heap.size sb A I Ix (pre ++ [x]) W₂) a₁ W₂) (fun _ _ _ => False))
        { tmps := (ps.zip (encs x)).foldl (fun t (p, v) => t.setIfInBounds p v) a.tmps, defers := [] } W)
    (hdone : ∀ (W : World), I xs W → W.heap[w.heap.size]? = some (.deferred (some [])) → Q .normal { a with defers := { target := .collected w.heap.size, args := #[] } :: a.defers } W)
    (hstop : ∀ (c : Code) (pre : List α) (x : α) (W : World), (∃ post, xs = pre ++ x :: post) → Ix c (pre ++ [x]) W → W.heap[w.heap.size]? = some (.deferred (some [])) → c.wpIn Fence.wide n P Q { a with defers := { target := .collected w.heap.size, args := #[] } :: a.defers } W) :
    (Code.rangeFunc g ps assign body).wpIn Fence.wide n P Q a w := by
  refine wpIn_rangeFunc ?_
  intro fn hfn
  let rec' : LoopState → Option Code → Loop := fun st pe => { state := st, pending := pe, fn, tmps := a.tmps, params := ps, assign, body, defers := w.heap.size }
  obtain ⟨R, hR⟩ : ∃ R : LoopState → Option Code → Loop, R = rec' := ⟨_, rfl⟩
  obtain ⟨W1, hW1⟩ : ∃ W1, (w.alloc (.deferred (some []))).alloc (.loop (R .ready none)) = W1 := ⟨_, rfl⟩
  have hs1 : W1.heap.size = w.heap.size + 2 := by rw [← hW1]; simp
  have hlow : ∀ k, k < w.heap.size → W1.heap[k]? = w.heap[k]? := fun k hk => by
    rw [← hW1]
    exact (Below.heap_alloc _ _ _ (by simp; omega)).trans (Below.heap_alloc _ _ _ hk)
  have hL1 : W1.heap[w.heap.size + 1]? = some (.loop (R .ready none)) := by
    rw [← hW1]
    have := World.alloc_heap_new (w.alloc (.deferred (some []))) (.loop (R .ready none))
    rwa [World.size_alloc] at this
  have hK1 : W1.heap[w.heap.size]? = some (.deferred (some [])) := by
    rw [← hW1]
    exact (Below.heap_alloc _ _ _ (by simp)).trans (World.alloc_heap_new w _)
  have hI1 : I [] W1 := by rw [← hW1]; exact hI.alloc _ (hI.alloc _ h0)
  refine ⟨w.heap.size + 1, [{ target := .collected w.heap.size, args := #[] }], W1, { target := .fn (.func gf) lb, args := #[.func (.yield (w.heap.size + 1)) #[] #[]] }, W1, gf,
    #[.func (.yield (w.heap.size + 1)) #[] #[]] ++ lb, W1, ?_, ?_, fun _ _ => trivial, ?_, (fun h => by cases h), ?_⟩
  · rw [← hW1, hR]
    exact run_enterLoop_outer _ _ _ _ _
  · simp only [resolve, hg]
    simp [go_sem]
  · simp [invoke, go_sem, eg]
  have low : ∀ {W W' : World} {row : Option Nat} {k : Nat} {o : Obj}, W.grownBy W' row → (∀ r, row = some r → w.heap.size + 2 ≤ r ∧ ((∃ o : Obj, W.heap[r]? = some o ∧ o.isCells = false) ∨ (r = A ∧ ∃ o : Obj, W.heap[r]? = some o ∧ KA o))) → k < w.heap.size + 2 → W.heap[k]? = some o → W'.heap[k]? = some o :=
    fun hg' hr hk ho => (hg'.block _ (Array.getElem?_eq_some_iff.1 ho).1 fun e => by have := (hr _ e.symm).1; omega).trans ho
  have up : ∀ {W : World} {row : Option Nat}, (∀ r, row = some r → w.heap.size + 2 ≤ r ∧ ((∃ o : Obj, W.heap[r]? = some o ∧ o.isCells = false) ∨ (r = A ∧ ∃ o : Obj, W.heap[r]? = some o ∧ KA o))) → ∀ r, row = some r → w.heap.size ≤ r ∧ ((∃ o : Obj, W.heap[r]? = some o ∧ o.isCells = false) ∨ (r = A ∧ ∃ o : Obj, W.heap[r]? = some o ∧ KA o)) :=
    fun hr r e => ⟨by have := (hr r e).1; omega, (hr r e).2⟩
  refine (hseq (w.heap.size + 1)
    (fun pre W => I pre W ∧ W.heap[w.heap.size + 1]? = some (.loop (R .ready none)) ∧ W.heap[w.heap.size]? = some (.deferred (some [])))
    (fun pre W => ∃ c, Ix c pre W ∧ W.heap[w.heap.size + 1]? = some (.loop (R .done (some c))) ∧ W.heap[w.heap.size]? = some (.deferred (some [])))
    W1 hs1 hlow
    (fun s X Y row hs hg' hr => ⟨hI s X Y row hs.1 hg' (up hr), low hg' hr (by omega) hs.2.1, low hg' hr (by omega) hs.2.2⟩)
    (fun s X Y row hs hg' hr => by
      obtain ⟨c, hc, hl, hk⟩ := hs
      exact ⟨c, hIx c s X Y row hc hg' (up hr), low hg' hr (by omega) hl, low hg' hr (by omega) hk⟩)
    ?_ ⟨hI1, hL1, hK1⟩).mono ?_
  · rintro pre x W ⟨hi, hl, hk⟩ hpost ⟨oA, hoA, hkA⟩
    have hAW : A < W.heap.size := (Array.getElem?_eq_some_iff.1 hoA).1
    have hlt : w.heap.size + 1 < W.heap.size := (Array.getElem?_eq_some_iff.1 hl).1
    have hy := run_yield (P := P) (args := encs x) hl (by rw [hR]; exact hps x)
    rw [hR] at hy
    refine ⟨fn, _, assign, body, hy, roundIn_of_wpIn hfn (wpIn_mono (hround _ pre x W hi hpost hAW ⟨oA, hoA, hkA⟩) ?_)⟩
    rintro e a₁ Wa he
    cases e with
    | normal =>
      obtain ⟨hka, J, hJ, hJa, hbody⟩ := he
      have hla := hka.other _ _ (by omega) hl rfl
      have hkka := hka.other _ _ (Nat.le_refl _) hk rfl
      have hlta := (Array.getElem?_eq_some_iff.1 hla).1
      refine ⟨_, run_beginRound hla (by rw [hR]), ?_⟩
      obtain ⟨Wb, hWb⟩ : ∃ Wb, Wa.putObj (w.heap.size + 1) (.loop { R .ready none with state := .busy }) = Wb := ⟨_, rfl⟩
      rw [hWb]
      have hgb : Wa.grownBy Wb (some (w.heap.size + 1)) := by rw [← hWb]; exact grownBy_putObj' _ _ _
      have hlb : Wb.heap[w.heap.size + 1]? = some (.loop { R .ready none with state := .busy }) := by rw [← hWb]; exact World.putObj_heap_same hlta
      have hkb : Wb.heap[w.heap.size]? = some (.deferred (some [])) := (hgb.block _ (Array.getElem?_eq_some_iff.1 hkka).1 (by simp)).trans hkka
      have hJb : J () Wb := hJ () Wa Wb _ hJa hgb (fun r e => by cases e; exact ⟨by omega, .inl ⟨_, hla, rfl⟩⟩)
      refine wpIn_mono (hbody Wb hJb (by have := hgb.size; have := hka.size; omega) ⟨oA, (hgb.block A (by have := hka.size; omega) (by simp; omega)).trans (hka.own oA hoA), hkA⟩) ?_
      have fin : ∀ (jump : Option Code) (W3 : World), Kept w.heap.size sb A Wb W3 →
          W3.heap[w.heap.size + 1]? = some (.loop { R .ready none with state := .busy }) ∧
          (Instr.endRound (w.heap.size + 1) jump).run P W3 = .ok (.bool jump.isNone) (W3.putObj (w.heap.size + 1) (.loop (R (if jump.isNone then .ready else .done) jump))) ∧
          (W3.putObj (w.heap.size + 1) (.loop (R (if jump.isNone then .ready else .done) jump))).heap[w.heap.size + 1]? = some (.loop (R (if jump.isNone then .ready else .done) jump)) ∧
          (W3.putObj (w.heap.size + 1) (.loop (R (if jump.isNone then .ready else .done) jump))).heap[w.heap.size]? = some (.deferred (some [])) ∧
          ∀ k o, k ≠ w.heap.size + 1 → Wb.heap[k]? = some o → W3.heap[k]? = some o → (W3.putObj (w.heap.size + 1) (.loop (R (if jump.isNone then .ready else .done) jump))).heap[k]? = some o := fun jump W3 hk3 => by
        have hl3 := hk3.other _ _ (by omega) hlb rfl
        have hend := run_endRound (P := P) jump hl3
        refine ⟨hl3, ?_, World.putObj_heap_same (Array.getElem?_eq_some_iff.1 hl3).1, (World.putObj_heap_other (by omega)).trans (hk3.other _ _ (Nat.le_refl _) hkb rfl), fun k o hne _ h3 => (World.putObj_heap_other hne).trans h3⟩
        rw [hR] at hend ⊢
        exact hend
      rintro e a3 W3 hp
      cases e with
      | normal =>
        obtain ⟨hk3, hi3⟩ := hp
        obtain ⟨hl3, hr, hl4, hk4, hoth⟩ := fin none W3 hk3
        refine ⟨_, _, hr, .inl ⟨rfl, ⟨hI.putObj _ hi3 (by omega) hl3 rfl, hl4, hk4⟩, ?_⟩⟩
        have hb : ∀ k o, k ≠ w.heap.size + 1 → Wa.heap[k]? = some o → Wb.heap[k]? = some o := fun k o hne h => (hgb.block k (Array.getElem?_eq_some_iff.1 h).1 (by simpa using hne)).trans h
        refine ⟨by have := hka.size; have := hgb.size; have := hk3.size; simp; omega, fun k o hB hk' ho => ?_, fun o ho => ?_, fun o ho => ?_⟩
        · by_cases e : k = w.heap.size + 1
          · subst e
            rw [hl] at hk'
            cases hk'
            exact hl4
          · have h1 := hb k o e (hka.other k o hB hk' ho)
            exact hoth k o e h1 (hk3.other k o hB h1 ho)
        · have h1 := hb sb o (by omega) (hka.box o ho)
          exact hoth sb o (by omega) h1 (hk3.box o h1)
        · have h1 := hb _ o (by omega) (hka.own o ho)
          exact hoth _ o (by omega) h1 (hk3.own o h1)
      | ret =>
        obtain ⟨hk3, hi3⟩ := hp
        obtain ⟨hl3, hr, hl4, hk4, _⟩ := fin (some .ret) W3 hk3
        exact ⟨_, _, hr, .inr ⟨rfl, .ret, (hIx _).putObj _ hi3 (by omega) hl3 rfl, hl4, hk4⟩⟩
      | exit id =>
        obtain ⟨hk3, hi3⟩ := hp
        obtain ⟨hl3, hr, hl4, hk4, _⟩ := fin (some (.exit id)) W3 hk3
        exact ⟨_, _, hr, .inr ⟨rfl, .exit id, (hIx _).putObj _ hi3 (by omega) hl3 rfl, hl4, hk4⟩⟩
      | goto t =>
        obtain ⟨hk3, hi3⟩ := hp
        obtain ⟨hl3, hr, hl4, hk4, _⟩ := fin (some (.goto t)) W3 hk3
        exact ⟨_, _, hr, .inr ⟨rfl, .goto t, (hIx _).putObj _ hi3 (by omega) hl3 rfl, hl4, hk4⟩⟩
      | panic ch => exact hp.elim
      | outgrown => exact hp.elim
    | ret => exact he
    | exit id => exact he
    | goto t => exact he
    | panic ch => exact he
    | outgrown => exact he
  · rintro e W2 ⟨⟨v, rfl⟩, (⟨hi, hl, hk⟩ | ⟨pre, x, post, hx, c, hi, hl, hk⟩)⟩
    · exact ⟨none, _, by have := run_endLoop (P := P) hl (by rw [hR]; simp [rec']); rw [hR] at this; rw [hR] at hl; exact this, hdone _ (hI.putObj _ hi (by omega) hl rfl) ((World.putObj_heap_other (by omega)).trans hk)⟩
    · exact ⟨some c, _, by have := run_endLoop (P := P) hl (by rw [hR]; simp [rec']); rw [hR] at this; exact this, hstop c pre x _ ⟨post, hx⟩ ((hIx c).putObj _ hi (by omega) hl rfl) ((World.putObj_heap_other (by omega)).trans hk)⟩
end Go.Proofs.YthmhcpghfbifiaaGreatDoor

/- Spots: the first one, and the one behind a rune; the iterators' makers. -/
namespace Go.Proofs.YthmhcpghfbifiaaGreatDoor
open Go.RowKit

theorem infoSpot : (Tryz.prog.info? 32).map (·.size) = some 3 := by kernel_rfl

set_option maxRecDepth 100000 in
theorem first_k (w : World) :
    Calls Tryz.prog 82 #[] w fun e w' => e = .returned (.agg #[.int .i64 0, .int .i64 1, .int .i64 1]) ∧ w.alloc (.cells #[.int .i64 0, .int .i64 1, .int .i64 1] 32) = w' := by
  go_enter Tryz.func82, Tryz.ntmps82
  go_wp2
  refine bodyPost_ret (results_cell_row rfl _ _ w.heap.size _ _ _ _ rfl (heap_alloc_new _ _) Tryz.underlying32 rfl infoSpot) rfl ?_
  exact ⟨rfl, rfl⟩

def bLine (line : Nat) (r : Int) : Nat := if r = 10 then line + 1 else line
def bCol (col : Nat) (r : Int) : Nat := if r = 10 then 1 else col + 1
theorem elS_step (off line col : Nat) (r : Int) (k : Nat) (t : List (Int × Nat)) : elS off line col ((r, k) :: t) = ⟨off, line, col, r⟩ :: elS (off + k) (bLine line r) (bCol col r) t := by
  unfold bLine bCol
  rw [elS]
  split <;> rfl

set_option maxRecDepth 100000 in
theorem behind_k (off line col : Nat) (r : Int) (w : World) (hl : line + 1 ≤ 9223372036854775807) (hc : col + 1 ≤ 9223372036854775807) :
    Calls Tryz.prog 84 #[.agg #[.int .i64 off, .int .i64 line, .int .i64 col], .int .i32 r] w fun e w' =>
      e = .returned (.agg #[.int .i64 off, .int .i64 (bLine line r), .int .i64 (bCol col r)]) ∧ ∃ o1 o2, (w.alloc o1).alloc o2 = w' := by
  unfold bLine bCol
  by_cases hr : r = 10
  · subst hr
    go_enter Tryz.func84, Tryz.ntmps84
    go_wp2
    refine bodyPost_ret (results_cell_row rfl _ _ (w.heap.size + 1) _ _ _ _ rfl (heap_alloc2_new _ _ _) Tryz.underlying32 rfl infoSpot) rfl ?_
    exact ⟨by simp, _, _, rfl⟩
  · go_enter Tryz.func84, Tryz.ntmps84
    go_wp2
    refine bodyPost_ret (results_cell_row rfl _ _ (w.heap.size + 1) _ _ _ _ rfl (heap_alloc2_new _ _ _) Tryz.underlying32 rfl infoSpot) rfl ?_
    exact ⟨by simp, _, _, rfl⟩

theorem runesMake_k (s : ByteArray) (w : World) :
    Calls Tryz.prog 83 #[.string s] w fun e w' => e = .returned (.func (.func 105) #[] #[.pointer (some ⟨w.heap.size, 0, none⟩)]) ∧ w.alloc (.cells #[.string s] 9) = w' := by
  go_enter Tryz.func83, Tryz.ntmps83
  go_wp2
  go_ret
  exact ⟨rfl, rfl⟩

theorem linesMake_k (s : ByteArray) (w : World) :
    Calls Tryz.prog 20 #[.string s] w fun e w' => e = .returned (.func (.func 41) #[] #[.pointer (some ⟨w.heap.size, 0, none⟩)]) ∧ w.alloc (.cells #[.string s] 9) = w' := by
  go_enter Tryz.func20, Tryz.ntmps20
  go_wp2
  go_ret
  exact ⟨rfl, rfl⟩

theorem runesNil (x : Array Value) (w : World) : (binOp BinOp.eql 137 (.func (.func 105) #[] x) .nilFunc).run Tryz.prog w = .ok (.bool false) w := by
  simp only [binOp, Sem.run_bind, Op.equal, Op.maxDepth]
  rw [Op.equalIn, Sem.run_bind, run_underlying Tryz.underlying137]
  rfl
theorem linesNil (x : Array Value) (w : World) : (binOp BinOp.eql 63 (.func (.func 41) #[] x) .nilFunc).run Tryz.prog w = .ok (.bool false) w := by
  simp only [binOp, Sem.run_bind, Op.equal, Op.maxDepth]
  rw [Op.equalIn, Sem.run_bind, run_underlying Tryz.underlying63]
  rfl
end Go.Proofs.YthmhcpghfbifiaaGreatDoor

/- What text.Runes goes through: each rune of the text with its spot. -/
namespace Go.Proofs.YthmhcpghfbifiaaGreatDoor
open Go.RowKit
attribute [local go_sem] Oper.semAt_some

/-- A block that holds a spot. -/
def At3 (W : World) (A : Nat) (a b c : Int) : Prop := W.heap[A]? = some (.cells #[.int .i64 a, .int .i64 b, .int .i64 c] 32 (0, 0))

theorem At3.cells {W : World} {A : Nat} {a b c : Int} (h : At3 W A a b c) : W.cell? ⟨A, 0, none⟩ = some (.int .i64 a) ∧ W.cell? ⟨A, 1, none⟩ = some (.int .i64 b) ∧ W.cell? ⟨A, 2, none⟩ = some (.int .i64 c) ∧ W.frozen? ⟨A, 0, none⟩ = false ∧ W.frozen? ⟨A, 1, none⟩ = false ∧ W.frozen? ⟨A, 2, none⟩ = false := by
  refine ⟨?_, ?_, ?_, ?_, ?_, ?_⟩ <;> simp [World.cell?, World.frozen?, show W.heap[A]? = _ from h]
theorem At3.set0 {W : World} {A : Nat} {a b c : Int} (h : At3 W A a b c) (x : Int) : At3 (W.setCell ⟨A, 0, none⟩ (.int .i64 x)) A x b c := by
  simp [At3, World.setCell, Array.getElem?_modify, show W.heap[A]? = _ from h]
theorem At3.set1 {W : World} {A : Nat} {a b c : Int} (h : At3 W A a b c) (x : Int) : At3 (W.setCell ⟨A, 1, none⟩ (.int .i64 x)) A a x c := by
  simp [At3, World.setCell, Array.getElem?_modify, show W.heap[A]? = _ from h]
theorem At3.set2 {W : World} {A : Nat} {a b c : Int} (h : At3 W A a b c) (x : Int) : At3 (W.setCell ⟨A, 2, none⟩ (.int .i64 x)) A a b x := by
  simp [At3, World.setCell, Array.getElem?_modify, show W.heap[A]? = _ from h]
theorem At3.alloc {W : World} {A : Nat} {a b c : Int} (h : At3 W A a b c) (o : Obj) : At3 (W.alloc o) A a b c :=
  (Below.heap_alloc W o A (Array.getElem?_eq_some_iff.1 h).1).trans h

/-- What the iterator's own block is: a spot's. -/
def isSpot (o : Obj) : Prop := ∃ c z, o = .cells c 32 z
theorem At3.ka {W : World} {A : Nat} {a b c : Int} (h : At3 W A a b c) : ∃ o : Obj, W.heap[A]? = some o ∧ isSpot o := ⟨_, h, _, _, rfl⟩

def elV (x : El) : Array Value := #[.agg #[.int .i64 x.off, .int .i64 x.line, .int .i64 x.col], .int .i32 x.r]

set_option maxRecDepth 100000 in
set_option maxHeartbeats 2000000 in
theorem runes_seq (n : Nat) (s : ByteArray) (hs : s.size ≤ 281474976702464) (sb : Nat) (w : World) (hsb : Boxed w sb 9 (.string s)) :
    Seq n Tryz.prog 105 #[.pointer (some ⟨sb, 0, none⟩)] elV sb (w.heap.size + 3) isSpot (els s.data.toList) w := fun l J Jx W hWs hWlow hJ hJx hY h0 => by
  have hsbW : Boxed W sb 9 (.string s) := (hWlow sb hsb.lt).trans hsb
  have hc2 : ∀ o1 o2, ((W.alloc o1).alloc o2).cell? ⟨sb, 0, none⟩ = some (.string s) := fun o1 o2 => ((hsbW.alloc o1).alloc o2).cell
  have hA : w.heap.size + 3 = W.heap.size + 1 := by omega
  rw [hA] at hJ hJx hY
  have HWs := hide hWs
  have HA := hide hA
  clear hWs hWlow hA
  have hrg := fun w' => run_range_string (P := Tryz.prog) w' 9 s Tryz.underlying9
  refine callsIn_of_wp Tryz.func105 rfl trivial ?_ rfl
  simp only [Tryz.ntmps105, List.size_toArray, List.length_cons, List.length_nil, Nat.reduceAdd, Nat.reduceSub, Array.replicate_succ, Array.replicate_zero, List.push_toArray, List.append_toArray, List.nil_append, List.cons_append]
  gi_wp2_with (refine ⟨trivial, (fun h => by cases h), ?_⟩; gi_at_call 82; refine (callsIn_wide.2 (first_k _)).mono ?_; rintro e w1 ⟨rfl, rfl⟩)
  gi_loopw [4, 5] (fun _ _ wr => ∃ (k line col : Nat) (a : Int) (pre : List El), k ≤ s.size ∧ line ≤ k + 1 ∧ col ≤ k + 1 ∧ At3 wr (W.heap.size + 1) a line col ∧ wr.heap[W.heap.size + 2]? = some (.stringIter s k) ∧ Boxed wr sb 9 (.string s) ∧ els s.data.toList = pre ++ elS k line col (ru (s.data.toList.drop k)) ∧ J pre wr)
    (fun _ _ wr => s.size - wr.iterPos (W.heap.size + 2))
  case atStart =>
    refine ⟨0, 1, 1, 0, [], Nat.zero_le _, Nat.le_refl _, Nat.le_refl _, ?_, ?_, ?_, by simp [els], ?_⟩
    · exact At3.alloc (heap_alloc2_new W _ _) _
    · have := World.iter_heap ((W.alloc (.cells #[.int .i64 0, .int .i64 1, .int .i64 1] 32)).alloc (.cells #[.int .i64 0, .int .i64 1, .int .i64 1] 32)) s 0
      simp only [World.size_alloc] at this
      exact this
    · exact ((hsbW.alloc _).alloc _).alloc _
    · exact hJ.alloc _ (hJ.alloc _ (hJ.alloc _ h0))
  case round =>
    obtain ⟨k, line, col, a, pre, hk, hline, hcol, hat, hit, hbx, hels, hJr⟩ := hrel
    have hpos : wr.iterPos (W.heap.size + 2) = k := by simp [World.iterPos, hit]
    have hsW : W.heap.size + 2 < wr.heap.size := (Array.getElem?_eq_some_iff.1 hit).1
    clear hrg
    by_cases hlt : k < s.size
    · have hne : s.data.toList.drop k ≠ [] := by
        intro e
        have := congrArg List.length e
        simp at this
        have h2 : s.data.size = s.size := rfl
        omega
      have hd := Lib.decodeL_drop s k
      have hw1 : (Utf8.decode s k).2 = wd (s.data.toList.drop k) := by rw [wd, hd]
      have hwd := wd_pos (s.data.toList.drop k)
      have hwl := wd_le _ hne
      rw [List.length_drop] at hwl
      have hlen : s.data.toList.length = s.size := by rw [Array.length_toList]; rfl
      have hnx := fun ty => Lib.run_next_any_at (P := Tryz.prog) wr (W.heap.size + 2) s k ty hit hlt
      have hru := ru_step _ hne
      rw [List.drop_drop] at hru
      have htold := rv_told (s.data.toList.drop k)
      rw [hd] at htold
      have hrlo := rv_lo (s.data.toList.drop k)
      have hrhi := rv_hi (s.data.toList.drop k)
      rw [hw1] at hnx
      rw [hru, elS_step] at hels
      have hdl : (Utf8.decode s k).1 ≤ 1114111 := by rw [← hd]; exact Lib.decodeL_rune _
      generalize (Utf8.decode s k).1 = dr at *
      generalize rv (s.data.toList.drop k) = rr at *
      generalize wd (s.data.toList.drop k) = ww at *
      have hat2 : At3 (wr.iterAt (W.heap.size + 2) s (k + ww)) (W.heap.size + 1) a line col := (Lib.iterAt_other _ _ _ _ _ (by omega)).trans hat
      obtain ⟨b0, b1, b2, g0, g1, g2⟩ := hat2.cells
      have hat3 := hat2.set0 (k : Int)
      obtain ⟨c0, c1, c2, _, _, _⟩ := hat3.cells
      have hsl := hsb.lt
      have hbx3 : Boxed ((wr.iterAt (W.heap.size + 2) s (k + ww)).setCell ⟨W.heap.size + 1, 0, none⟩ (.int .i64 k)) sb 9 (.string s) :=
        (hbx.kept (grown_iter _ _ _ _) (by have := HWs.out; simp; omega)).kept (grown_set _ _ _ _) (by have := HWs.out; simp; omega)
      have e3 := hbx3.cell
      have hit3 : ((wr.iterAt (W.heap.size + 2) s (k + ww)).setCell ⟨W.heap.size + 1, 0, none⟩ (.int .i64 k)).heap[W.heap.size + 2]? = some (.stringIter s (k + ww)) := (Below.heap_setCell _ _ _ _ (by simp)).trans (Lib.iterAt_heap wr _ s k (k + ww) hit)
      have hJ3 := hJ.set (by have := HWs.out; omega) hat2.ka 0 (.int .i64 k) (hJ.iter (by have := HWs.out; omega) hit (k + ww) hJr)
      obtain ⟨fn, tmps, assign, body, hy, hR⟩ := hY pre ⟨k, line, col, rr⟩ _ hJ3 ⟨_, hels⟩ hat3.ka
      have HL := hide hline
      have HC := hide hcol
      have HT := hide htold
      clear htold
      by_cases hd1 : dr = 65533
      · subst hd1
        by_cases hp : Lib.hasPrefix (s.data.toList.drop k) [239, 191, 189] = true
        · have hrr : rr = 65533 := by rw [HT.out, if_neg (fun h => by rw [hp] at h; exact absurd h.2 (by decide))]; rfl
          subst hrr
          have hpn : Lib.hasPrefix (List.take (s.size - k) (List.drop k s.data.toList)) [239, 191, 189] = true := by rw [List.take_of_length_le (by rw [List.length_drop, hlen]; exact Nat.le_refl _)]; exact hp
          dsimp only [elV] at hy
          gi_wp2_with (first
            | (refine ⟨trivial, (fun h => by cases h), ?_⟩; gi_at_call 106; refine (callsIn_wide.2 (Tryz.strings_HasPrefix _ _ _)).mono ?_; rintro e w' ⟨rfl, rfl⟩))
          refine ⟨(fun h => by cases h), hR.mono ?_⟩
          rintro e W4 (⟨rfl, hJ4, hk4⟩ | ⟨rfl, hJx4⟩)
          · have hat4 : At3 W4 (W.heap.size + 1) k line col := hk4.own _ hat3
            have hit4 := hk4.other _ _ (by have := HWs.out; omega) hit3 rfl
            have hbx4 : Boxed W4 sb 9 (.string s) := hk4.box _ hbx3
            obtain ⟨d0, d1, d2, f0, f1, f2⟩ := hat4.cells
            gi_wp2_with (refine ⟨trivial, (fun h => by cases h), ?_⟩; gi_at_call 84; refine (callsIn_wide.2 (behind_k k line col _ _ (by omega) (by omega))).mono ?_; rintro e w5 ⟨rfl, o1, o2, rfl⟩; have hat5 := (hat4.alloc o1).alloc o2; obtain ⟨d50, d51, d52, f50, f51, f52⟩ := hat5.cells; have hat6 := hat5.set0 (k : Int); obtain ⟨d60, d61, d62, f60, f61, f62⟩ := hat6.cells; have hat7 := hat6.set1 (bLine line 65533 : Nat); obtain ⟨d70, d71, d72, f70, f71, f72⟩ := hat7.cells; have hat8 := hat7.set2 (bCol col 65533 : Nat))
            have hb3 : W.heap.size + 2 < W4.heap.size := (Array.getElem?_eq_some_iff.1 hit4).1
            have hJ8 := hJ.set (by have := HWs.out; omega) hat7.ka 2 (.int .i64 (bCol col 65533 : Nat)) (hJ.set (by have := HWs.out; omega) hat6.ka 1 (.int .i64 (bLine line 65533 : Nat)) (hJ.set (by have := HWs.out; omega) hat5.ka 0 (.int .i64 k) (hJ.alloc o2 (hJ.alloc o1 hJ4))))
            have hit8 : (((((W4.alloc o1).alloc o2).setCell ⟨W.heap.size + 1, 0, none⟩ (.int .i64 k)).setCell ⟨W.heap.size + 1, 1, none⟩ (.int .i64 (bLine line 65533 : Nat))).setCell ⟨W.heap.size + 1, 2, none⟩ (.int .i64 (bCol col 65533 : Nat))).heap[W.heap.size + 2]? = some (.stringIter s (k + ww)) := by
              rw [Below.heap_setCell _ _ _ _ (by simp), Below.heap_setCell _ _ _ _ (by simp), Below.heap_setCell _ _ _ _ (by simp), Below.heap_alloc _ _ _ (by simp; omega), Below.heap_alloc _ _ _ (by omega)]
              exact hit4
            have hbx8 := ((((hbx4.alloc o1).alloc o2).kept (grown_set _ (W.heap.size + 1) 0 (.int .i64 k)) (by have := HWs.out; simp; omega)).kept (grown_set _ (W.heap.size + 1) 1 (.int .i64 (bLine line 65533 : Nat))) (by have := HWs.out; simp; omega)).kept (grown_set _ (W.heap.size + 1) 2 (.int .i64 (bCol col 65533 : Nat))) (by have := HWs.out; simp; omega)
            go_roundw
            case rel =>
              refine ⟨k + ww, bLine line 65533, bCol col 65533, k, pre ++ [⟨k, line, col, 65533⟩], by omega, ?_, ?_, hat8, hit8, hbx8, ?_, hJ8⟩
              · have := HL.out
                unfold bLine
                split <;> omega
              · have := HC.out
                unfold bCol
                split <;> omega
              · rw [hels]
                simp
            case measure =>
              have hp8 : ((((((W4.alloc o1).alloc o2).setCell ⟨W.heap.size + 1, 0, none⟩ (.int .i64 k)).setCell ⟨W.heap.size + 1, 1, none⟩ (.int .i64 (bLine line 65533 : Nat))).setCell ⟨W.heap.size + 1, 2, none⟩ (.int .i64 (bCol col 65533 : Nat)))).iterPos (W.heap.size + 2) = k + ww := by simp only [World.iterPos, hit8]
              rw [hp8, hpos]
              omega
          · gi_wp2
            refine bodyPost_ret (results_none rfl _ _ _) rfl ?_
            exact ⟨⟨_, rfl⟩, .inr ⟨_, _, _, hels, hJx4⟩⟩
        · have hpf : Lib.hasPrefix (s.data.toList.drop k) [239, 191, 189] = false := by simpa using hp
          have hrr : rr = -1 := by rw [HT.out, if_pos ⟨rfl, hpf⟩]
          subst hrr
          have hpn : Lib.hasPrefix (List.take (s.size - k) (List.drop k s.data.toList)) [239, 191, 189] = false := by rw [List.take_of_length_le (by rw [List.length_drop, hlen]; exact Nat.le_refl _)]; exact hpf
          dsimp only [elV] at hy
          gi_wp2_with (first
            | (refine ⟨trivial, (fun h => by cases h), ?_⟩; gi_at_call 106; refine (callsIn_wide.2 (Tryz.strings_HasPrefix _ _ _)).mono ?_; rintro e w' ⟨rfl, rfl⟩))
          refine ⟨(fun h => by cases h), hR.mono ?_⟩
          rintro e W4 (⟨rfl, hJ4, hk4⟩ | ⟨rfl, hJx4⟩)
          · have hat4 : At3 W4 (W.heap.size + 1) k line col := hk4.own _ hat3
            have hit4 := hk4.other _ _ (by have := HWs.out; omega) hit3 rfl
            have hbx4 : Boxed W4 sb 9 (.string s) := hk4.box _ hbx3
            obtain ⟨d0, d1, d2, f0, f1, f2⟩ := hat4.cells
            gi_wp2_with (refine ⟨trivial, (fun h => by cases h), ?_⟩; gi_at_call 84; refine (callsIn_wide.2 (behind_k k line col _ _ (by omega) (by omega))).mono ?_; rintro e w5 ⟨rfl, o1, o2, rfl⟩; have hat5 := (hat4.alloc o1).alloc o2; obtain ⟨d50, d51, d52, f50, f51, f52⟩ := hat5.cells; have hat6 := hat5.set0 (k : Int); obtain ⟨d60, d61, d62, f60, f61, f62⟩ := hat6.cells; have hat7 := hat6.set1 (bLine line (-1) : Nat); obtain ⟨d70, d71, d72, f70, f71, f72⟩ := hat7.cells; have hat8 := hat7.set2 (bCol col (-1) : Nat))
            have hb3 : W.heap.size + 2 < W4.heap.size := (Array.getElem?_eq_some_iff.1 hit4).1
            have hJ8 := hJ.set (by have := HWs.out; omega) hat7.ka 2 (.int .i64 (bCol col (-1) : Nat)) (hJ.set (by have := HWs.out; omega) hat6.ka 1 (.int .i64 (bLine line (-1) : Nat)) (hJ.set (by have := HWs.out; omega) hat5.ka 0 (.int .i64 k) (hJ.alloc o2 (hJ.alloc o1 hJ4))))
            have hit8 : (((((W4.alloc o1).alloc o2).setCell ⟨W.heap.size + 1, 0, none⟩ (.int .i64 k)).setCell ⟨W.heap.size + 1, 1, none⟩ (.int .i64 (bLine line (-1) : Nat))).setCell ⟨W.heap.size + 1, 2, none⟩ (.int .i64 (bCol col (-1) : Nat))).heap[W.heap.size + 2]? = some (.stringIter s (k + ww)) := by
              rw [Below.heap_setCell _ _ _ _ (by simp), Below.heap_setCell _ _ _ _ (by simp), Below.heap_setCell _ _ _ _ (by simp), Below.heap_alloc _ _ _ (by simp; omega), Below.heap_alloc _ _ _ (by omega)]
              exact hit4
            have hbx8 := ((((hbx4.alloc o1).alloc o2).kept (grown_set _ (W.heap.size + 1) 0 (.int .i64 k)) (by have := HWs.out; simp; omega)).kept (grown_set _ (W.heap.size + 1) 1 (.int .i64 (bLine line (-1) : Nat))) (by have := HWs.out; simp; omega)).kept (grown_set _ (W.heap.size + 1) 2 (.int .i64 (bCol col (-1) : Nat))) (by have := HWs.out; simp; omega)
            go_roundw
            case rel =>
              refine ⟨k + ww, bLine line (-1), bCol col (-1), k, pre ++ [⟨k, line, col, (-1)⟩], by omega, ?_, ?_, hat8, hit8, hbx8, ?_, hJ8⟩
              · have := HL.out
                unfold bLine
                split <;> omega
              · have := HC.out
                unfold bCol
                split <;> omega
              · rw [hels]
                simp
            case measure =>
              have hp8 : ((((((W4.alloc o1).alloc o2).setCell ⟨W.heap.size + 1, 0, none⟩ (.int .i64 k)).setCell ⟨W.heap.size + 1, 1, none⟩ (.int .i64 (bLine line (-1) : Nat))).setCell ⟨W.heap.size + 1, 2, none⟩ (.int .i64 (bCol col (-1) : Nat)))).iterPos (W.heap.size + 2) = k + ww := by simp only [World.iterPos, hit8]
              rw [hp8, hpos]
              omega
          · gi_wp2
            refine bodyPost_ret (results_none rfl _ _ _) rfl ?_
            exact ⟨⟨_, rfl⟩, .inr ⟨_, _, _, hels, hJx4⟩⟩
      · have hrr : rr = (dr : Int) := by rw [HT.out, if_neg (fun h => hd1 h.1)]
        subst hrr
        dsimp only [elV] at hy
        gi_wp2_with (first
          | (refine ⟨trivial, (fun h => by cases h), ?_⟩; gi_at_call 106; refine (callsIn_wide.2 (Tryz.strings_HasPrefix _ _ _)).mono ?_; rintro e w' ⟨rfl, rfl⟩))
        refine ⟨trivial, ?_⟩
        gi_wp2
        refine ⟨(fun h => by cases h), hR.mono ?_⟩
        rintro e W4 (⟨rfl, hJ4, hk4⟩ | ⟨rfl, hJx4⟩)
        · have hat4 : At3 W4 (W.heap.size + 1) k line col := hk4.own _ hat3
          have hit4 := hk4.other _ _ (by have := HWs.out; omega) hit3 rfl
          have hbx4 : Boxed W4 sb 9 (.string s) := hk4.box _ hbx3
          obtain ⟨d0, d1, d2, f0, f1, f2⟩ := hat4.cells
          gi_wp2_with (refine ⟨trivial, (fun h => by cases h), ?_⟩; gi_at_call 84; refine (callsIn_wide.2 (behind_k k line col _ _ (by omega) (by omega))).mono ?_; rintro e w5 ⟨rfl, o1, o2, rfl⟩; have hat5 := (hat4.alloc o1).alloc o2; obtain ⟨d50, d51, d52, f50, f51, f52⟩ := hat5.cells; have hat6 := hat5.set0 (k : Int); obtain ⟨d60, d61, d62, f60, f61, f62⟩ := hat6.cells; have hat7 := hat6.set1 (bLine line dr : Nat); obtain ⟨d70, d71, d72, f70, f71, f72⟩ := hat7.cells; have hat8 := hat7.set2 (bCol col dr : Nat))
          have hb3 : W.heap.size + 2 < W4.heap.size := (Array.getElem?_eq_some_iff.1 hit4).1
          have hJ8 := hJ.set (by have := HWs.out; omega) hat7.ka 2 (.int .i64 (bCol col dr : Nat)) (hJ.set (by have := HWs.out; omega) hat6.ka 1 (.int .i64 (bLine line dr : Nat)) (hJ.set (by have := HWs.out; omega) hat5.ka 0 (.int .i64 k) (hJ.alloc o2 (hJ.alloc o1 hJ4))))
          have hit8 : (((((W4.alloc o1).alloc o2).setCell ⟨W.heap.size + 1, 0, none⟩ (.int .i64 k)).setCell ⟨W.heap.size + 1, 1, none⟩ (.int .i64 (bLine line dr : Nat))).setCell ⟨W.heap.size + 1, 2, none⟩ (.int .i64 (bCol col dr : Nat))).heap[W.heap.size + 2]? = some (.stringIter s (k + ww)) := by
            rw [Below.heap_setCell _ _ _ _ (by simp), Below.heap_setCell _ _ _ _ (by simp), Below.heap_setCell _ _ _ _ (by simp), Below.heap_alloc _ _ _ (by simp; omega), Below.heap_alloc _ _ _ (by omega)]
            exact hit4
          have hbx8 := ((((hbx4.alloc o1).alloc o2).kept (grown_set _ (W.heap.size + 1) 0 (.int .i64 k)) (by have := HWs.out; simp; omega)).kept (grown_set _ (W.heap.size + 1) 1 (.int .i64 (bLine line dr : Nat))) (by have := HWs.out; simp; omega)).kept (grown_set _ (W.heap.size + 1) 2 (.int .i64 (bCol col dr : Nat))) (by have := HWs.out; simp; omega)
          go_roundw
          case rel =>
            refine ⟨k + ww, bLine line dr, bCol col dr, k, pre ++ [⟨k, line, col, dr⟩], by omega, ?_, ?_, hat8, hit8, hbx8, ?_, hJ8⟩
            · have := HL.out
              unfold bLine
              split <;> omega
            · have := HC.out
              unfold bCol
              split <;> omega
            · rw [hels]
              simp
          case measure =>
            have hp8 : ((((((W4.alloc o1).alloc o2).setCell ⟨W.heap.size + 1, 0, none⟩ (.int .i64 k)).setCell ⟨W.heap.size + 1, 1, none⟩ (.int .i64 (bLine line dr : Nat))).setCell ⟨W.heap.size + 1, 2, none⟩ (.int .i64 (bCol col dr : Nat)))).iterPos (W.heap.size + 2) = k + ww := by simp only [World.iterPos, hit8]
            rw [hp8, hpos]
            omega
        · gi_wp2
          refine bodyPost_ret (results_none rfl _ _ _) rfl ?_
          exact ⟨⟨_, rfl⟩, .inr ⟨_, _, _, hels, hJx4⟩⟩
    · have hnx := fun ty => Lib.run_next_end_at (P := Tryz.prog) wr (W.heap.size + 2) s k ty hit hlt
      have hke : k = s.size := by omega
      have hdn : s.data.toList.drop k = [] := List.drop_eq_nil_of_le (by rw [Array.length_toList, hke]; exact Nat.le_refl _)
      rw [hdn, ru_nil, elS, List.append_nil] at hels
      gi_wp2
      go_end0
      exact ⟨⟨_, rfl⟩, .inl (by rw [hels]; exact hJr)⟩
end Go.Proofs.YthmhcpghfbifiaaGreatDoor

/- The lists that the statements make of what Runes gives. -/
namespace Go.Proofs.YthmhcpghfbifiaaGreatDoor
open Go.RowKit
attribute [local go_sem] Oper.semAt_some

theorem infoSpot3 : (Tryz.prog.info? 32).map (fun i => (i.zero, i.size, i.bytes)) = some (some (.agg #[.int .i64 0, .int .i64 0, .int .i64 0]), 3, 24) := by kernel_rfl
theorem infoRune : (Tryz.prog.info? 21).map (fun i => (i.zero, i.size, i.bytes)) = some (some (.int .i32 0), 1, 4) := by kernel_rfl

def spotCells (l : List El) : List Value := l.flatMap fun x => [.int .i64 x.off, .int .i64 x.line, .int .i64 x.col]
def runeVals (l : List El) : List Value := l.map fun x => .int .i32 x.r
theorem spotCells_snoc (l : List El) (x : El) : spotCells (l ++ [x]) = spotCells l ++ [.int .i64 x.off, .int .i64 x.line, .int .i64 x.col] := by simp [spotCells]
theorem runeVals_snoc (l : List El) (x : El) : runeVals (l ++ [x]) = runeVals l ++ [.int .i32 x.r] := by simp [runeVals]

/-- What the two lists hold. -/
def Coll (base : Nat) (l : List El) (va vb : Value) (W : World) : Prop := W.ownsRow base 32 3 va l.length (spotCells l) ∧ W.ownsRow base 21 1 vb l.length (runeVals l)

end Go.Proofs.YthmhcpghfbifiaaGreatDoor

/- What text.Lines goes through: the text cut at each byte 10. -/
namespace Go.Proofs.YthmhcpghfbifiaaGreatDoor
open Go.RowKit
attribute [local go_sem] Oper.semAt_some

/-- Lines, cur being what the line under way has so far. -/
def lns (cur : List UInt8) : List UInt8 → List (List UInt8)
  | [] => if cur = [] then [] else [cur]
  | b :: t => if b = 10 then cur :: lns [] t else lns (cur ++ [b]) t

theorem lns_skip : ∀ (m : List UInt8) (cur t : List UInt8), (∀ b ∈ m, b ≠ 10) → lns cur (m ++ t) = lns (cur ++ m) t
  | [], cur, t, _ => by simp
  | b :: m, cur, t, h => by
    rw [List.cons_append, lns, if_neg (h b (by simp)), lns_skip m _ t (fun c hc => h c (by simp [hc]))]
    simp

theorem take_no10 (l : List UInt8) (hl : l ≠ []) (h : rv l ≠ 10) : ∀ b ∈ l.take (wd l), b ≠ 10 := by
  intro b hb e
  subst e
  obtain ⟨c, t, rfl⟩ : ∃ c t, l = c :: t := by cases l with | nil => exact absurd rfl hl | cons c t => exact ⟨c, t, rfl⟩
  by_cases hc : c.toNat < 128
  · obtain ⟨h1, h2⟩ := rv_ascii c t hc
    rw [h2] at hb
    simp at hb
    subst hb
    exact h (by rw [h1]; rfl)
  · have hw : wd (c :: t) = (Lib.decodeL (c :: t)).2 := rfl
    rw [hw] at hb
    rw [Lib.decodeL_N] at hb
    have k0 : ((c :: t).getD 0 0) = c := by simp
    rw [k0] at hb
    rcases Lib.decodeN_shape (c :: t).length c.toNat ((c :: t).getD 1 0).toNat ((c :: t).getD 2 0).toNat ((c :: t).getD 3 0).toNat with ⟨g, e⟩ | ⟨c1, c2, c3, cv, e⟩ | ⟨c1, c2, c3, c4, cv, cs, e⟩ | ⟨c1, c2, c3, c4, c5, cv, cw, e⟩ | e
    · omega
    · rw [e] at hb
      dsimp only at hb
      rw [Lib.takeB _ c2] at hb
      simp only [List.mem_cons, List.not_mem_nil, or_false, k0] at hb
      rcases hb with e | e
      · rw [← e] at hc; exact hc (by decide)
      · rw [← e] at c3; exact absurd c3 (by decide)
    · rw [e] at hb
      dsimp only at hb
      rw [Lib.takeC _ c2] at hb
      simp only [List.mem_cons, List.not_mem_nil, or_false, k0] at hb
      rcases hb with e | e | e
      · rw [← e] at hc; exact hc (by decide)
      · rw [← e] at c3; exact absurd c3 (by decide)
      · rw [← e] at c4; exact absurd c4 (by decide)
    · rw [e] at hb
      dsimp only at hb
      rw [Lib.takeD _ c2] at hb
      simp only [List.mem_cons, List.not_mem_nil, or_false, k0] at hb
      rcases hb with e | e | e | e
      · rw [← e] at hc; exact hc (by decide)
      · rw [← e] at c3; exact absurd c3 (by decide)
      · rw [← e] at c4; exact absurd c4 (by decide)
      · rw [← e] at c5; exact absurd c5 (by decide)
    · rw [e] at hb
      dsimp only at hb
      simp at hb
      rw [← hb] at hc
      exact hc (by decide)

theorem lns_rune (cur l : List UInt8) (hl : l ≠ []) (h : rv l ≠ 10) : lns cur l = lns (cur ++ l.take (wd l)) (l.drop (wd l)) := by
  conv => lhs; rw [← List.take_append_drop (wd l) l]
  exact lns_skip _ _ _ (take_no10 l hl h)
theorem lns_ten (cur l : List UInt8) (hl : l ≠ []) (h : rv l = 10) : lns cur l = cur :: lns [] (l.drop (wd l)) ∧ wd l = 1 := by
  obtain ⟨c, t, rfl⟩ : ∃ c t, l = c :: t := by cases l with | nil => exact absurd rfl hl | cons c t => exact ⟨c, t, rfl⟩
  have hc := (rv_low_iff c t 10 (by decide)).1 h
  have e : c = 10 := UInt8.toNat_inj.1 (by rw [hc]; rfl)
  subst e
  have h2 := (rv_ascii 10 t (by decide)).2
  rw [h2]
  exact ⟨by simp [lns], rfl⟩
theorem lns_len : ∀ (t cur : List UInt8), (lns cur t).length ≤ t.length + 1
  | [], cur => by unfold lns; split <;> simp
  | b :: t, cur => by
    unfold lns
    split
    · have := lns_len t []
      simp
      omega
    · have := lns_len t (cur ++ [b])
      simp
      omega

/-- A text of these bytes. -/
def str (l : List UInt8) : ByteArray := ⟨l.toArray⟩
theorem str_bytes (s : ByteArray) : str s.data.toList = s := by
  unfold str
  simp
theorem bytes_str (l : List UInt8) : (str l).data.toList = l := by simp [str]
theorem extract_str (s : ByteArray) (a b : Nat) : s.extract a b = str ((s.data.toList.drop a).take (b - a)) := by
  have : (s.extract a b).data.toList = (s.data.toList.drop a).take (b - a) := by simp [List.extract_eq_take_drop]
  rw [← this, str_bytes]

/-- Lines with their numbers, from n on. -/
def numd : Nat → List (List UInt8) → List (Nat × List UInt8)
  | _, [] => []
  | n, x :: r => (n, x) :: numd (n + 1) r
def lineV (x : Nat × List UInt8) : Array Value := #[.int .i64 x.1, .string (str x.2)]
def lines (l : List UInt8) : List (Nat × List UInt8) := numd 1 (lns [] l)
theorem numd_length : ∀ (x : List (List UInt8)) (n : Nat), (numd n x).length = x.length
  | [], _ => rfl
  | _ :: r, n => by simp [numd, numd_length r (n + 1)]

set_option maxRecDepth 100000 in
set_option maxHeartbeats 2000000 in
theorem lines_seq (n : Nat) (s : ByteArray) (hs : s.size ≤ 281474976702464) (sb : Nat) (w : World) (hsb : Boxed w sb 9 (.string s)) :
    Seq n Tryz.prog 41 #[.pointer (some ⟨sb, 0, none⟩)] lineV sb (w.heap.size + 2) (fun _ => True) (lines s.data.toList) w := fun l J Jx W hWs hWlow hJ hJx hY h0 => by
  have hsbW : Boxed W sb 9 (.string s) := (hWlow sb hsb.lt).trans hsb
  have hcs := hsbW.cell
  have hlen : s.data.toList.length = s.size := by rw [Array.length_toList]; rfl
  have hA : w.heap.size + 2 = W.heap.size := by omega
  rw [hA] at hJ hJx hY
  have HWs := hide hWs
  clear hWs hWlow hA
  have hrg := fun w' => run_range_string (P := Tryz.prog) w' 9 s Tryz.underlying9
  refine callsIn_of_wp Tryz.func41 rfl trivial ?_ rfl
  simp only [Tryz.ntmps41, List.size_toArray, List.length_cons, List.length_nil, Nat.reduceAdd, Nat.reduceSub, Array.replicate_succ, Array.replicate_zero, List.push_toArray, List.append_toArray, List.nil_append, List.cons_append]
  gi_wp2
  gi_loopw [3, 4, 5, 6] (fun vn vb _ _ wr => ∃ (k b : Nat) (pre : List (Nat × List UInt8)), vn = .int .i64 ((pre.length + 1 : Nat) : Int) ∧ vb = .int .i64 (b : Int) ∧ b ≤ k ∧ k ≤ s.size ∧ pre.length ≤ k ∧ wr.heap[W.heap.size]? = some (.stringIter s k) ∧ Boxed wr sb 9 (.string s) ∧ lines s.data.toList = pre ++ numd (pre.length + 1) (lns ((s.data.toList.drop b).take (k - b)) (s.data.toList.drop k)) ∧ J pre wr)
    (fun _ _ _ _ wr => s.size - wr.iterPos W.heap.size)
  case atStart =>
    refine ⟨0, 0, [], rfl, rfl, Nat.le_refl _, Nat.zero_le _, Nat.le_refl _, World.iter_heap W s 0, hsbW.alloc _, by simp [lines], hJ.alloc _ h0⟩
  case round =>
    obtain ⟨k, b, pre, rfl, rfl, hbk, hk, hpk, hit, hbx, hels, hJr⟩ := hrel
    have hpos : wr.iterPos W.heap.size = k := by simp [World.iterPos, hit]
    have hsW : W.heap.size < wr.heap.size := (Array.getElem?_eq_some_iff.1 hit).1
    have hsl := hsb.lt
    clear hrg hcs
    by_cases hlt : k < s.size
    · have hne : s.data.toList.drop k ≠ [] := by
        intro e
        have := congrArg List.length e
        rw [List.length_drop, hlen] at this
        simp at this
        omega
      have hd := Lib.decodeL_drop s k
      have hw1 : (Utf8.decode s k).2 = wd (s.data.toList.drop k) := by rw [wd, hd]
      have hr1 : rv (s.data.toList.drop k) = 10 ↔ (Utf8.decode s k).1 = 10 := by
        unfold rv
        rw [hd]
        split <;> omega
      have hwd := wd_pos (s.data.toList.drop k)
      have hwl := wd_le _ hne
      rw [List.length_drop, hlen] at hwl
      have hnx := fun ty => Lib.run_next_any_at (P := Tryz.prog) wr W.heap.size s k ty hit hlt
      rw [hw1] at hnx
      have hbx2 : Boxed (wr.iterAt W.heap.size s (k + wd (s.data.toList.drop k))) sb 9 (.string s) := hbx.kept (grown_iter _ _ _ _) (by have := HWs.out; simp; omega)
      have hit2 := Lib.iterAt_heap wr W.heap.size s k (k + wd (s.data.toList.drop k)) hit
      have hJ2 := hJ.iter (by have := HWs.out; omega) hit (k + wd (s.data.toList.drop k)) hJr
      have c2 := hbx2.cell
      by_cases hten : rv (s.data.toList.drop k) = 10
      · obtain ⟨hl1, hl2⟩ := lns_ten ((s.data.toList.drop b).take (k - b)) _ hne hten
        rw [hl1, List.drop_drop] at hels
        rw [hl2] at hnx hbx2 hit2 hJ2 c2 hels
        rw [numd] at hels
        rw [hr1] at hten
        rw [hten] at hnx
        obtain ⟨fn, tmps, assign, body, hy, hR⟩ := hY pre _ _ hJ2 ⟨_, hels⟩ ⟨_, hit2, trivial⟩
        dsimp only [lineV] at hy
        rw [← extract_str, Int.natCast_add, Int.natCast_one] at hy
        clear hl1 hl2
        gi_wp2
        refine ⟨(fun h => by cases h), hR.mono ?_⟩
        rintro e W4 (⟨rfl, hJ4, hk4⟩ | ⟨rfl, hJx4⟩)
        · have hit4 := hk4.other _ _ (by have := HWs.out; omega) hit2 rfl
          have hbx4 : Boxed W4 sb 9 (.string s) := hk4.box _ hbx2
          gi_wp2
          go_roundw
          case rel =>
            refine ⟨k + 1, k + 1, pre ++ [(pre.length + 1, (s.data.toList.drop b).take (k - b))], ?_, ?_, Nat.le_refl _, by omega, by simp; omega, hit4, hbx4, ?_, hJ4⟩
            · simp
            · simp
            · rw [hels]
              simp
          case measure =>
            have hp4 : W4.iterPos W.heap.size = k + 1 := by simp only [World.iterPos, hit4]
            rw [hp4, hpos]
            omega
        · gi_wp2
          refine bodyPost_ret (results_none rfl _ _ _) rfl ?_
          exact ⟨⟨_, rfl⟩, .inr ⟨_, _, _, hels, hJx4⟩⟩
      · rw [lns_rune _ _ hne hten, List.drop_drop] at hels
        have hcat : (s.data.toList.drop b).take (k - b) ++ (s.data.toList.drop k).take (wd (s.data.toList.drop k)) = (s.data.toList.drop b).take (k + wd (s.data.toList.drop k) - b) := by
          have e1 : k + wd (s.data.toList.drop k) - b = (k - b) + wd (s.data.toList.drop k) := by omega
          rw [e1, List.take_add, List.drop_drop]
          congr 3
          omega
        rw [hcat] at hels
        have hten' : (Utf8.decode s k).1 ≠ 10 := fun h => hten (hr1.2 h)
        generalize (Utf8.decode s k).1 = dr at *
        generalize wd (s.data.toList.drop k) = ww at *
        have hdi : ((dr : Int) ≠ 10) := by omega
        gi_wp2
        go_roundw
        case rel => exact ⟨k + ww, b, pre, rfl, rfl, by omega, by omega, by omega, hit2, hbx2, hels, hJ2⟩
        case measure =>
          have hp4 : (wr.iterAt W.heap.size s (k + ww)).iterPos W.heap.size = k + ww := by simp only [World.iterPos, hit2]
          rw [hp4, hpos]
          omega
    · have hnx := fun ty => Lib.run_next_end_at (P := Tryz.prog) wr W.heap.size s k ty hit hlt
      have hke : k = s.size := by omega
      have hdn : s.data.toList.drop k = [] := List.drop_eq_nil_of_le (by omega)
      rw [hdn, lns] at hels
      have c2 := hbx.cell
      by_cases hb : b < s.size
      · have hne : (s.data.toList.drop b).take (k - b) ≠ [] := by
          intro e
          have := congrArg List.length e
          rw [List.length_take, List.length_drop, hlen] at this
          simp at this
          omega
        rw [if_neg hne, numd, numd] at hels
        obtain ⟨fn, tmps, assign, body, hy, hR⟩ := hY pre _ _ hJr ⟨_, hels⟩ ⟨_, hit, trivial⟩
        dsimp only [lineV] at hy
        rw [← extract_str, hke, Int.natCast_add, Int.natCast_one] at hy
        subst hke
        gi_wp2
        refine ⟨(fun h => by cases h), hR.mono ?_⟩
        rintro e W4 (⟨rfl, hJ4, hk4⟩ | ⟨rfl, hJx4⟩)
        · gi_wp2
          go_end0
          exact ⟨⟨_, rfl⟩, .inl (by rw [hels]; exact hJ4)⟩
        · gi_wp2
          go_end0
          exact ⟨⟨_, rfl⟩, .inr ⟨_, _, _, hels, hJx4⟩⟩
      · have he : (s.data.toList.drop b).take (k - b) = [] := by
          have : k - b = 0 := by omega
          rw [this]
          rfl
        rw [if_pos he, numd, List.append_nil] at hels
        gi_wp2
        go_end0
        exact ⟨⟨_, rfl⟩, .inl (by rw [hels]; exact hJr)⟩
end Go.Proofs.YthmhcpghfbifiaaGreatDoor

/- The lists that the statements make of what Lines gives. -/
namespace Go.Proofs.YthmhcpghfbifiaaGreatDoor
open Go.RowKit
attribute [local go_sem] Oper.semAt_some

theorem infoInt : (Tryz.prog.info? 3).map (fun i => (i.zero, i.size, i.bytes)) = some (some (.int .i64 0), 1, 8) := by kernel_rfl
theorem infoString : (Tryz.prog.info? 9).map (fun i => (i.zero, i.size, i.bytes)) = some (some (.string ⟨#[]⟩), 1, 16) := by kernel_rfl

def numVals (l : List (Nat × List UInt8)) : List Value := l.map fun x => .int .i64 x.1
def strVals (l : List (Nat × List UInt8)) : List Value := l.map fun x => .string (str x.2)

/-- What the two lists hold. -/
def CollL (base : Nat) (l : List (Nat × List UInt8)) (va vb : Value) (W : World) : Prop := W.ownsRow base 3 1 va l.length (numVals l) ∧ W.ownsRow base 9 1 vb l.length (strVals l)

end Go.Proofs.YthmhcpghfbifiaaGreatDoor

/- Blanks, words, widths: what they answer of every text. -/
namespace Go.Proofs.YthmhcpghfbifiaaGreatDoor
open Go.RowKit

def isBlank (r : Int) : Bool := r == 32 || r == 9 || r == 13

set_option maxRecDepth 100000 in
theorem blank_k (r : Int) (w : World) :
    Calls Tryz.prog 42 #[.int .i32 r] w fun e w' => e = .returned (.bool (isBlank r)) ∧ w = w' := by
  unfold isBlank
  by_cases h1 : r = 32
  · subst h1
    go_enter Tryz.func42, Tryz.ntmps42
    go_wp2
    go_ret
    exact ⟨rfl, rfl⟩
  · by_cases h2 : r = 9
    · subst h2
      go_enter Tryz.func42, Tryz.ntmps42
      go_wp2
      go_ret
      exact ⟨rfl, rfl⟩
    · have e1 : (r == 32) = false := by simp [h1]
      have e2 : (r == 9) = false := by simp [h2]
      go_enter Tryz.func42, Tryz.ntmps42
      go_wp2
      go_ret
      refine ⟨?_, rfl⟩
      simp [e1, e2]

theorem blank_yes (r : Int) (h : isBlank r = true) (w : World) : Calls Tryz.prog 42 #[.int .i32 r] w fun e w' => e = .returned (.bool true) ∧ w = w' := by
  have := blank_k r w
  rw [h] at this
  exact this
theorem blank_no (r : Int) (h : isBlank r = false) (w : World) : Calls Tryz.prog 42 #[.int .i32 r] w fun e w' => e = .returned (.bool false) ∧ w = w' := by
  have := blank_k r w
  rw [h] at this
  exact this

/-- The bytes ahead of the first blank. -/
def tw (l : List UInt8) : List UInt8 := l.takeWhile fun b => !(b == 32 || b == 9 || b == 13)

theorem take_low (c : UInt8) (hc : c.toNat < 128) (l : List UInt8) (hl : l ≠ []) (h : rv l ≠ (c.toNat : Int)) : ∀ b ∈ l.take (wd l), b ≠ c := by
  intro b hb e
  subst e
  obtain ⟨d, t, rfl⟩ : ∃ c t, l = c :: t := by cases l with | nil => exact absurd rfl hl | cons c t => exact ⟨c, t, rfl⟩
  by_cases hd : d.toNat < 128
  · obtain ⟨h1, h2⟩ := rv_ascii d t hd
    rw [h2] at hb
    simp at hb
    subst hb
    exact h h1
  · have hw : wd (d :: t) = (Lib.decodeL (d :: t)).2 := rfl
    rw [hw] at hb
    rw [Lib.decodeL_N] at hb
    have k0 : ((d :: t).getD 0 0) = d := by simp
    rw [k0] at hb
    rcases Lib.decodeN_shape (d :: t).length d.toNat ((d :: t).getD 1 0).toNat ((d :: t).getD 2 0).toNat ((d :: t).getD 3 0).toNat with ⟨g, e⟩ | ⟨c1, c2, c3, cv, e⟩ | ⟨c1, c2, c3, c4, cv, cs, e⟩ | ⟨c1, c2, c3, c4, c5, cv, cw, e⟩ | e
    · omega
    · rw [e] at hb
      dsimp only at hb
      rw [Lib.takeB _ c2] at hb
      simp only [List.mem_cons, List.not_mem_nil, or_false, k0] at hb
      rcases hb with e | e
      · rw [← e] at hd; omega
      · rw [← e] at c3; omega
    · rw [e] at hb
      dsimp only at hb
      rw [Lib.takeC _ c2] at hb
      simp only [List.mem_cons, List.not_mem_nil, or_false, k0] at hb
      rcases hb with e | e | e
      · rw [← e] at hd; omega
      · rw [← e] at c3; omega
      · rw [← e] at c4; omega
    · rw [e] at hb
      dsimp only at hb
      rw [Lib.takeD _ c2] at hb
      simp only [List.mem_cons, List.not_mem_nil, or_false, k0] at hb
      rcases hb with e | e | e | e
      · rw [← e] at hd; omega
      · rw [← e] at c3; omega
      · rw [← e] at c4; omega
      · rw [← e] at c5; omega
    · rw [e] at hb
      dsimp only at hb
      simp at hb
      rw [← hb] at hd
      omega

theorem tw_skip : ∀ (m t : List UInt8), (∀ b ∈ m, b ≠ 32 ∧ b ≠ 9 ∧ b ≠ 13) → tw (m ++ t) = m ++ tw t
  | [], t, _ => rfl
  | b :: m, t, h => by
    obtain ⟨h1, h2, h3⟩ := h b (by simp)
    have := tw_skip m t (fun c hc => h c (by simp [hc]))
    unfold tw at this ⊢
    rw [List.cons_append, List.takeWhile_cons_of_pos (by simp [h1, h2, h3]), this]
    rfl
theorem tw_rune (l : List UInt8) (hl : l ≠ []) (h : isBlank (rv l) = false) : tw l = l.take (wd l) ++ tw (l.drop (wd l)) := by
  unfold isBlank at h
  simp at h
  conv => lhs; rw [← List.take_append_drop (wd l) l]
  exact tw_skip _ _ fun b hb => ⟨take_low 32 (by decide) l hl h.1.1 b hb, take_low 9 (by decide) l hl h.1.2 b hb, take_low 13 (by decide) l hl h.2 b hb⟩
theorem blank_head (l : List UInt8) (hl : l ≠ []) (h : isBlank (rv l) = true) : wd l = 1 ∧ tw l = [] ∧ (rv l = 32 ∨ rv l = 9 ∨ rv l = 13) := by
  obtain ⟨d, t, rfl⟩ : ∃ c t, l = c :: t := by cases l with | nil => exact absurd rfl hl | cons c t => exact ⟨c, t, rfl⟩
  unfold isBlank at h
  simp at h
  have hh : rv (d :: t) = 32 ∨ rv (d :: t) = 9 ∨ rv (d :: t) = 13 := by omega
  have hd : d.toNat = 32 ∨ d.toNat = 9 ∨ d.toNat = 13 := by
    rcases hh with e | e | e
    · exact .inl ((rv_low_iff d t 32 (by decide)).1 e)
    · exact .inr (.inl ((rv_low_iff d t 9 (by decide)).1 e))
    · exact .inr (.inr ((rv_low_iff d t 13 (by decide)).1 e))
  refine ⟨(rv_ascii d t (by omega)).2, ?_, hh⟩
  unfold tw
  rw [List.takeWhile_cons_of_neg]
  simp
  intro a b
  rcases hd with e | e | e
  · exact absurd (UInt8.toNat_inj.1 (by rw [e]; rfl)) a
  · exact absurd (UInt8.toNat_inj.1 (by rw [e]; rfl)) b
  · exact UInt8.toNat_inj.1 (by rw [e]; rfl)

theorem rv_dec (s : ByteArray) (k : Nat) : isBlank (rv (s.data.toList.drop k)) = isBlank ((Utf8.decode s k).1 : Nat) := by
  have hd := Lib.decodeL_drop s k
  unfold rv
  rw [hd]
  split
  · rename_i h
    rw [h.1]
    rfl
  · rfl
theorem str_size (l : List UInt8) : (str l).size = l.length := by
  show l.toArray.size = l.length
  exact List.size_toArray
theorem drop_ne (s : ByteArray) (k : Nat) (h : k < s.size) : s.data.toList.drop k ≠ [] := by
  intro e
  have := congrArg List.length e
  have hlen : s.data.toList.length = s.size := by rw [Array.length_toList]; rfl
  rw [List.length_drop, hlen] at this
  simp at this
  omega
theorem drop_end (s : ByteArray) (k : Nat) (h : ¬ k < s.size) : s.data.toList.drop k = [] := List.drop_eq_nil_of_le (by have hlen : s.data.toList.length = s.size := by rw [Array.length_toList]; rfl
                                                                                                                        omega)
theorem wd_dec (s : ByteArray) (k : Nat) : (Utf8.decode s k).2 = wd (s.data.toList.drop k) := by rw [wd, Lib.decodeL_drop s k]
theorem wd_room (s : ByteArray) (k : Nat) (h : k < s.size) : k + wd (s.data.toList.drop k) ≤ s.size := by
  have := wd_le _ (drop_ne s k h)
  have hlen : s.data.toList.length = s.size := by rw [Array.length_toList]; rfl
  rw [List.length_drop, hlen] at this
  omega

set_option maxRecDepth 100000 in
set_option maxHeartbeats 1000000 in
theorem width_k (s : ByteArray) (hs : s.size ≤ 281474976702464) (w : World) :
    Calls Tryz.prog 74 #[.string s] w fun e w' => e = .returned (.int .i64 (ru s.data.toList).length) ∧ Below w.heap.size w w' := by
  have hrg := fun w' => run_range_string (P := Tryz.prog) w' 9 s Tryz.underlying9
  go_enter Tryz.func74, Tryz.ntmps74
  go_wp2
  go_loopw [3] (fun v wr => ∃ k n : Nat, v = .int .i64 (n : Int) ∧ n ≤ k ∧ k ≤ s.size ∧ n + (ru (s.data.toList.drop k)).length = (ru s.data.toList).length ∧ wr.heap[w.heap.size]? = some (.stringIter s k) ∧ Below w.heap.size w wr)
    (fun _ wr => s.size - wr.iterPos w.heap.size)
  case atStart => exact ⟨0, 0, rfl, Nat.le_refl _, Nat.zero_le _, by simp, World.iter_heap w s 0, (Below.refl _ w).alloc (Nat.le_refl _) _⟩
  case round =>
    obtain ⟨k, n, rfl, hnk, hk, hru, hit, hbel⟩ := hrel
    have hpos : wr.iterPos w.heap.size = k := by simp [World.iterPos, hit]
    clear hrg
    by_cases hlt : k < s.size
    · have hnx := fun ty => Lib.run_next_any_at (P := Tryz.prog) wr w.heap.size s k ty hit hlt
      rw [wd_dec] at hnx
      have h1 := wd_pos (s.data.toList.drop k)
      have h2 := wd_room s k hlt
      rw [ru_step _ (drop_ne s k hlt), List.drop_drop, List.length_cons] at hru
      have hit2 := Lib.iterAt_heap wr w.heap.size s k (k + wd (s.data.toList.drop k)) hit
      have hbel2 := Lib.below_iterAt hbel (k := w.heap.size) (Nat.le_refl _) s (k + wd (s.data.toList.drop k))
      generalize wd (s.data.toList.drop k) = ww at *
      go_wp2
      go_roundw
      case rel => exact ⟨k + ww, n + 1, by simp, by omega, h2, by omega, hit2, hbel2⟩
      case measure =>
        have hp : (wr.iterAt w.heap.size s (k + ww)).iterPos w.heap.size = k + ww := by simp only [World.iterPos, hit2]
        rw [hp, hpos]
        omega
    · have hnx := fun ty => Lib.run_next_end_at (P := Tryz.prog) wr w.heap.size s k ty hit hlt
      rw [drop_end s k hlt, ru_nil] at hru
      go_wp2
      go_ret
      refine ⟨?_, hbel⟩
      rw [← hru]
      simp

set_option maxRecDepth 100000 in
set_option maxHeartbeats 1000000 in
theorem untilBlank_k (s : ByteArray) (_ : s.size ≤ 281474976702464) (w : World) :
    Calls Tryz.prog 43 #[.string s] w fun e w' => e = .returned (.string (str (tw s.data.toList))) ∧ Below w.heap.size w w' := by
  have hrg := fun w' => run_range_string (P := Tryz.prog) w' 9 s Tryz.underlying9
  have hlen : s.data.toList.length = s.size := by rw [Array.length_toList]; rfl
  go_enter Tryz.func43, Tryz.ntmps43
  go_wp2
  go_loopw [3, 4] (fun _ _ wr => ∃ k : Nat, k ≤ s.size ∧ s.data.toList.take k ++ tw (s.data.toList.drop k) = tw s.data.toList ∧ wr.heap[w.heap.size]? = some (.stringIter s k) ∧ Below w.heap.size w wr)
    (fun _ _ wr => s.size - wr.iterPos w.heap.size)
  case atStart => exact ⟨0, Nat.zero_le _, by simp, World.iter_heap w s 0, (Below.refl _ w).alloc (Nat.le_refl _) _⟩
  case round =>
    obtain ⟨k, hk, htw, hit, hbel⟩ := hrel
    have hpos : wr.iterPos w.heap.size = k := by simp [World.iterPos, hit]
    clear hrg
    by_cases hlt : k < s.size
    · have hnx := fun ty => Lib.run_next_any_at (P := Tryz.prog) wr w.heap.size s k ty hit hlt
      rw [wd_dec] at hnx
      have h1 := wd_pos (s.data.toList.drop k)
      have h2 := wd_room s k hlt
      have hit2 := Lib.iterAt_heap wr w.heap.size s k (k + wd (s.data.toList.drop k)) hit
      have hbel2 := Lib.below_iterAt hbel (k := w.heap.size) (Nat.le_refl _) s (k + wd (s.data.toList.drop k))
      have hb := rv_dec s k
      cases hbl : isBlank (rv (s.data.toList.drop k)) with
      | true =>
        rw [hbl] at hb
        have htk := (blank_head _ (drop_ne s k hlt) hbl).2.1
        rw [htk, List.append_nil] at htw
        have hex : s.extract 0 k = str (tw s.data.toList) := by rw [extract_str, ← htw]; simp
        have HB := hide hb.symm
        clear hbl htk htw hb
        generalize (Utf8.decode s k).1 = dr at *
        generalize wd (s.data.toList.drop k) = ww at *
        go_wp2_with (go_at_call 42; refine (blank_yes _ HB.out _).mono ?_; rintro e w1 ⟨rfl, rfl⟩)
        go_ret
        exact ⟨rfl, hbel2⟩
      | false =>
        rw [hbl] at hb
        rw [tw_rune _ (drop_ne s k hlt) hbl, List.drop_drop, ← List.append_assoc, ← List.take_add] at htw
        have HB := hide hb.symm
        clear hbl hb
        generalize (Utf8.decode s k).1 = dr at *
        generalize wd (s.data.toList.drop k) = ww at *
        go_wp2_with (go_at_call 42; refine (blank_no _ HB.out _).mono ?_; rintro e w1 ⟨rfl, rfl⟩)
        go_roundw
        case rel => exact ⟨k + ww, h2, htw, hit2, hbel2⟩
        case measure =>
          have hp : (wr.iterAt w.heap.size s (k + ww)).iterPos w.heap.size = k + ww := by simp only [World.iterPos, hit2]
          rw [hp, hpos]
          omega
    · have hnx := fun ty => Lib.run_next_end_at (P := Tryz.prog) wr w.heap.size s k ty hit hlt
      have hks : k = s.size := by omega
      rw [drop_end s k hlt] at htw
      have h3 : str (tw s.data.toList) = s := by
        rw [← htw, List.take_of_length_le (by omega)]
        simp [tw, str]
      go_wp2
      go_ret
      refine ⟨?_, hbel⟩
      rw [h3]
      rfl
end Go.Proofs.YthmhcpghfbifiaaGreatDoor

/- What text.Words answers: the words of a line, with their places. -/
namespace Go.Proofs.YthmhcpghfbifiaaGreatDoor
open Go.RowKit

/-- A word: its text, where it begins, its column. -/
structure Wd where
  text : List UInt8
  off : Nat
  col : Nat

def wdsF : Nat → Nat → Nat → Bool → List UInt8 → List Wd
  | 0, _, _, _, _ => []
  | f + 1, off, col, ins, l =>
    if l = [] then []
    else if isBlank (rv l) then wdsF f (off + wd l) (col + 1) false (l.drop (wd l))
    else if ins then wdsF f (off + wd l) (col + 1) true (l.drop (wd l))
    else if rv l = 35 then []
    else ⟨tw l, off, col + 1⟩ :: wdsF f (off + wd l) (col + 1) true (l.drop (wd l))
theorem wdsF_nil : ∀ (n off col : Nat) (ins : Bool), wdsF n off col ins [] = []
  | 0, _, _, _ => rfl
  | _ + 1, _, _, _ => by simp [wdsF]
theorem wdsF_fuel : ∀ (n m off col : Nat) (ins : Bool) (l : List UInt8), l.length ≤ n → l.length ≤ m → wdsF n off col ins l = wdsF m off col ins l
  | 0, m, off, col, ins, l, hn, _ => by
    have : l = [] := List.eq_nil_of_length_eq_zero (by omega)
    subst this
    rw [wdsF_nil, wdsF_nil]
  | n + 1, 0, off, col, ins, l, _, hm => by
    have : l = [] := List.eq_nil_of_length_eq_zero (by omega)
    subst this
    rw [wdsF_nil, wdsF_nil]
  | n + 1, m + 1, off, col, ins, l, hn, hm => by
    by_cases hne : l = []
    · subst hne
      rw [wdsF_nil, wdsF_nil]
    · have hw := wd_pos l
      have hl : 0 < l.length := List.length_pos_iff.2 hne
      have e : ∀ b, wdsF n (off + wd l) (col + 1) b (l.drop (wd l)) = wdsF m (off + wd l) (col + 1) b (l.drop (wd l)) := fun b => wdsF_fuel n m _ _ _ _ (by rw [List.length_drop]; omega) (by rw [List.length_drop]; omega)
      simp only [wdsF, if_neg hne, e]
def wds (off col : Nat) (ins : Bool) (l : List UInt8) : List Wd := wdsF l.length off col ins l
theorem wds_step (off col : Nat) (ins : Bool) (l : List UInt8) (h : l ≠ []) :
    wds off col ins l = if isBlank (rv l) then wds (off + wd l) (col + 1) false (l.drop (wd l))
      else if ins then wds (off + wd l) (col + 1) true (l.drop (wd l))
      else if rv l = 35 then []
      else ⟨tw l, off, col + 1⟩ :: wds (off + wd l) (col + 1) true (l.drop (wd l)) := by
  have hw := wd_pos l
  have hl : 0 < l.length := List.length_pos_iff.2 h
  unfold wds
  obtain ⟨n, hn⟩ : ∃ n, l.length = n + 1 := ⟨l.length - 1, by omega⟩
  rw [hn]
  have e : ∀ b, wdsF n (off + wd l) (col + 1) b (l.drop (wd l)) = wdsF (l.drop (wd l)).length (off + wd l) (col + 1) b (l.drop (wd l)) := fun b => wdsF_fuel n _ _ _ _ _ (by rw [List.length_drop]; omega) (Nat.le_refl _)
  simp only [wdsF, if_neg h, e]
theorem wds_nil (off col : Nat) (ins : Bool) : wds off col ins [] = [] := rfl
theorem wds_len : ∀ (l : List UInt8) (off col : Nat) (ins : Bool), (wds off col ins l).length ≤ l.length := by
  refine ru_ind (fun _ _ _ => by simp [wds_nil]) ?_
  intro l hl ih off col ins
  have := wd_pos l
  have hp : 0 < l.length := List.length_pos_iff.2 hl
  have h1 := fun b => ih (off + wd l) (col + 1) b
  simp only [List.length_drop] at h1
  rw [wds_step _ _ _ _ hl]
  have h2 := h1 false
  have h3 := h1 true
  split
  · omega
  · split
    · omega
    · split
      · simp
      · rw [List.length_cons]
        omega

def wordCells (n : Int) (l : List Wd) : List Value := l.flatMap fun x => [.string (str x.text), .int .i64 x.off, .int .i64 n, .int .i64 x.col]
theorem wordCells_snoc (n : Int) (l : List Wd) (x : Wd) : wordCells n (l ++ [x]) = wordCells n l ++ [.string (str x.text), .int .i64 x.off, .int .i64 n, .int .i64 x.col] := by simp [wordCells]
theorem infoWord : (Tryz.prog.info? 93).map (fun i => (i.zero, i.size, i.bytes)) = some (some (.agg #[.string ⟨#[]⟩, .int .i64 0, .int .i64 0, .int .i64 0]), 4, 40) := by kernel_rfl
theorem cell_four_at (w : World) (x y z u : Value) (t : TypeId) (N : Nat) (hN : N = w.heap.size) : ∀ j v, [x, y, z, u][j]? = some v → (w.alloc (.cells #[x, y, z, u] t)).cell? ((⟨N, 0, none⟩ : Addr).add j) = some v := by
  subst hN
  intro j v hj
  match j, hj with
  | 0, hj => simp at hj; subst hj; simp [Addr.add]
  | 1, hj => simp at hj; subst hj; simp [Addr.add]
  | 2, hj => simp at hj; subst hj; simp [Addr.add]
  | 3, hj => simp at hj; subst hj; simp [Addr.add]

set_option maxRecDepth 100000 in
set_option maxHeartbeats 2000000 in
theorem words_k (s : ByteArray) (hs : s.size ≤ 1048576) (n : Int) (w : World) :
    Calls Tryz.prog 22 #[.string s, .int .i64 n] w fun e w' => ∃ v, e = .returned v ∧ w'.ownsRow w.heap.size 93 4 v (wds 0 0 false s.data.toList).length (wordCells n (wds 0 0 false s.data.toList)) ∧ Below w.heap.size w w' := by
  obtain ⟨i3, hi3, h30, h31, h32⟩ := info_parts infoWord
  have hrg := fun w' => run_range_string (P := Tryz.prog) w' 9 s Tryz.underlying9
  have hlen : s.data.toList.length = s.size := by rw [Array.length_toList]; rfl
  go_enter Tryz.func22, Tryz.ntmps22
  go_wp2
  go_loopw [5, 6, 7, 8, 9] (fun v vc vi _ _ wr => ∃ (k col : Nat) (ins : Bool) (pre : List Wd), vc = .int .i64 (col : Int) ∧ vi = .bool ins ∧ k ≤ s.size ∧ col ≤ k ∧ pre.length ≤ k ∧ wds 0 0 false s.data.toList = pre ++ wds k col ins (s.data.toList.drop k) ∧ wr.heap[w.heap.size]? = some (.stringIter s k) ∧ Below w.heap.size w wr ∧ wr.ownsRow (w.heap.size + 1) 93 4 v pre.length (wordCells n pre))
    (fun _ _ _ _ _ wr => s.size - wr.iterPos w.heap.size)
  case atStart => exact ⟨0, 0, false, [], rfl, rfl, Nat.zero_le _, Nat.le_refl _, Nat.le_refl _, by simp, World.iter_heap w s 0, (Below.refl _ w).alloc (Nat.le_refl _) _, World.ownsRow_nil _ _ _ _⟩
  case round =>
    obtain ⟨k, col, ins, pre, rfl, rfl, hk, hck, hpk, hwds, hit, hbel, hrow⟩ := hrel
    have hpos : wr.iterPos w.heap.size = k := by simp [World.iterPos, hit]
    have hsW : w.heap.size < wr.heap.size := (Array.getElem?_eq_some_iff.1 hit).1
    clear hrg
    obtain ⟨ao, cp, rfl⟩ := row_slice hrow
    by_cases hlt : k < s.size
    · have hnx := fun ty => Lib.run_next_any_at (P := Tryz.prog) wr w.heap.size s k ty hit hlt
      rw [wd_dec] at hnx
      have h1 := wd_pos (s.data.toList.drop k)
      have h2 := wd_room s k hlt
      have hit2 := Lib.iterAt_heap wr w.heap.size s k (k + wd (s.data.toList.drop k)) hit
      have hbel2 := Lib.below_iterAt hbel (k := w.heap.size) (Nat.le_refl _) s (k + wd (s.data.toList.drop k))
      have hrow2 : (wr.iterAt w.heap.size s (k + wd (s.data.toList.drop k))).ownsRow (w.heap.size + 1) 93 4 (.slice ao pre.length cp) pre.length (wordCells n pre) := hrow.kept (grown_iter _ _ _ _) (by
        rcases hrow.2 with ⟨e, _⟩ | ⟨g, cap, cur, e, hb, _⟩
        · rw [e]; exact .inl rfl
        · rw [e]; right; simp [Value.ownBlock]; omega)
      have hb := rv_dec s k
      have hr35 : rv (s.data.toList.drop k) = 35 ↔ ((Utf8.decode s k).1 : Int) = 35 := by
        unfold rv
        rw [Lib.decodeL_drop s k]
        split <;> omega
      rw [wds_step _ _ _ _ (drop_ne s k hlt), List.drop_drop] at hwds
      have hext : s.extract k s.size = str (s.data.toList.drop k) := by rw [extract_str, List.take_of_length_le (by rw [List.length_drop, hlen]; exact Nat.le_refl _)]
      cases hbl : isBlank (rv (s.data.toList.drop k)) with
      | true =>
        rw [hbl] at hb hwds
        rw [if_pos rfl] at hwds
        have HB := hide hb.symm
        clear hbl hb hr35
        generalize (Utf8.decode s k).1 = dr at *
        generalize wd (s.data.toList.drop k) = ww at *
        go_wp2_with (go_at_call 42; refine (blank_yes _ HB.out _).mono ?_; rintro e w1 ⟨rfl, rfl⟩)
        go_roundw
        case rel => exact ⟨k + ww, col + 1, false, pre, by simp, rfl, h2, by omega, by omega, hwds, hit2, hbel2, hrow2⟩
        case measure =>
          have hp : (wr.iterAt w.heap.size s (k + ww)).iterPos w.heap.size = k + ww := by simp only [World.iterPos, hit2]
          rw [hp, hpos]
          omega
      | false =>
        rw [hbl] at hb hwds
        rw [if_neg (by decide)] at hwds
        have HB := hide hb.symm
        clear hbl hb
        cases ins with
        | true =>
          rw [if_pos rfl] at hwds
          clear hr35
          generalize (Utf8.decode s k).1 = dr at *
          generalize wd (s.data.toList.drop k) = ww at *
          go_wp2_with (go_at_call 42; refine (blank_no _ HB.out _).mono ?_; rintro e w1 ⟨rfl, rfl⟩)
          go_roundw
          case rel => exact ⟨k + ww, col + 1, true, pre, by simp, rfl, h2, by omega, by omega, hwds, hit2, hbel2, hrow2⟩
          case measure =>
            have hp : (wr.iterAt w.heap.size s (k + ww)).iterPos w.heap.size = k + ww := by simp only [World.iterPos, hit2]
            rw [hp, hpos]
            omega
        | false =>
          rw [if_neg (by decide)] at hwds
          by_cases h35 : rv (s.data.toList.drop k) = 35
          · rw [if_pos h35, List.append_nil] at hwds
            rw [hr35] at h35
            clear hr35
            generalize (Utf8.decode s k).1 = dr at *
            generalize wd (s.data.toList.drop k) = ww at *
            have hdr : dr = 35 := by omega
            subst hdr
            clear h35
            go_wp2_with (go_at_call 42; refine (blank_no _ (by decide) _).mono ?_; rintro e w1 ⟨rfl, rfl⟩)
            go_ret
            rw [hwds]
            exact ⟨_, rfl, row_base hrow2 (by omega), hbel2⟩
          · rw [if_neg h35] at hwds
            rw [hr35] at h35
            have htwl : (tw (s.data.toList.drop k)) = tw (str (s.data.toList.drop k)).data.toList := by rw [bytes_str]
            clear hr35
            generalize (Utf8.decode s k).1 = dr at *
            generalize wd (s.data.toList.drop k) = ww at *
            have hz : (str (s.data.toList.drop k)).size ≤ 281474976702464 := by
              rw [str_size, List.length_drop, hlen]
              omega
            go_wp2_with (first
              | (go_at_call 42; refine (blank_no _ HB.out _).mono ?_; rintro e w1 ⟨rfl, rfl⟩)
              | (go_at_call 43; refine (untilBlank_k _ hz _).mono ?_; rintro e w1 ⟨rfl, hb1⟩; have hrow3 := row_below hrow2 hb1; have hsz1 := hb1.size; rw [Lib.iterAt_size] at hsz1)
              | (at_builtin; refine wpList_append_own _ rfl _ _ 66 rfl (w.heap.size + 1) 93 i3 (.agg #[.string ⟨#[]⟩, .int .i64 0, .int .i64 0, .int .i64 0]) 4 40 Tryz.underlying66 hi3 h30 h31 h32 rfl (by decide) _ _ _ rfl (hrow3.alloc _) ⟨w1.heap.size, 0, none⟩ 1 1 [.string (str (tw (str (s.data.toList.drop k)).data.toList)), .int .i64 k, .int .i64 n, .int .i64 (col + 1)] rfl rfl (cell_four_at _ _ _ _ _ _ _ rfl) (by simp [Value.oneCell']) (by unfold maxLen; omega) (by omega) (by simp; omega) ?_; intro v' w2 hown' hgrow _; obtain ⟨g', cap', rfl⟩ := ownsRow_succ hown'))
            rw [← htwl] at hown'
            have hsz2 := hgrow.size
            rw [World.size_alloc] at hsz2
            have far : some w.heap.size ≠ (Value.slice ao pre.length cp).ownBlock := fun e => by have := (row_block hrow _ e.symm).1; omega
            have hit3 : w2.heap[w.heap.size]? = some (.stringIter s (k + ww)) := by
              rw [hgrow.block _ (by simp; omega) far, Below.heap_alloc _ _ _ (by omega), hb1.block _ (by rw [Lib.iterAt_size]; omega)]
              exact hit2
            have hbel3 : Below w.heap.size w w2 := (((hbel2.trans (hb1.mono (by rw [Lib.iterAt_size]; omega))).alloc (by omega) _).grown hgrow (by simp; omega) (fun j ej => by have := (row_block hrow j ej).1; omega))
            go_roundw
            case rel =>
              refine ⟨k + ww, col + 1, true, pre ++ [⟨tw (s.data.toList.drop k), k, col + 1⟩], by simp, rfl, h2, by omega, by simp; omega, ?_, hit3, hbel3, ?_⟩
              · rw [hwds]
                simp
              · rw [wordCells_snoc, List.length_append]
                simpa using hown'
            case measure =>
              have hp : w2.iterPos w.heap.size = k + ww := by simp only [World.iterPos, hit3]
              rw [hp, hpos]
              omega
    · have hnx := fun ty => Lib.run_next_end_at (P := Tryz.prog) wr w.heap.size s k ty hit hlt
      rw [drop_end s k hlt, wds_nil, List.append_nil] at hwds
      go_wp2
      go_ret
      rw [hwds]
      exact ⟨_, rfl, row_base hrow (by omega), hbel⟩
end Go.Proofs.YthmhcpghfbifiaaGreatDoor

/- What text.Decimal and text.Number answer. -/
namespace Go.Proofs.YthmhcpghfbifiaaGreatDoor
open Go.RowKit

def wstep (n r : Int) : Int := wrap64 (wrap64 (n * 10) + (r - 48))
def raw (r : Int) : Int := if r < 0 then 65533 else r
def wv (l : List UInt8) : Int := (ru l).foldl (fun n x => wstep n (raw x.1)) 0
/-- What wrapped reckons. -/
def wrapd (l : List UInt8) : Int := if Lib.hasPrefix l [45] = true then wrap64 (-(wv (Lib.trimPrefix l [45]))) else wv (Lib.trimPrefix l [45])

set_option maxRecDepth 100000 in
set_option maxHeartbeats 1000000 in
theorem wrapped_k (s : ByteArray) (hs : s.size ≤ 281474976702464) (w : World) :
    Calls Tryz.prog 172 #[.string s] w fun e w' => e = .returned (.int .i64 (wrapd s.data.toList)) ∧ Below w.heap.size w w' := by
  obtain ⟨d, hd⟩ : ∃ d, str (Lib.trimPrefix s.data.toList [45]) = d := ⟨_, rfl⟩
  have hds : d.size ≤ s.size := by
    rw [← hd, str_size]
    have hlen : s.data.toList.length = s.size := by rw [Array.length_toList]; rfl
    unfold Lib.trimPrefix
    split
    · rw [List.length_drop]; omega
    · omega
  have hdl : d.data.toList = Lib.trimPrefix s.data.toList [45] := by rw [← hd, bytes_str]
  have hrg := fun w' => run_range_string (P := Tryz.prog) w' 9 d Tryz.underlying9
  have hct : Calls Tryz.prog 185 #[.string s, .string ⟨#[45]⟩] w fun e w' => e = .returned (.tuple #[.string d, .bool (Lib.hasPrefix s.data.toList [45])]) ∧ w = w' := by
    refine (Tryz.strings_CutPrefix s ⟨#[45]⟩ w).mono ?_
    rintro e w' ⟨rfl, rfl⟩
    refine ⟨?_, rfl⟩
    rw [← hd]
    rfl
  have hw : wrapd s.data.toList = if Lib.hasPrefix s.data.toList [45] = true then wrap64 (-(wv d.data.toList)) else wv d.data.toList := by rw [hdl]; rfl
  rw [hw]
  clear hw hdl hd
  generalize Lib.hasPrefix s.data.toList [45] = bb at *
  go_enter Tryz.func172, Tryz.ntmps172
  go_wp2_with (go_at_call 185; refine hct.mono ?_; rintro e w' ⟨rfl, rfl⟩)
  go_loopw [5, 7] (fun v _ wr => ∃ (k : Nat) (m : Int), v = .int .i64 m ∧ k ≤ d.size ∧ (ru (d.data.toList.drop k)).foldl (fun n x => wstep n (raw x.1)) m = wv d.data.toList ∧ wr.heap[w.heap.size]? = some (.stringIter d k) ∧ Below w.heap.size w wr)
    (fun _ _ wr => d.size - wr.iterPos w.heap.size)
  case atStart => exact ⟨0, 0, rfl, Nat.zero_le _, rfl, World.iter_heap w d 0, (Below.refl _ w).alloc (Nat.le_refl _) _⟩
  case round =>
    obtain ⟨k, m, rfl, hk, hfold, hit, hbel⟩ := hrel
    have hpos : wr.iterPos w.heap.size = k := by simp [World.iterPos, hit]
    clear hrg
    by_cases hlt : k < d.size
    · have hnx := fun ty => Lib.run_next_any_at (P := Tryz.prog) wr w.heap.size d k ty hit hlt
      rw [wd_dec] at hnx
      have h1 := wd_pos (d.data.toList.drop k)
      have h2 := wd_room d k hlt
      have hit2 := Lib.iterAt_heap wr w.heap.size d k (k + wd (d.data.toList.drop k)) hit
      have hbel2 := Lib.below_iterAt hbel (k := w.heap.size) (Nat.le_refl _) d (k + wd (d.data.toList.drop k))
      rw [ru_step _ (drop_ne d k hlt), List.drop_drop, List.foldl_cons] at hfold
      have hraw : raw (rv (d.data.toList.drop k)) = ((Utf8.decode d k).1 : Int) := by
        unfold rv raw
        rw [Lib.decodeL_drop d k]
        split
        · rename_i h
          rw [h.1]
          rfl
        · rw [if_neg (by omega)]
      dsimp only at hfold
      rw [hraw] at hfold
      have hdl : (Utf8.decode d k).1 ≤ 1114111 := by rw [← Lib.decodeL_drop d k]; exact Lib.decodeL_rune _
      clear hraw
      generalize (Utf8.decode d k).1 = dr at *
      generalize wd (d.data.toList.drop k) = ww at *
      go_wp2
      go_roundw
      case rel => exact ⟨k + ww, _, rfl, h2, hfold, hit2, hbel2⟩
      case measure =>
        have hp : (wr.iterAt w.heap.size d (k + ww)).iterPos w.heap.size = k + ww := by simp only [World.iterPos, hit2]
        rw [hp, hpos]
        omega
    · have hnx := fun ty => Lib.run_next_end_at (P := Tryz.prog) wr w.heap.size d k ty hit hlt
      rw [drop_end d k hlt, ru_nil] at hfold
      have hm : m = wv d.data.toList := hfold
      subst hm
      cases bb with
      | true =>
        go_wp2
        go_ret
        exact ⟨rfl, hbel⟩
      | false =>
        go_wp2
        go_ret
        exact ⟨rfl, hbel⟩

/-- The tables that the program reads, as its text lays them. -/
structure Tabs (w : World) : Prop where
  pow : ∃ t z, w.heap[2]? = some (.cells (Lib.pow10Tab.map fun z => Value.int .u64 z).toArray t z)
  lets : ∃ t z, w.heap[0]? = some (.cells #[.int .i32 65, .int .i32 90, .int .i32 95, .int .i32 95, .int .i32 97, .int .i32 122, .int .i32 192, .int .i32 214, .int .i32 216, .int .i32 246, .int .i32 248, .int .i32 591, .int .i32 913, .int .i32 929, .int .i32 931, .int .i32 969] t z)
theorem Tabs.room {w : World} (h : Tabs w) : 2 < w.heap.size ∧ 0 < w.heap.size := by
  obtain ⟨t, z, e⟩ := h.pow
  obtain ⟨t', z', e'⟩ := h.lets
  exact ⟨(Array.getElem?_eq_some_iff.1 e).1, (Array.getElem?_eq_some_iff.1 e').1⟩
theorem Tabs.keep {w w' : World} {n : Nat} (h : Tabs w) (hb : Below n w w') (hn : 2 < n ∧ 0 < n) : Tabs w' := by
  obtain ⟨t, z, e⟩ := h.pow
  obtain ⟨t', z', e'⟩ := h.lets
  exact ⟨⟨t, z, (hb.block _ hn.1).trans e⟩, ⟨t', z', (hb.block _ hn.2).trans e'⟩⟩
theorem Tabs.below {w w' : World} (h : Tabs w) (hb : Below w.heap.size w w') : Tabs w' := h.keep hb h.room
theorem gPow : Tryz.prog.globalNamed "internal/strconv.uint64pow10" = some 2 := by kernel_rfl
theorem Tabs.tab {w : World} (h : Tabs w) : Lib.TabIs Tryz.prog w "internal/strconv.uint64pow10" .u64 Lib.pow10Tab := by
  obtain ⟨t, z, e⟩ := h.pow
  unfold Lib.TabIs World.var?
  rw [gPow]
  simp only [Option.bind_some, e]
theorem below_grow (w : World) (k : Nat) (os : Array Obj) : Below w.heap.size w (Sort.grow (w.drewN k) os) := by
  have e : (w.drewN k).heap = w.heap := rfl
  refine ⟨rfl, rfl, rfl, by simp [Sort.grow], fun j hj => ?_⟩
  simp only [Sort.grow, e]
  rw [Array.getElem?_append_left hj]

set_option maxRecDepth 100000 in
theorem decimal_k (n : Int) (h0 : -9223372036854775808 ≤ n) (h1 : n ≤ 9223372036854775807) (w : World) (ht : Tabs w) :
    Calls Tryz.prog 51 #[.int .i64 n] w fun e w' => e = .returned (.string (str (Lib.itoa n))) ∧ Below w.heap.size w w' := by
  go_enter Tryz.func51, Tryz.ntmps51
  go_wp2_with (go_at_call 73; refine (Tryz.strconv_FormatInt_10 n h0 h1 _ ht.tab).mono ?_; rintro e w' ⟨rfl, k, os, rfl⟩)
  go_ret
  exact ⟨rfl, below_grow _ _ _⟩

theorem wrap_lo (x : Int) : -9223372036854775808 ≤ wrap64 x := by
  simp only [wrap64]
  omega
theorem wrap_hi (x : Int) : wrap64 x ≤ 9223372036854775807 := by
  simp only [wrap64]
  omega
theorem wv_range (l : List UInt8) : -9223372036854775808 ≤ wv l ∧ wv l ≤ 9223372036854775807 := by
  have : ∀ (t : List (Int × Nat)) (m : Int), -9223372036854775808 ≤ m ∧ m ≤ 9223372036854775807 → -9223372036854775808 ≤ t.foldl (fun n x => wstep n (raw x.1)) m ∧ t.foldl (fun n x => wstep n (raw x.1)) m ≤ 9223372036854775807 := by
    intro t
    induction t with
    | nil => intro m h; exact h
    | cons x t ih => intro m _; exact ih _ ⟨wrap_lo _, wrap_hi _⟩
  exact this (ru l) 0 (by omega)
theorem wrapd_range (l : List UInt8) : -9223372036854775808 ≤ wrapd l ∧ wrapd l ≤ 9223372036854775807 := by
  unfold wrapd
  split
  · exact ⟨wrap_lo _, wrap_hi _⟩
  · exact wv_range _

def numV (l : List UInt8) : Int := if Lib.itoa (wrapd l) = l then wrapd l else 0
def numE (l : List UInt8) : Int := if Lib.itoa (wrapd l) = l then 0 else 22

set_option maxRecDepth 100000 in
set_option maxHeartbeats 1000000 in
theorem number_k (s : ByteArray) (hs : s.size ≤ 281474976702464) (w : World) (ht : Tabs w) :
    Calls Tryz.prog 152 #[.string s] w fun e w' => e = .returned (.tuple #[.int .i64 (numV s.data.toList), .int .i64 (numE s.data.toList)]) ∧ Below w.heap.size w w' := by
  have hr := wrapd_range s.data.toList
  have hwr := wrapped_k s hs w
  unfold numV numE
  generalize wrapd s.data.toList = m at *
  have HR := hide hr
  clear hr
  by_cases he : Lib.itoa m = s.data.toList
  · have hst : str (Lib.itoa m) = s := by rw [he, str_bytes]
    rw [if_pos he, if_pos he]
    clear he
    go_enter Tryz.func152, Tryz.ntmps152
    go_wp2_with (first
      | (go_at_call 172; refine hwr.mono ?_; rintro e w1 ⟨rfl, hb1⟩)
      | (go_at_call 51; refine (decimal_k m HR.out.1 HR.out.2 _ (ht.below hb1)).mono ?_; rintro e w2 ⟨rfl, hb2⟩))
    go_ret2
    exact ⟨rfl, hb1.trans (hb2.mono hb1.size)⟩
  · have hst : ((str (Lib.itoa m)).toList == s.toList) = false := by
      rw [Lib.toList_data, Lib.toList_data, bytes_str]
      simpa using he
    rw [if_neg he, if_neg he]
    clear he
    go_enter Tryz.func152, Tryz.ntmps152
    go_wp2_with (first
      | (go_at_call 172; refine hwr.mono ?_; rintro e w1 ⟨rfl, hb1⟩)
      | (go_at_call 51; refine (decimal_k m HR.out.1 HR.out.2 _ (ht.below hb1)).mono ?_; rintro e w2 ⟨rfl, hb2⟩))
    go_ret2
    exact ⟨rfl, hb1.trans (hb2.mono hb1.size)⟩
theorem raw_dec (s : ByteArray) (k : Nat) : raw (rv (s.data.toList.drop k)) = ((Utf8.decode s k).1 : Int) := by
  unfold rv raw
  rw [Lib.decodeL_drop s k]
  split
  · rename_i h
    rw [h.1]
    rfl
  · rw [if_neg (by omega)]
theorem below_drewN (w : World) (n : Nat) : Below w.heap.size w (w.drewN n) := ⟨rfl, rfl, rfl, Nat.le_refl _, fun _ _ => rfl⟩
end Go.Proofs.YthmhcpghfbifiaaGreatDoor

/- Letters and names. -/
namespace Go.Proofs.YthmhcpghfbifiaaGreatDoor
open Go.RowKit

def letTab : Array Value := #[.int .i32 65, .int .i32 90, .int .i32 95, .int .i32 95, .int .i32 97, .int .i32 122, .int .i32 192, .int .i32 214, .int .i32 216, .int .i32 246, .int .i32 248, .int .i32 591, .int .i32 913, .int .i32 929, .int .i32 931, .int .i32 969]
def spans : List (Int × Int) := [(65, 90), (95, 95), (97, 122), (192, 214), (216, 246), (248, 591), (913, 929), (931, 969)]
def inSpan (r : Int) (p : Int × Int) : Bool := decide (p.1 ≤ r) && decide (r ≤ p.2)
def isLetter (r : Int) : Bool := spans.any (inSpan r)

theorem idxS0 (w : World) : (Instr.index 162 (.agg #[.int .i32 65, .int .i32 90, .int .i32 95, .int .i32 95, .int .i32 97, .int .i32 122, .int .i32 192, .int .i32 214, .int .i32 216, .int .i32 246, .int .i32 248, .int .i32 591, .int .i32 913, .int .i32 929, .int .i32 931, .int .i32 969]) (.int .i64 0)).run Tryz.prog w = .ok (.agg #[.int .i32 65, .int .i32 90]) w := by kernel_rfl
theorem idxS1 (w : World) : (Instr.index 162 (.agg #[.int .i32 65, .int .i32 90, .int .i32 95, .int .i32 95, .int .i32 97, .int .i32 122, .int .i32 192, .int .i32 214, .int .i32 216, .int .i32 246, .int .i32 248, .int .i32 591, .int .i32 913, .int .i32 929, .int .i32 931, .int .i32 969]) (.int .i64 1)).run Tryz.prog w = .ok (.agg #[.int .i32 95, .int .i32 95]) w := by kernel_rfl
theorem idxS2 (w : World) : (Instr.index 162 (.agg #[.int .i32 65, .int .i32 90, .int .i32 95, .int .i32 95, .int .i32 97, .int .i32 122, .int .i32 192, .int .i32 214, .int .i32 216, .int .i32 246, .int .i32 248, .int .i32 591, .int .i32 913, .int .i32 929, .int .i32 931, .int .i32 969]) (.int .i64 2)).run Tryz.prog w = .ok (.agg #[.int .i32 97, .int .i32 122]) w := by kernel_rfl
theorem idxS3 (w : World) : (Instr.index 162 (.agg #[.int .i32 65, .int .i32 90, .int .i32 95, .int .i32 95, .int .i32 97, .int .i32 122, .int .i32 192, .int .i32 214, .int .i32 216, .int .i32 246, .int .i32 248, .int .i32 591, .int .i32 913, .int .i32 929, .int .i32 931, .int .i32 969]) (.int .i64 3)).run Tryz.prog w = .ok (.agg #[.int .i32 192, .int .i32 214]) w := by kernel_rfl
theorem idxS4 (w : World) : (Instr.index 162 (.agg #[.int .i32 65, .int .i32 90, .int .i32 95, .int .i32 95, .int .i32 97, .int .i32 122, .int .i32 192, .int .i32 214, .int .i32 216, .int .i32 246, .int .i32 248, .int .i32 591, .int .i32 913, .int .i32 929, .int .i32 931, .int .i32 969]) (.int .i64 4)).run Tryz.prog w = .ok (.agg #[.int .i32 216, .int .i32 246]) w := by kernel_rfl
theorem idxS5 (w : World) : (Instr.index 162 (.agg #[.int .i32 65, .int .i32 90, .int .i32 95, .int .i32 95, .int .i32 97, .int .i32 122, .int .i32 192, .int .i32 214, .int .i32 216, .int .i32 246, .int .i32 248, .int .i32 591, .int .i32 913, .int .i32 929, .int .i32 931, .int .i32 969]) (.int .i64 5)).run Tryz.prog w = .ok (.agg #[.int .i32 248, .int .i32 591]) w := by kernel_rfl
theorem idxS6 (w : World) : (Instr.index 162 (.agg #[.int .i32 65, .int .i32 90, .int .i32 95, .int .i32 95, .int .i32 97, .int .i32 122, .int .i32 192, .int .i32 214, .int .i32 216, .int .i32 246, .int .i32 248, .int .i32 591, .int .i32 913, .int .i32 929, .int .i32 931, .int .i32 969]) (.int .i64 6)).run Tryz.prog w = .ok (.agg #[.int .i32 913, .int .i32 929]) w := by kernel_rfl
theorem idxS7 (w : World) : (Instr.index 162 (.agg #[.int .i32 65, .int .i32 90, .int .i32 95, .int .i32 95, .int .i32 97, .int .i32 122, .int .i32 192, .int .i32 214, .int .i32 216, .int .i32 246, .int .i32 248, .int .i32 591, .int .i32 913, .int .i32 929, .int .i32 931, .int .i32 969]) (.int .i64 7)).run Tryz.prog w = .ok (.agg #[.int .i32 931, .int .i32 969]) w := by kernel_rfl

set_option maxRecDepth 100000 in
set_option maxHeartbeats 2000000 in
theorem letter_k (r : Int) (w : World) (ht : Tabs w) :
    Calls Tryz.prog 75 #[.int .i32 r] w fun e w' => e = .returned (.bool (isLetter r)) ∧ Below w.heap.size w w' := by
  obtain ⟨tt, zz, hg⟩ := ht.lets
  have c0 : w.cell? ⟨0, 0, none⟩ = some (.int .i32 65) := by simp [World.cell?, hg]
  have c1 : w.cell? ⟨0, 1, none⟩ = some (.int .i32 90) := by simp [World.cell?, hg]
  have c2 : w.cell? ⟨0, 2, none⟩ = some (.int .i32 95) := by simp [World.cell?, hg]
  have c3 : w.cell? ⟨0, 3, none⟩ = some (.int .i32 95) := by simp [World.cell?, hg]
  have c4 : w.cell? ⟨0, 4, none⟩ = some (.int .i32 97) := by simp [World.cell?, hg]
  have c5 : w.cell? ⟨0, 5, none⟩ = some (.int .i32 122) := by simp [World.cell?, hg]
  have c6 : w.cell? ⟨0, 6, none⟩ = some (.int .i32 192) := by simp [World.cell?, hg]
  have c7 : w.cell? ⟨0, 7, none⟩ = some (.int .i32 214) := by simp [World.cell?, hg]
  have c8 : w.cell? ⟨0, 8, none⟩ = some (.int .i32 216) := by simp [World.cell?, hg]
  have c9 : w.cell? ⟨0, 9, none⟩ = some (.int .i32 246) := by simp [World.cell?, hg]
  have c10 : w.cell? ⟨0, 10, none⟩ = some (.int .i32 248) := by simp [World.cell?, hg]
  have c11 : w.cell? ⟨0, 11, none⟩ = some (.int .i32 591) := by simp [World.cell?, hg]
  have c12 : w.cell? ⟨0, 12, none⟩ = some (.int .i32 913) := by simp [World.cell?, hg]
  have c13 : w.cell? ⟨0, 13, none⟩ = some (.int .i32 929) := by simp [World.cell?, hg]
  have c14 : w.cell? ⟨0, 14, none⟩ = some (.int .i32 931) := by simp [World.cell?, hg]
  have c15 : w.cell? ⟨0, 15, none⟩ = some (.int .i32 969) := by simp [World.cell?, hg]
  go_enter Tryz.func75, Tryz.ntmps75
  go_wp2
  clear c0 c1 c2 c3 c4 c5 c6 c7 c8 c9 c10 c11 c12 c13 c14 c15 hg
  go_loopw [4, 6] (fun _ v wr => ∃ j : Nat, v = .int .i64 (j : Int) ∧ j ≤ 8 ∧ (spans.take j).any (inSpan r) = false ∧ Below w.heap.size w wr)
    (fun _ v _ => 8 - (Lib.intOf v).toNat)
  case atStart => exact ⟨0, rfl, by omega, rfl, Below.refl _ _⟩
  case round =>
    obtain ⟨j, rfl, hj, hno, hbel⟩ := hrel
    by_cases hj8 : j < 8
    · have hcs : j = 0 ∨ j = 1 ∨ j = 2 ∨ j = 3 ∨ j = 4 ∨ j = 5 ∨ j = 6 ∨ j = 7 := by omega
      rcases hcs with rfl | rfl | rfl | rfl | rfl | rfl | rfl | rfl
      · have hix := idxS0
        by_cases a1 : 65 ≤ r
        · by_cases a2 : r ≤ 90
          · go_wp2
            go_ret
            refine ⟨?_, hbel.alloc hbel.size _⟩
            have : isLetter r = true := by
              unfold isLetter
              exact List.any_eq_true.2 ⟨(65, 90), by decide, by simp [inSpan, a1, a2]⟩
            rw [this]
            rfl
          · go_wp2
            go_roundw
            case rel => exact ⟨1, rfl, by omega, by simp only [spans, List.take, List.any] at hno ⊢; simp [inSpan, a1, a2] at hno ⊢; try exact hno, hbel.alloc hbel.size _⟩
            case measure => simp [Lib.intOf]
        · go_wp2
          go_roundw
          case rel => exact ⟨1, rfl, by omega, by simp only [spans, List.take, List.any] at hno ⊢; simp [inSpan, a1] at hno ⊢; try exact hno, hbel.alloc hbel.size _⟩
          case measure => simp [Lib.intOf]
      · have hix := idxS1
        by_cases a1 : 95 ≤ r
        · by_cases a2 : r ≤ 95
          · go_wp2
            go_ret
            refine ⟨?_, hbel.alloc hbel.size _⟩
            have : isLetter r = true := by
              unfold isLetter
              exact List.any_eq_true.2 ⟨(95, 95), by decide, by simp [inSpan, a1, a2]⟩
            rw [this]
            rfl
          · go_wp2
            go_roundw
            case rel => exact ⟨2, rfl, by omega, by simp only [spans, List.take, List.any] at hno ⊢; simp [inSpan, a1, a2] at hno ⊢; try exact hno, hbel.alloc hbel.size _⟩
            case measure => simp [Lib.intOf]
        · go_wp2
          go_roundw
          case rel => exact ⟨2, rfl, by omega, by simp only [spans, List.take, List.any] at hno ⊢; simp [inSpan, a1] at hno ⊢; try exact hno, hbel.alloc hbel.size _⟩
          case measure => simp [Lib.intOf]
      · have hix := idxS2
        by_cases a1 : 97 ≤ r
        · by_cases a2 : r ≤ 122
          · go_wp2
            go_ret
            refine ⟨?_, hbel.alloc hbel.size _⟩
            have : isLetter r = true := by
              unfold isLetter
              exact List.any_eq_true.2 ⟨(97, 122), by decide, by simp [inSpan, a1, a2]⟩
            rw [this]
            rfl
          · go_wp2
            go_roundw
            case rel => exact ⟨3, rfl, by omega, by simp only [spans, List.take, List.any] at hno ⊢; simp [inSpan, a1, a2] at hno ⊢; try exact hno, hbel.alloc hbel.size _⟩
            case measure => simp [Lib.intOf]
        · go_wp2
          go_roundw
          case rel => exact ⟨3, rfl, by omega, by simp only [spans, List.take, List.any] at hno ⊢; simp [inSpan, a1] at hno ⊢; try exact hno, hbel.alloc hbel.size _⟩
          case measure => simp [Lib.intOf]
      · have hix := idxS3
        by_cases a1 : 192 ≤ r
        · by_cases a2 : r ≤ 214
          · go_wp2
            go_ret
            refine ⟨?_, hbel.alloc hbel.size _⟩
            have : isLetter r = true := by
              unfold isLetter
              exact List.any_eq_true.2 ⟨(192, 214), by decide, by simp [inSpan, a1, a2]⟩
            rw [this]
            rfl
          · go_wp2
            go_roundw
            case rel => exact ⟨4, rfl, by omega, by simp only [spans, List.take, List.any] at hno ⊢; simp [inSpan, a1, a2] at hno ⊢; try exact hno, hbel.alloc hbel.size _⟩
            case measure => simp [Lib.intOf]
        · go_wp2
          go_roundw
          case rel => exact ⟨4, rfl, by omega, by simp only [spans, List.take, List.any] at hno ⊢; simp [inSpan, a1] at hno ⊢; try exact hno, hbel.alloc hbel.size _⟩
          case measure => simp [Lib.intOf]
      · have hix := idxS4
        by_cases a1 : 216 ≤ r
        · by_cases a2 : r ≤ 246
          · go_wp2
            go_ret
            refine ⟨?_, hbel.alloc hbel.size _⟩
            have : isLetter r = true := by
              unfold isLetter
              exact List.any_eq_true.2 ⟨(216, 246), by decide, by simp [inSpan, a1, a2]⟩
            rw [this]
            rfl
          · go_wp2
            go_roundw
            case rel => exact ⟨5, rfl, by omega, by simp only [spans, List.take, List.any] at hno ⊢; simp [inSpan, a1, a2] at hno ⊢; try exact hno, hbel.alloc hbel.size _⟩
            case measure => simp [Lib.intOf]
        · go_wp2
          go_roundw
          case rel => exact ⟨5, rfl, by omega, by simp only [spans, List.take, List.any] at hno ⊢; simp [inSpan, a1] at hno ⊢; try exact hno, hbel.alloc hbel.size _⟩
          case measure => simp [Lib.intOf]
      · have hix := idxS5
        by_cases a1 : 248 ≤ r
        · by_cases a2 : r ≤ 591
          · go_wp2
            go_ret
            refine ⟨?_, hbel.alloc hbel.size _⟩
            have : isLetter r = true := by
              unfold isLetter
              exact List.any_eq_true.2 ⟨(248, 591), by decide, by simp [inSpan, a1, a2]⟩
            rw [this]
            rfl
          · go_wp2
            go_roundw
            case rel => exact ⟨6, rfl, by omega, by simp only [spans, List.take, List.any] at hno ⊢; simp [inSpan, a1, a2] at hno ⊢; try exact hno, hbel.alloc hbel.size _⟩
            case measure => simp [Lib.intOf]
        · go_wp2
          go_roundw
          case rel => exact ⟨6, rfl, by omega, by simp only [spans, List.take, List.any] at hno ⊢; simp [inSpan, a1] at hno ⊢; try exact hno, hbel.alloc hbel.size _⟩
          case measure => simp [Lib.intOf]
      · have hix := idxS6
        by_cases a1 : 913 ≤ r
        · by_cases a2 : r ≤ 929
          · go_wp2
            go_ret
            refine ⟨?_, hbel.alloc hbel.size _⟩
            have : isLetter r = true := by
              unfold isLetter
              exact List.any_eq_true.2 ⟨(913, 929), by decide, by simp [inSpan, a1, a2]⟩
            rw [this]
            rfl
          · go_wp2
            go_roundw
            case rel => exact ⟨7, rfl, by omega, by simp only [spans, List.take, List.any] at hno ⊢; simp [inSpan, a1, a2] at hno ⊢; try exact hno, hbel.alloc hbel.size _⟩
            case measure => simp [Lib.intOf]
        · go_wp2
          go_roundw
          case rel => exact ⟨7, rfl, by omega, by simp only [spans, List.take, List.any] at hno ⊢; simp [inSpan, a1] at hno ⊢; try exact hno, hbel.alloc hbel.size _⟩
          case measure => simp [Lib.intOf]
      · have hix := idxS7
        by_cases a1 : 931 ≤ r
        · by_cases a2 : r ≤ 969
          · go_wp2
            go_ret
            refine ⟨?_, hbel.alloc hbel.size _⟩
            have : isLetter r = true := by
              unfold isLetter
              exact List.any_eq_true.2 ⟨(931, 969), by decide, by simp [inSpan, a1, a2]⟩
            rw [this]
            rfl
          · go_wp2
            go_roundw
            case rel => exact ⟨8, rfl, by omega, by simp only [spans, List.take, List.any] at hno ⊢; simp [inSpan, a1, a2] at hno ⊢; try exact hno, hbel.alloc hbel.size _⟩
            case measure => simp [Lib.intOf]
        · go_wp2
          go_roundw
          case rel => exact ⟨8, rfl, by omega, by simp only [spans, List.take, List.any] at hno ⊢; simp [inSpan, a1] at hno ⊢; try exact hno, hbel.alloc hbel.size _⟩
          case measure => simp [Lib.intOf]
    · have h8 : j = 8 := by omega
      subst h8
      go_wp2
      go_ret
      refine ⟨?_, hbel⟩
      have : isLetter r = false := hno
      rw [this]
      rfl
end Go.Proofs.YthmhcpghfbifiaaGreatDoor

/- What text.Name answers of every text. -/
namespace Go.Proofs.YthmhcpghfbifiaaGreatDoor
open Go.RowKit

def mayF (r : Int) : Bool := (decide (48 ≤ r) && decide (r ≤ 57)) || r == 39
set_option maxRecDepth 100000 in
theorem mayFollow_k (r : Int) (w : World) : Calls Tryz.prog 76 #[.int .i32 r] w fun e w' => e = .returned (.bool (mayF r)) ∧ w = w' := by
  unfold mayF
  by_cases a1 : 48 ≤ r
  · by_cases a2 : r ≤ 57
    · go_enter Tryz.func76, Tryz.ntmps76
      go_wp2
      go_ret
      refine ⟨?_, rfl⟩
      simp [a1, a2]
    · have e : (decide (48 ≤ r) && decide (r ≤ 57)) = false := by simp [a2]
      rw [e, Bool.false_or]
      go_enter Tryz.func76, Tryz.ntmps76
      go_wp2
      go_ret
      exact ⟨rfl, rfl⟩
  · have e : (decide (48 ≤ r) && decide (r ≤ 57)) = false := by simp [a1]
    rw [e, Bool.false_or]
    go_enter Tryz.func76, Tryz.ntmps76
    go_wp2
    go_ret
    exact ⟨rfl, rfl⟩
theorem may_is (r : Int) (b : Bool) (h : mayF r = b) (w : World) : Calls Tryz.prog 76 #[.int .i32 r] w fun e w' => e = .returned (.bool b) ∧ w = w' := by
  rw [← h]
  exact mayFollow_k r w
theorem letter_is (r : Int) (b : Bool) (h : isLetter r = b) (w : World) (ht : Tabs w) : Calls Tryz.prog 75 #[.int .i32 r] w fun e w' => e = .returned (.bool b) ∧ Below w.heap.size w w' := by
  rw [← h]
  exact letter_k r w ht

def okR (first : Bool) : List (Int × Nat) → Bool
  | [] => true
  | x :: t => (isLetter (raw x.1) || (!first && mayF (raw x.1))) && okR false t
def nameE (l : List UInt8) : Int := if l = [] ∨ 32 < (ru l).length then 21 else if okR true (ru l) = true then 0 else 21

set_option maxRecDepth 100000 in
set_option maxHeartbeats 2000000 in
theorem name_k (s : ByteArray) (hs : s.size ≤ 281474976702464) (w : World) (ht : Tabs w) :
    Calls Tryz.prog 54 #[.string s] w fun e w' => e = .returned (.int .i64 (nameE s.data.toList)) ∧ Below w.heap.size w w' := by
  have hlen : s.data.toList.length = s.size := by rw [Array.length_toList]; rfl
  by_cases h0 : s.data.toList = []
  · have e : nameE s.data.toList = 21 := by unfold nameE; rw [if_pos (.inl h0)]
    rw [e]
    have hs0 : s = ⟨#[]⟩ := by rw [← str_bytes s, h0]; rfl
    subst hs0
    go_enter Tryz.func54, Tryz.ntmps54
    go_wp2
    go_ret
    exact ⟨rfl, Below.refl _ _⟩
  · have hne : (s.toList == (⟨#[]⟩ : ByteArray).toList) = false := by
      rw [Lib.toList_data, Lib.toList_data]
      simpa using h0
    have hne2 : (s.toList == ([] : List UInt8)) = false := by
      rw [Lib.toList_data]
      simpa using h0
    have hwid := width_k s hs w
    have hru0 := ru_length_le s.data.toList
    by_cases h32 : 32 < (ru s.data.toList).length
    · have e : nameE s.data.toList = 21 := by unfold nameE; rw [if_pos (.inr h32)]
      rw [e]
      clear e
      generalize (ru s.data.toList).length = m at *
      have h32i : (32 : Int) < (m : Int) := by omega
      go_enter Tryz.func54, Tryz.ntmps54
      go_wp2_with (go_at_call 74; refine hwid.mono ?_; rintro e w1 ⟨rfl, hb1⟩)
      go_ret
      exact ⟨rfl, hb1⟩
    · have e : nameE s.data.toList = if okR true (ru s.data.toList) = true then 0 else 21 := by unfold nameE; rw [if_neg (fun h => h.elim h0 h32)]
      rw [e]
      clear e
      have hwid' : Calls Tryz.prog 74 #[.string s] w fun e w' => ∃ m : Nat, m ≤ 32 ∧ e = .returned (.int .i64 (m : Int)) ∧ Below w.heap.size w w' := by
        refine hwid.mono ?_
        rintro e w' ⟨rfl, hb⟩
        exact ⟨_, by omega, rfl, hb⟩
      have hrg := fun w' => run_range_string (P := Tryz.prog) w' 9 s Tryz.underlying9
      clear hwid
      go_enter Tryz.func54, Tryz.ntmps54
      go_wp2_with (go_at_call 74; refine hwid'.mono ?_; rintro e w1 ⟨m, hm, rfl, hb1⟩)
      go_loopw [3, 4] (fun _ _ wr => ∃ k : Nat, k ≤ s.size ∧ okR true (ru s.data.toList) = okR (decide (k = 0)) (ru (s.data.toList.drop k)) ∧ wr.heap[w1.heap.size]? = some (.stringIter s k) ∧ Below w1.heap.size w1 wr)
        (fun _ _ wr => s.size - wr.iterPos w1.heap.size)
      case atStart => exact ⟨0, Nat.zero_le _, rfl, World.iter_heap w1 s 0, (Below.refl _ w1).alloc (Nat.le_refl _) _⟩
      case round =>
        obtain ⟨k, hk, hok, hit, hbel⟩ := hrel
        have hpos : wr.iterPos w1.heap.size = k := by simp [World.iterPos, hit]
        clear hrg hwid'
        have ht1 := (ht.below hb1).below hbel
        by_cases hlt : k < s.size
        · have hnx := fun ty => Lib.run_next_any_at (P := Tryz.prog) wr w1.heap.size s k ty hit hlt
          rw [wd_dec] at hnx
          have q1 := wd_pos (s.data.toList.drop k)
          have q2 := wd_room s k hlt
          have hit2 := Lib.iterAt_heap wr w1.heap.size s k (k + wd (s.data.toList.drop k)) hit
          have hbel2 := Lib.below_iterAt hbel (k := w1.heap.size) (Nat.le_refl _) s (k + wd (s.data.toList.drop k))
          have hraw := raw_dec s k
          have hsz : w1.heap.size < wr.heap.size := (Array.getElem?_eq_some_iff.1 hit).1
          have ht2 : Tabs (wr.iterAt w1.heap.size s (k + wd (s.data.toList.drop k))) := (ht.below hb1).below hbel2
          rw [ru_step _ (drop_ne s k hlt), List.drop_drop, okR] at hok
          dsimp only at hok
          rw [hraw] at hok
          clear hraw
          generalize (Utf8.decode s k).1 = dr at *
          generalize wd (s.data.toList.drop k) = ww at *
          have fin : ∀ w2, Below (wr.iterAt w1.heap.size s (k + ww)).heap.size (wr.iterAt w1.heap.size s (k + ww)) w2 → w2.heap[w1.heap.size]? = some (.stringIter s (k + ww)) ∧ Below w1.heap.size w1 w2 ∧ s.size - w2.iterPos w1.heap.size < s.size - wr.iterPos w1.heap.size := by
            intro w2 hb2
            have h3 : w2.heap[w1.heap.size]? = some (.stringIter s (k + ww)) := (hb2.block _ (by rw [Lib.iterAt_size]; omega)).trans hit2
            refine ⟨h3, hbel2.trans (hb2.mono (by rw [Lib.iterAt_size]; omega)), ?_⟩
            have hp : w2.iterPos w1.heap.size = k + ww := by simp only [World.iterPos, h3]
            rw [hp, hpos]
            omega
          cases hl : isLetter (dr : Int) with
          | true =>
            rw [hl, Bool.true_or, Bool.true_and] at hok
            go_wp2_with (go_at_call 75; refine (letter_is _ true hl _ ht2).mono ?_; rintro e w2 ⟨rfl, hb2⟩)
            obtain ⟨f1, f2, f3⟩ := fin w2 hb2
            go_roundw
            case rel =>
              refine ⟨k + ww, q2, ?_, f1, f2⟩
              rw [hok]
              congr 1
              simp
              omega
            case measure => exact f3
          | false =>
            rw [hl, Bool.false_or] at hok
            by_cases hk0 : k = 0
            · have hd : decide (k = 0) = true := by simp [hk0]
              have hki : ((k : Int) == 0) = true := by simp; exact hk0
              rw [hd] at hok
              simp at hok
              rw [hok]
              clear hk0 hd
              go_wp2_with (go_at_call 75; refine (letter_is _ false hl _ ht2).mono ?_; rintro e w2 ⟨rfl, hb2⟩)
              all_goals
                obtain ⟨f1, f2, f3⟩ := fin w2 hb2
                go_ret
                exact ⟨rfl, hb1.trans (f2.mono hb1.size)⟩
            · have hd : decide (k = 0) = false := by simp [hk0]
              rw [hd, Bool.not_false, Bool.true_and] at hok
              have hki : ((k : Int) == 0) = false := by simp; exact hk0
              cases hm2 : mayF (dr : Int) with
              | true =>
                rw [hm2, Bool.true_and] at hok
                go_wp2_with (first
                  | (go_at_call 75; refine (letter_is _ false hl _ ht2).mono ?_; rintro e w2 ⟨rfl, hb2⟩)
                  | (go_at_call 76; refine (may_is _ true hm2 _).mono ?_; rintro e w3 ⟨rfl, rfl⟩))
                obtain ⟨f1, f2, f3⟩ := fin w2 hb2
                go_roundw
                case rel =>
                  refine ⟨k + ww, q2, ?_, f1, f2⟩
                  rw [hok]
                  congr 1
                  simp
                  omega
                case measure => exact f3
              | false =>
                rw [hm2, Bool.false_and] at hok
                rw [hok]
                go_wp2_with (first
                  | (go_at_call 75; refine (letter_is _ false hl _ ht2).mono ?_; rintro e w2 ⟨rfl, hb2⟩)
                  | (go_at_call 76; refine (may_is _ false hm2 _).mono ?_; rintro e w3 ⟨rfl, rfl⟩))
                all_goals
                  obtain ⟨f1, f2, f3⟩ := fin w2 hb2
                  go_ret
                  exact ⟨rfl, hb1.trans (f2.mono hb1.size)⟩
        · have hnx := fun ty => Lib.run_next_end_at (P := Tryz.prog) wr w1.heap.size s k ty hit hlt
          rw [drop_end s k hlt, ru_nil, okR] at hok
          rw [hok]
          go_wp2
          go_ret
          exact ⟨rfl, hb1.trans (hbel.mono hb1.size)⟩
end Go.Proofs.YthmhcpghfbifiaaGreatDoor
