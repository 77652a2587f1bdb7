/- What text.Quote writes of every text. -/
import Derived.Test.YtpbebcefnkbnlabDoorTNumber
import Derived.Test.YtpbebcefnkbnlabDoorTBuilder
namespace Go.Proofs.YtpbebcefnkbnlabDoor
open Go.RowKit
attribute [local go_sem] Oper.semAt_some

/-- A builder in block b that holds these bytes. -/
def Bld (b : Nat) (l : List UInt8) (W : World) : Prop := Lib.IsBuilderF 82 5 b b (Lib.byteCells l) W
def Put (b : Nat) (l : List UInt8) (W W' : World) : Prop := Bld b l W' ∧ Below b W W' ∧ Lib.OthersKept 5 (some b) W W'
theorem Bld.lt {b : Nat} {l : List UInt8} {W : World} (h : Bld b l W) : b < W.heap.size := by
  rcases h with ⟨_, v, hb, _⟩ | ⟨_, v, hb, _⟩
  · exact (Array.getElem?_eq_some_iff.1 hb).1
  · exact (Array.getElem?_eq_some_iff.1 hb).1
theorem Bld.alloc {b : Nat} {l : List UInt8} {W : World} (h : Bld b l W) (o : Obj) : Bld b l (W.alloc o) := Lib.IsBuilderF.alloc h o
theorem Bld.iterAt {b : Nat} {l : List UInt8} {W : World} (h : Bld b l W) {k : Nat} {s : ByteArray} {p : Nat} (hk : W.heap[k]? = some (.stringIter s p)) (p' : Nat) : Bld b l (W.iterAt k s p') := Lib.IsBuilderF.iterAt h hk p'

theorem wByte (b : Nat) (l : List UInt8) (z : Int) (c : UInt8) (hc : z = c.toNat) (w : World) (h : Bld b l w) (hl : l.length + 1 ≤ 140737488355328) :
    Calls Tryd.prog 41 #[.pointer (some ⟨b, 0, none⟩), .int .u8 z] w fun e w' => e = .returned .nilIface ∧ Put b (l ++ [c]) w w' := by
  refine (writeByte_k b b _ z w h (by rw [Lib.byteCells_length]; exact hl) (Nat.le_of_lt h.lt)).mono ?_
  rintro e w' ⟨rfl, h1, h2, h3⟩
  refine ⟨rfl, ?_, h2, h3⟩
  unfold Bld
  rw [Lib.byteCells_append]
  subst hc
  exact h1
theorem wStr (b : Nat) (l t : List UInt8) (s : ByteArray) (hs : s = str t) (w : World) (h : Bld b l w) (hl : l.length + t.length ≤ 140737488355328) :
    Calls Tryd.prog 43 #[.pointer (some ⟨b, 0, none⟩), .string s] w fun e w' => (∃ v, e = .returned v) ∧ Put b (l ++ t) w w' := by
  subst hs
  refine (writeString_k b b _ _ w h (by rw [Lib.byteCells_length, str_size]; exact hl) (Nat.le_of_lt h.lt)).mono ?_
  rintro e w' ⟨rfl, h1, h2, h3⟩
  refine ⟨⟨_, rfl⟩, ?_, h2, h3⟩
  unfold Bld
  rw [Lib.byteCells_append]
  exact h1
theorem wRune (b : Nat) (l : List UInt8) (r : Int) (hr0 : -2147483648 ≤ r) (hr1 : r ≤ 2147483647) (w : World) (h : Bld b l w) (hl : l.length + 4 ≤ 140737488355328) :
    Calls Tryd.prog 42 #[.pointer (some ⟨b, 0, none⟩), .int .i32 r] w fun e w' => (∃ v, e = .returned v) ∧ Put b (l ++ Lib.encodeRune r) w w' := by
  refine (writeRune_k b b _ r hr0 hr1 w h (by rw [Lib.byteCells_length]; exact hl) (Nat.le_of_lt h.lt)).mono ?_
  rintro e w' ⟨rfl, h1, h2, h3⟩
  refine ⟨⟨_, rfl⟩, ?_, h2, h3⟩
  unfold Bld
  rw [Lib.byteCells_append, Lib.byteCells_encodeRune]
  exact h1
theorem wEnd (b : Nat) (l : List UInt8) (w : World) (h : Bld b l w) :
    Calls Tryd.prog 44 #[.pointer (some ⟨b, 0, none⟩)] w fun e w' => e = .returned (.string (str l)) ∧ Below b w w' := by
  refine (Tryd.Builder_String_any_k b b l w h (Nat.le_of_lt h.lt)).mono ?_
  rintro e w' ⟨rfl, _, h2, _⟩
  exact ⟨rfl, h2⟩

theorem bld_own {b : Nat} {l : List UInt8} {B A : Nat} {W W' : World} {row : Option Nat} (h : Bld b l W) (hg : W.grownBy W' row)
    (hr : ∀ r, row = some r → B ≤ r ∧ ((∃ o : Obj, W.heap[r]? = some o ∧ o.isCells = false) ∨ (r = A ∧ ∃ o : Obj, W.heap[r]? = some o ∧ isSpot o))) : Bld b l W' := by
  have same : ∀ k c t z, W.heap[k]? = some (Obj.cells c t z) → t ≠ 71 → W'.heap[k]? = some (Obj.cells c t z) := fun k c t z hk ht =>
    (hg.block k (Array.getElem?_eq_some_iff.1 hk).1 fun e => by
      rcases (hr k e.symm).2 with ⟨o, ho, hn⟩ | ⟨_, o, ho, c', z', e2⟩
      · rw [hk] at ho
        cases ho
        cases hn
      · rw [hk] at ho
        cases ho
        cases e2
        exact ht rfl).trans hk
  have one : ∀ p, Lib.BuilderAtF 82 5 b b p (Lib.byteCells l) W → Lib.BuilderAtF 82 5 b b p (Lib.byteCells l) W' := by
    rintro p ⟨hB, v, hb, hown, hne⟩
    refine ⟨hB, v, same _ _ _ _ hb (by decide), ?_, hne⟩
    refine ⟨hown.1, ?_⟩
    rcases hown.2 with hn | ⟨g, cap, cur, fz, hv, h1, h2, rest⟩
    · exact .inl hn
    · exact .inr ⟨g, cap, cur, fz, hv, h1, same _ _ _ _ h2 (by decide), rest⟩
  rcases h with h | h
  · exact .inl (one _ h)
  · exact .inr (one _ h)

theorem Put.kept {b : Nat} {l : List UInt8} {B sb A : Nat} {W W' : World} {u : Value} (h : Put b l W W') (hsz : W.heap.size ≤ W'.heap.size) (hb : b < B) (hbs : b ≠ sb) (hbA : b ≠ A) (hs : Boxed W sb 9 u) (hA : ∃ o : Obj, W.heap[A]? = some o ∧ isSpot o) : Kept B sb A W W' := by
  obtain ⟨_, _, hk⟩ := h
  refine ⟨hsz, fun k o hB ho hc => hk k o ho (by simp; omega) (fun c fz e => by subst e; cases hc), fun o ho => hk sb o ho (by simpa using Ne.symm hbs) fun c fz e => ?_, fun o ho => hk A o ho (by simpa using Ne.symm hbA) fun c fz e => ?_⟩
  · rw [show W.heap[sb]? = _ from hs] at ho
    subst e
    simp at ho
  · obtain ⟨o', ho', c', z', e'⟩ := hA
    rw [ho'] at ho
    subst e' e
    simp at ho

def hexd (n : Nat) : UInt8 := [48, 49, 50, 51, 52, 53, 54, 55, 56, 57, 97, 98, 99, 100, 101, 102].getD n 0
/-- What Quote writes of a rune. -/
def piece (l : List UInt8) (x : El) : List UInt8 :=
  if x.r = 34 ∨ x.r = 92 then 92 :: Lib.encodeRune x.r
  else if x.r = 10 then [92, 110]
  else if x.r < 32 ∨ x.r = 127 then [92, 120, hexd ((l.getD x.off 0).toNat / 16), hexd ((l.getD x.off 0).toNat % 16)]
  else Lib.encodeRune x.r
def qt (l : List UInt8) : List UInt8 := 34 :: (els l).flatMap (piece l) ++ [34]
theorem enc_le (r : Int) : (Lib.encodeRune r).length ≤ 4 := by
  have := Lib.runeCells_le r
  rw [Lib.runeCells_length] at this
  omega
theorem piece_len (l : List UInt8) (x : El) : (piece l x).length ≤ 5 := by
  have := enc_le x.r
  unfold piece
  split
  · simp; omega
  · split
    · simp
    · split
      · simp
      · omega
theorem flat_len (l : List UInt8) : ∀ p : List El, (p.flatMap (piece l)).length ≤ 5 * p.length
  | [] => by simp
  | x :: p => by
    have h1 := flat_len l p
    have h2 := piece_len l x
    rw [List.flatMap_cons, List.length_append, List.length_cons]
    omega
theorem elS_mem : ∀ (l : List UInt8) (off line col : Nat) (x : El), x ∈ elS off line col (ru l) → x.off < off + l.length ∧ -1 ≤ x.r ∧ x.r ≤ 1114111 := by
  refine ru_ind (fun off line col x h => by simp [ru_nil, elS] at h) ?_
  intro l hl ih off line col x h
  have hp : 0 < l.length := List.length_pos_iff.2 hl
  have hw := wd_le l hl
  rw [ru_step l hl, elS_step] at h
  simp only [List.mem_cons] at h
  rcases h with rfl | h
  · exact ⟨by dsimp only; omega, rv_lo l, rv_hi l⟩
  · obtain ⟨h1, h2, h3⟩ := ih _ _ _ x h
    rw [List.length_drop] at h1
    exact ⟨by omega, h2, h3⟩
theorem els_mem (l : List UInt8) (x : El) (h : x ∈ els l) : x.off < l.length ∧ -1 ≤ x.r ∧ x.r ≤ 1114111 := by
  have := elS_mem l 0 1 1 x h
  omega
end Go.Proofs.YtpbebcefnkbnlabDoor
