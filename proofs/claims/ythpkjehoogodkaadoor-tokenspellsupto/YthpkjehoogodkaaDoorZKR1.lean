/- The document's scanner: its place among the runes; is, letter, spot, named. -/
import Derived.Test.YthpkjehoogodkaaDoorZKScan
import Derived.Test.YthpkjehoogodkaaDoorZTRefWords
import Derived.Test.YthpkjehoogodkaaDoorZTNamesWalk
import Derived.Deep.Cut
namespace Go.Proofs.YthpkjehoogodkaaDoor
open Go.RowKit

/-- A scanner in block P, over the runes of s, at the rune i. -/
structure Sn (s : ByteArray) (a : Option Addr) (cp P i : Nat) (W : World) : Prop where
  blk : W.heap[P]? = some (.cells #[.string s, .slice a (rs s.data.toList).length cp, .int .i64 (i : Int)] 55 (0, 0))
  rr : RsAt (rs s.data.toList) a W
  ne : ∀ g, a = some ⟨g, 0, none⟩ → g < P
theorem Sn.lt {s : ByteArray} {a : Option Addr} {cp P i : Nat} {W : World} (h : Sn s a cp P i W) : P < W.heap.size := (Array.getElem?_eq_some_iff.1 h.blk).1
theorem Sn.below {s : ByteArray} {a : Option Addr} {cp P i : Nat} {W W' : World} (h : Sn s a cp P i W) (hb : Below W.heap.size W W') : Sn s a cp P i W' := ⟨(hb.block _ h.lt).trans h.blk, h.rr.below hb, h.ne⟩
theorem Sn.set {s : ByteArray} {a : Option Addr} {cp P i : Nat} {W : World} (h : Sn s a cp P i W) (j : Nat) : Sn s a cp P j (W.setCell ⟨P, 2, none⟩ (.int .i64 (j : Int))) := by
  refine ⟨heap_setCell_same _ _ 2 _ _ (.int .i64 (j : Int)) h.blk, fun k hk => ?_, h.ne⟩
  obtain ⟨g, e, h1, h2, h3⟩ := h.rr k hk
  have hn := h.ne g e
  have keep : ∀ o v, W.cell? ⟨g, o, none⟩ = some v → (W.setCell ⟨P, 2, none⟩ (.int .i64 (j : Int))).cell? ⟨g, o, none⟩ = some v := fun o v hv => by
    have hh := Below.heap_setCell W ⟨P, 2, none⟩ (.int .i64 (j : Int)) g (by dsimp only; omega)
    simp only [World.cell?] at hv ⊢
    rw [hh]
    exact hv
  exact ⟨g, e, keep _ _ h1, keep _ _ h2, keep _ _ h3⟩
theorem Sn.grown {s : ByteArray} {a : Option Addr} {cp P i : Nat} {W W' : World} {row : Option Nat} (h : Sn s a cp P i W) (hg : W.grownBy W' row) (hr : ∀ r, row = some r → P < r) : Sn s a cp P i W' := by
  refine ⟨(hg.block _ h.lt (fun e => by have := hr _ e.symm; omega)).trans h.blk, fun k hk => ?_, h.ne⟩
  obtain ⟨g, e, h1, h2, h3⟩ := h.rr k hk
  have hn := h.ne g e
  have hne : some g ≠ row := fun e => by have := hr _ e.symm; omega
  exact ⟨g, e, hg.cell h1 hne, hg.cell h2 hne, hg.cell h3 hne⟩
theorem Sn.cells {s : ByteArray} {a : Option Addr} {cp P i : Nat} {W : World} (h : Sn s a cp P i W) : W.cell? ⟨P, 0, none⟩ = some (.string s) ∧ W.cell? ⟨P, 1, none⟩ = some (.slice a (rs s.data.toList).length cp) ∧ W.cell? ⟨P, 2, none⟩ = some (.int .i64 (i : Int)) ∧ W.frozen? ⟨P, 2, none⟩ = false :=
  ⟨kcells_at h.blk 0 _ rfl, kcells_at h.blk 1 _ rfl, kcells_at h.blk 2 _ rfl, kfrozen_at h.blk 2⟩
theorem grown_refl (W : World) (r : Option Nat) : W.grownBy W r := ⟨rfl, rfl, rfl, Nat.le_refl _, fun _ _ _ => rfl⟩
theorem grown_trans {A B C : World} {r : Option Nat} (h : A.grownBy B r) (k : B.grownBy C r) : A.grownBy C r := ⟨k.os.trans h.os, k.tape.trans h.tape, k.output.trans h.output, Nat.le_trans h.size k.size, fun j hj hn => (k.block j (Nat.lt_of_lt_of_le hj h.size) hn).trans (h.block j hj hn)⟩
theorem grown_below' {A B : World} {r : Option Nat} (h : Below A.heap.size A B) : A.grownBy B r := ⟨h.os, h.tape, h.output, h.size, fun k hk _ => h.block k hk⟩
theorem kgrown_set (W : World) (P i : Nat) (v : Value) : W.grownBy (W.setCell ⟨P, i, none⟩ v) (some P) := by
  have hb := (Below.refl P W).setCell (p := ⟨P, i, none⟩) (Nat.le_refl _) v
  exact ⟨hb.os, hb.tape, hb.output, hb.size, fun k _ hn => Below.heap_setCell W ⟨P, i, none⟩ v k (fun e => hn (by rw [e]))⟩
theorem rs_bound (s : ByteArray) : (rs s.data.toList).length ≤ s.size := rs_le s

/-- The rune at a place. -/
theorem At.rune {L : List UInt8} {i k : Nat} (h : At L i k) (hi : i < (rs L).length) : k < L.length ∧ (rs L)[i].1 = rv (L.drop k) ∧ (rs L)[i].2.1 = k ∧ (rs L)[i].2.2 = wd (L.drop k) ∧ L.drop k ≠ [] ∧ At L (i + 1) (k + wd (L.drop k)) := by
  obtain ⟨h1, h2, h3⟩ := h.get hi
  refine ⟨h1, by rw [h2], by rw [h2], by rw [h2], fun e => ?_, h3⟩
  have := congrArg List.length e
  rw [List.length_drop] at this
  simp at this
  omega
theorem At.end {L : List UInt8} {i k : Nat} (h : At L i k) (hi : ¬ i < (rs L).length) : L.drop k = [] := by
  rw [h.done hi]
  exact List.drop_length

set_option maxRecDepth 100000 in
set_option maxHeartbeats 2000000 in
/-- Is the next rune a '/'? -/
theorem is_k (s : ByteArray) (hs : s.size ≤ 1048576) (a : Option Addr) (cp P i k : Nat) (W : World) (h : Sn s a cp P i W) (hat : At s.data.toList i k) (hi : i < (rs s.data.toList).length) (h47 : rv (s.data.toList.drop k) = 47) :
    Calls Tryd.prog 40 #[.pointer (some ⟨P, 0, none⟩), .int .i64 1, .int .i64 47] W fun e W' => e = .returned (.bool (Lib.hasPrefix (s.data.toList.drop k) [47, 47])) ∧ Below W.heap.size W W' := by
  have hb := rs_bound s
  obtain ⟨q1, q2, q3, q4, q5, q6⟩ := hat.rune hi
  obtain ⟨b, t, hbt, hb7, hraw⟩ := low_head _ q5 (by rw [h47]; decide)
  have hb47 : b = 47 := by
    have : rv (b :: t) = 47 := by rw [← hbt]; exact h47
    have := (rv_low_iff b t 47 (by decide)).1 this
    exact UInt8.toNat_inj.1 (by rw [this]; rfl)
  subst hb47
  have hwd : wd (s.data.toList.drop k) = 1 := by rw [hbt]; exact (rv_ascii 47 t (by decide)).2
  rw [hwd] at q6
  have hdt : s.data.toList.drop (k + 1) = t := by rw [← List.drop_drop, hbt]; rfl
  obtain ⟨c0, c1, c2, f2⟩ := h.cells
  have hrr := h.rr
  rw [hbt]
  clear h
  by_cases hlt : i + 1 < (rs s.data.toList).length
  · obtain ⟨r1, r2, r3, r4, r5, r6⟩ := q6.rune hlt
    obtain ⟨g, rfl, d1, d2, d3⟩ := hrr (i + 1) hlt
    rw [r2, hdt] at d1
    rw [hdt] at r5
    have hp : Lib.hasPrefix (47 :: t) [47, 47] = (rv t == 47) := by
      obtain ⟨c, u, rfl⟩ : ∃ c u, t = c :: u := by cases t with | nil => exact absurd rfl r5 | cons c u => exact ⟨c, u, rfl⟩
      rw [Bool.eq_iff_iff]
      have := rv_low_iff c u 47 (by decide)
      simp [Lib.hasPrefix, List.isPrefixOf]
      have e : (47 : UInt8) = c ↔ c.toNat = 47 := ⟨fun e => by rw [← e]; rfl, fun e => UInt8.toNat_inj.1 (by rw [e]; rfl)⟩
      rw [e]
      exact this.symm
    rw [hp]
    have hw : IntKind.i64.wrap ((i : Int) + 1) = ((i + 1 : Nat) : Int) := by rw [IntKind.wrap_i64]; omega
    have hjn : decide (((i + 1 : Nat) : Int) < ((rs s.data.toList).length : Int)) = true := decide_eq_true (by omega)
    generalize hj : i + 1 = j at *
    clear hj
    clear hp r1 r2 r3 r4 r5 r6 hdt hbt hwd q1 q2 q3 q4 q5 q6 hrr hat hraw hb7 hi h47 d2 d3 c0
    generalize rv t = rt at *
    generalize (rs s.data.toList).length = n at *
    cases hq : (rt == 47)
    all_goals
      go_enter Tryd.func40, Tryd.ntmps40
      go_wp2
      go_quiet (fail)
      go_wp2
      go_ret
      exact ⟨rfl, below_drewN _ _⟩
  · have hend := q6.end hlt
    rw [hdt] at hend
    subst hend
    have hw : IntKind.i64.wrap ((i : Int) + 1) = ((i + 1 : Nat) : Int) := by rw [IntKind.wrap_i64]; omega
    have hjn : decide (((i + 1 : Nat) : Int) < ((rs s.data.toList).length : Int)) = false := decide_eq_false (by omega)
    generalize hj : i + 1 = j at *
    clear hj
    have hp : Lib.hasPrefix [47] [47, 47] = false := rfl
    rw [hp]
    clear hdt hbt hwd q1 q2 q3 q4 q5 q6 hrr hat hraw hb7 h47 hp
    generalize (rs s.data.toList).length = n at *
    go_enter Tryd.func40, Tryd.ntmps40
    go_wp2
    go_quiet (fail)
    go_wp2
    go_ret
    exact ⟨rfl, below_drewN _ _⟩
end Go.Proofs.YthpkjehoogodkaaDoor
