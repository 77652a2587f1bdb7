/- TokenScans: the walk. -/
import Derived.Test.YthpkjehoogodkaaDoorZKR7
import Derived.Test.YthpkjehoogodkaaDoorZKHeads
namespace Go.Proofs.YthpkjehoogodkaaDoor
open Go.RowKit

/-- What Scan tells, as it lies in memory. -/
def tkl (L : List UInt8) : List Tq := if (sc L 0).2 = Option.none then tqs L (sc L 0).1 else []
theorem tkl_raw {L : List UInt8} (hL : L.length ≤ 4294967296) {w' : World} {B : Nat} {v : Value} (h1 : (sc L 0).2 = Option.none → w'.ownsRow B 35 6 v (sc L 0).1.length (tkRow L (sc L 0).1)) (h2 : (sc L 0).2 ≠ Option.none → v = .slice none 0 0) : RawAt w' w'.heap.size v (tkl L) := by
  unfold tkl
  by_cases hf : (sc L 0).2 = Option.none
  · rw [if_pos hf]
    have h := h1 hf
    rw [tqs_row, ← tqs_len L] at h
    refine raw_row h ?_
    rw [tqs_len]
    have := sc_len L
    omega
  · rw [if_neg hf, h2 hf]
    exact ⟨none, 0, rfl, Nat.zero_le _, fun j hj => absurd hj (by simp)⟩
theorem flt_four (L : List UInt8) (x : Option (Int × Nat)) : ∃ c o l k : Int, flt L x = #[.int .i64 c, .int .i64 o, .int .i64 l, .int .i64 k] := by
  cases x with
  | none => exact ⟨0, 0, 0, 0, rfl⟩
  | some x => exact ⟨_, _, _, _, rfl⟩
theorem scan_raw (s : ByteArray) (hs : s.size ≤ 4294967296) (w : World) (hT : KT w) : Calls Tryd.prog 7 #[.string s] w fun e w' => ∃ v, e = .returned (.tuple #[v, .agg (flt s.data.toList (sc s.data.toList 0).2)]) ∧ RawAt w' w'.heap.size v (tkl s.data.toList) ∧ Below w.heap.size w w' := by
  refine (scan_k s hs w hT).mono ?_
  rintro e w' ⟨v, he, h1, h2, hb⟩
  exact ⟨v, he, tkl_raw (by rw [size_toList]; exact hs) h1 h2, hb⟩
theorem refScan_raw (s : ByteArray) (hs : s.size ≤ 1048576) (w : World) : Calls Tryd.prog 8 #[.string s] w fun e w' => ∃ v, e = .returned (.tuple #[v, .agg (flt s.data.toList (sc s.data.toList 0).2)]) ∧ RawAt w' w'.heap.size v (tkl s.data.toList) ∧ Below w.heap.size w w' := by
  refine (refScan_k s hs w).mono ?_
  rintro e w' ⟨v, he, h1, h2, hb⟩
  by_cases hf : (sc s.data.toList 0).2 = Option.none
  · obtain ⟨B, _, hr⟩ := h1 hf
    exact ⟨v, he, tkl_raw (by rw [size_toList]; omega) (fun _ => hr) h2, hb⟩
  · exact ⟨v, he, tkl_raw (B := 0) (by rw [size_toList]; omega) (fun h => absurd h hf) h2, hb⟩
theorem fltEq (c o l k : Int) (w : World) : (binOp BinOp.eql 27 (.agg #[.int .i64 c, .int .i64 o, .int .i64 l, .int .i64 k]) (.agg #[.int .i64 c, .int .i64 o, .int .i64 l, .int .i64 k])).run Tryd.prog w = .ok (.bool true) w := by
  simp [go_sem]

set_option maxRecDepth 100000 in
set_option maxHeartbeats 4000000 in
theorem tokenScans_walk (s : ByteArray) (hs : s.size ≤ 1048576) (w : World) (hT : KT w) :
    Calls Tryd.prog 3 #[.string s] w fun e w' => e = .returned (.bool true) ∧ Below w.heap.size w w' := by
  have H1 := hide (scan_raw s (by omega) w hT)
  have H2 := hide (fun X => refScan_raw s hs X)
  have HT := hide hT
  clear hT
  generalize tkl s.data.toList = T at *
  obtain ⟨c, o, l, k, hf⟩ := flt_four s.data.toList (sc s.data.toList 0).2
  rw [hf] at H1 H2
  have hfe := fun w => fltEq c o l k w
  clear hf
  go_enter Tryd.func3, Tryd.ntmps3
  go_wp2_with (go_at_call 7; refine H1.out.mono ?_; clear H1)
  rintro e w1 ⟨v1, rfl, r1, b1⟩
  obtain ⟨a1, c1, rfl, hl1⟩ := r1.len
  obtain ⟨W1, hW1⟩ : ∃ W1, w1.alloc (.cells #[.int .i64 c, .int .i64 o, .int .i64 l, .int .i64 k] 27) = W1 := ⟨_, rfl⟩
  have bA : Below w1.heap.size w1 W1 := by rw [← hW1]; exact kalloc (Below.refl _ _) _
  have E1 := hide (show W1.heap[w1.heap.size]? = some (.cells #[.int .i64 c, .int .i64 o, .int .i64 l, .int .i64 k] 27 (0, 0)) by rw [← hW1]; exact World.alloc_heap_new w1 _)
  have z1 : w1.heap.size < W1.heap.size := (Array.getElem?_eq_some_iff.1 E1.out).1
  have R1 := hide ((r1.below bA).up bA.size)
  have B1 := hide (ktrans b1 bA)
  clear r1 b1 bA
  go_wp2_with (go_at_call 8; refine (H2.out _).mono ?_; clear H2)
  rintro e w2 ⟨v2, rfl, r2, b2⟩
  obtain ⟨a2, c2, rfl, hl2⟩ := r2.len
  obtain ⟨W2, hW2⟩ : ∃ W2, w2.alloc (.cells #[.int .i64 c, .int .i64 o, .int .i64 l, .int .i64 k] 27) = W2 := ⟨_, rfl⟩
  have bA : Below w2.heap.size w2 W2 := by rw [← hW2]; exact kalloc (Below.refl _ _) _
  have E2 := hide (show W2.heap[w2.heap.size]? = some (.cells #[.int .i64 c, .int .i64 o, .int .i64 l, .int .i64 k] 27 (0, 0)) by rw [← hW2]; exact World.alloc_heap_new w2 _)
  have z2 : w2.heap.size < W2.heap.size := (Array.getElem?_eq_some_iff.1 E2.out).1
  have b12 := ktrans b2 bA
  have R1 := hide ((R1.out.below b12).up b12.size)
  have R2 := hide ((r2.below bA).up bA.size)
  have E1 := hide ((b12.block _ z1).trans E1.out)
  have y1 : w1.heap.size < W2.heap.size := by have := b12.size; omega
  have B2 := hide (ktrans B1.out b12)
  clear r2 b2 bA b12 z1
  go_wp2_with (go_at_call 9; refine (same_yes T _ _ _ R1.out R2.out).mono ?_)
  rintro e w3 ⟨rfl, b3⟩
  have g1 := (b3.block _ y1).trans E1.out
  have g2 := (b3.block _ z2).trans E2.out
  have f0 := kcells_at g1 0 _ rfl
  have f1 := kcells_at g1 1 _ rfl
  have f2 := kcells_at g1 2 _ rfl
  have f3 := kcells_at g1 3 _ rfl
  have d0 := kcells_at g2 0 _ rfl
  have d1 := kcells_at g2 1 _ rfl
  have d2 := kcells_at g2 2 _ rfl
  have d3 := kcells_at g2 3 _ rfl
  have B3 := hide (ktrans B2.out b3)
  clear b3 g1 g2 E1 E2 R1 R2 B1 B2 y1 z2
  go_wp2_with (go_at_call 10; refine (heads9_k _ (HT.out.below B3.out)).mono ?_; rintro e w7 ⟨rfl, b7⟩; have B7 := hide (ktrans B3.out b7); clear b7)
  go_ret
  exact ⟨rfl, B7.out⟩
end Go.Proofs.YthpkjehoogodkaaDoor
