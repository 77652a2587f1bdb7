/- heads answers true. -/
import Derived.Test.YthpkjehoogodkaaDoorZKLaw
namespace Go.Proofs.YthpkjehoogodkaaDoor
open Go.RowKit

def threeQ : List Tq := [⟨1, 0, 0, 0, ⟨#[97]⟩, 0⟩, ⟨4, 0, 0, 0, ⟨#[61, 61]⟩, 0⟩, ⟨3, 0, 0, 0, ⟨#[98]⟩, 0⟩]
theorem tq_ok0 (k : Int) (t : ByteArray) (h : t.size ≤ 1048576) : (⟨k, 0, 0, 0, t, 0⟩ : Tq).ok := ⟨show (-9223372036854775808 : Int) ≤ 0 by decide, show (0 : Int) ≤ 9223372036854775807 by decide, h⟩
theorem threeQ_all : ∀ x ∈ threeQ, x.ok := by
  intro x hm
  unfold threeQ at hm
  simp only [List.mem_cons, List.not_mem_nil, or_false] at hm
  rcases hm with rfl | rfl | rfl
  · exact tq_ok0 _ _ (by decide)
  · exact tq_ok0 _ _ (by decide)
  · exact tq_ok0 _ _ (by decide)
theorem threeQ_ok (j : Nat) (h : j < threeQ.length) : threeQ[j].ok := threeQ_all _ (List.getElem_mem h)
theorem three_at (W : World) (ty : TypeId) : TqAt (W.alloc (.cells #[.int .i64 1, .int .i64 0, .int .i64 0, .int .i64 0, .string ⟨#[97]⟩, .int .i64 0, .int .i64 4, .int .i64 0, .int .i64 0, .int .i64 0, .string ⟨#[61, 61]⟩, .int .i64 0, .int .i64 3, .int .i64 0, .int .i64 0, .int .i64 0, .string ⟨#[98]⟩, .int .i64 0] ty)) (W.alloc (.cells #[.int .i64 1, .int .i64 0, .int .i64 0, .int .i64 0, .string ⟨#[97]⟩, .int .i64 0, .int .i64 4, .int .i64 0, .int .i64 0, .int .i64 0, .string ⟨#[61, 61]⟩, .int .i64 0, .int .i64 3, .int .i64 0, .int .i64 0, .int .i64 0, .string ⟨#[98]⟩, .int .i64 0] ty)).heap.size (.slice (some ⟨W.heap.size, 0, none⟩) 3 3) threeQ := by
  have hg := World.alloc_heap_new W (.cells #[.int .i64 1, .int .i64 0, .int .i64 0, .int .i64 0, .string ⟨#[97]⟩, .int .i64 0, .int .i64 4, .int .i64 0, .int .i64 0, .int .i64 0, .string ⟨#[61, 61]⟩, .int .i64 0, .int .i64 3, .int .i64 0, .int .i64 0, .int .i64 0, .string ⟨#[98]⟩, .int .i64 0] ty)
  refine ⟨some ⟨W.heap.size, 0, none⟩, 3, rfl, by decide, fun j hj => ⟨W.heap.size, 0, rfl, by simp, fun i v hv => ?_, ?_⟩⟩
  · have hi : i < 6 := by
      by_cases q : i < 6
      · exact q
      · rw [Array.getElem?_eq_none (by simp; omega)] at hv
        cases hv
    have hj3 : j = 0 ∨ j = 1 ∨ j = 2 := by have : j < 3 := hj; omega
    have hi6 : i = 0 ∨ i = 1 ∨ i = 2 ∨ i = 3 ∨ i = 4 ∨ i = 5 := by omega
    rcases hj3 with rfl | rfl | rfl
    · rcases hi6 with rfl | rfl | rfl | rfl | rfl | rfl
      · exact kcells_at hg 0 _ hv
      · exact kcells_at hg 1 _ hv
      · exact kcells_at hg 2 _ hv
      · exact kcells_at hg 3 _ hv
      · exact kcells_at hg 4 _ hv
      · exact kcells_at hg 5 _ hv
    · rcases hi6 with rfl | rfl | rfl | rfl | rfl | rfl
      · exact kcells_at hg 6 _ hv
      · exact kcells_at hg 7 _ hv
      · exact kcells_at hg 8 _ hv
      · exact kcells_at hg 9 _ hv
      · exact kcells_at hg 10 _ hv
      · exact kcells_at hg 11 _ hv
    · rcases hi6 with rfl | rfl | rfl | rfl | rfl | rfl
      · exact kcells_at hg 12 _ hv
      · exact kcells_at hg 13 _ hv
      · exact kcells_at hg 14 _ hv
      · exact kcells_at hg 15 _ hv
      · exact kcells_at hg 16 _ hv
      · exact kcells_at hg 17 _ hv
  · have hj3 : j = 0 ∨ j = 1 ∨ j = 2 := by have : j < 3 := hj; omega
    rcases hj3 with rfl | rfl | rfl
    · exact threeQ_ok 0 (by decide)
    · exact threeQ_ok 1 (by decide)
    · exact threeQ_ok 2 (by decide)
theorem headScan1 (w : World) (hT : KT w) : Calls Tryd.prog 7 #[.string ⟨#[120, 39, 32, 60, 61, 32, 49, 48, 32, 47, 47, 32, 121]⟩] w fun e w' => (∃ g cp, e = .returned (.tuple #[.slice (some ⟨g, 0, none⟩) 4 cp, .agg #[.int .i64 0, .int .i64 0, .int .i64 0, .int .i64 0]]) ∧ g < w'.heap.size ∧
    w'.cell? ⟨g, 4, none⟩ = some (.string ⟨#[120, 39]⟩) ∧ w'.cell? ⟨g, 10, none⟩ = some (.string ⟨#[60, 61]⟩) ∧ w'.cell? ⟨g, 17, none⟩ = some (.int .i64 10)) ∧ Below w.heap.size w w' := by
  refine (scan_k ⟨#[120, 39, 32, 60, 61, 32, 49, 48, 32, 47, 47, 32, 121]⟩ (by decide) w hT).mono ?_
  rintro e w' ⟨v, he, h1, _, hb⟩
  have e0 : (⟨#[120, 39, 32, 60, 61, 32, 49, 48, 32, 47, 47, 32, 121]⟩ : ByteArray).data.toList = [120, 39, 32, 60, 61, 32, 49, 48, 32, 47, 47, 32, 121] := rfl
  rw [e0, sc_one] at h1 he
  have h1 := h1 rfl
  obtain ⟨g, cp, rfl⟩ := ownsRow_succ (k := 3) h1
  refine ⟨⟨g, cp, he, (h1.lt g rfl).2, rowCell h1 4 _ rfl, rowCell h1 10 _ rfl, rowCell h1 17 _ rfl⟩, hb⟩
theorem headScan2 (w : World) (hT : KT w) : Calls Tryd.prog 7 #[.string ⟨#[97, 32, 48, 48, 55]⟩] w fun e w' => (∃ v, e = .returned (.tuple #[v, .agg #[.int .i64 22, .int .i64 2, .int .i64 1, .int .i64 3]])) ∧ Below w.heap.size w w' := by
  refine (scan_k ⟨#[97, 32, 48, 48, 55]⟩ (by decide) w hT).mono ?_
  rintro e w' ⟨v, he, _, _, hb⟩
  have e0 : (⟨#[97, 32, 48, 48, 55]⟩ : ByteArray).data.toList = [97, 32, 48, 48, 55] := rfl
  rw [e0, sc_two] at he
  refine ⟨⟨v, ?_⟩, hb⟩
  rw [he]
  unfold flt
  dsimp only
  rw [lc_two]
  rfl
theorem headJoin (w : World) (hT : KT w) (sl : Value) (hi : TqAt w w.heap.size sl threeQ) : Calls Tryd.prog 13 #[sl] w fun e w' => e = .returned (.tuple #[.string ⟨#[97, 32, 61, 61, 32, 35, 98]⟩, .int .i64 0]) ∧ Below w.heap.size w w' := by
  refine (join_k threeQ sl w hT hi).mono ?_
  rintro e w' ⟨he, hb⟩
  refine ⟨?_, hb⟩
  have e1 : threeQ.map Tq.tk = [⟨1, [97], 0⟩, ⟨4, [61, 61], 0⟩, ⟨3, [98], 0⟩] := rfl
  rw [he, e1, okJ_three, jn_three]
  rfl

set_option maxRecDepth 100000 in
set_option maxHeartbeats 4000000 in
theorem heads9_k (w : World) (hT : KT w) : Calls Tryd.prog 10 #[] w fun e w' => e = .returned (.bool true) ∧ Below w.heap.size w w' := by
  have H1 := hide (headScan1 w hT)
  have H2 := hide headScan2
  have H3 := hide headJoin
  have HT := hide hT
  clear hT
  go_enter Tryd.func10, Tryd.ntmps10
  go_wp2_with (go_at_call 7; refine H1.out.mono ?_)
  rintro e w1 ⟨⟨g, cp, rfl, hg, a1, a2, a3⟩, b1⟩
  have bW1 : Below w1.heap.size w1 (w1.alloc (.cells #[.int .i64 0, .int .i64 0, .int .i64 0, .int .i64 0] 27)) := kalloc (Below.refl _ _) _
  have f1 : (w1.alloc (.cells #[.int .i64 0, .int .i64 0, .int .i64 0, .int .i64 0] 27)).heap[w1.heap.size]? = some (.cells #[.int .i64 0, .int .i64 0, .int .i64 0, .int .i64 0] 27 (0, 0)) := World.alloc_heap_new w1 _
  have z1 : w1.heap.size < (w1.alloc (.cells #[.int .i64 0, .int .i64 0, .int .i64 0, .int .i64 0] 27)).heap.size := (Array.getElem?_eq_some_iff.1 f1).1
  have BA := hide (ktrans b1 bW1)
  have A1 := hide (kkeepCell a1 bW1)
  have A2 := hide (kkeepCell a2 bW1)
  have A3 := hide (kkeepCell a3 bW1)
  have F1 := hide f1
  have K1 := hide (HT.out.below BA.out)
  have Z1 := hide z1
  clear b1 bW1 H1 a1 a2 a3 f1 z1
  go_wp2_with (go_at_call 7; refine (H2.out _ K1.out).mono ?_)
  rintro e w2 ⟨⟨v2, rfl⟩, b2⟩
  obtain ⟨W2, hW2⟩ : ∃ W2, w2.alloc (.cells #[.int .i64 22, .int .i64 2, .int .i64 1, .int .i64 3] 27) = W2 := ⟨_, rfl⟩
  have bW2 : Below w2.heap.size w2 W2 := by rw [← hW2]; exact kalloc (Below.refl _ _) _
  have f2 : W2.heap[w2.heap.size]? = some (.cells #[.int .i64 22, .int .i64 2, .int .i64 1, .int .i64 3] 27 (0, 0)) := by rw [← hW2]; exact World.alloc_heap_new w2 _
  have z2 : w2.heap.size < W2.heap.size := (Array.getElem?_eq_some_iff.1 f2).1
  have b12 := ktrans b2 bW2
  have a1 := kkeepCell A1.out b12
  have a2 := kkeepCell A2.out b12
  have a3 := kkeepCell A3.out b12
  have f1 := (b12.block _ Z1.out).trans F1.out
  have zz1 : w1.heap.size < W2.heap.size := (Array.getElem?_eq_some_iff.1 f1).1
  have BB := hide (ktrans BA.out b12)
  have K2 := hide (K1.out.below b12)
  clear b2 bW2 b12 H2 BA K1 A1 A2 A3 F1 Z1
  have A1 := hide a1
  have A2 := hide a2
  have A3 := hide a3
  have F1 := hide f1
  have F2 := hide f2
  clear a1 a2 a3 f1 f2
  go_wp2_with (go_at_call 13; refine (H3.out _ (K2.out.below (kalloc (Below.refl _ _) _)) _ (three_at W2 _)).mono ?_)
  rintro e w3 ⟨rfl, b3⟩
  have b13 := ktrans (kalloc (Below.refl W2.heap.size W2) _) b3
  have a1 := kkeepCell A1.out b13
  have a2 := kkeepCell A2.out b13
  have a3 := kkeepCell A3.out b13
  have g1 := (b13.block _ zz1).trans F1.out
  have g2 := (b13.block _ z2).trans F2.out
  have c0 := kcells_at g1 0 _ rfl
  have c1 := kcells_at g1 1 _ rfl
  have c2 := kcells_at g1 2 _ rfl
  have c3 := kcells_at g1 3 _ rfl
  have d0 := kcells_at g2 0 _ rfl
  have d1 := kcells_at g2 1 _ rfl
  have d2 := kcells_at g2 2 _ rfl
  have d3 := kcells_at g2 3 _ rfl
  have BC := hide (ktrans BB.out b13)
  clear b3 b13 g1 g2 A1 A2 A3 F1 F2 H3 BB K2
  go_wp2
  go_ret
  exact ⟨rfl, BC.out⟩
end Go.Proofs.YthpkjehoogodkaaDoor
