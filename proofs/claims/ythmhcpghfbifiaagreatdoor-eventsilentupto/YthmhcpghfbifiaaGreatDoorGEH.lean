/- What the row's list of laid variables gives: the tables that the program reads. -/
import Derived.Test.YthmhcpghfbifiaaGreatDoorGText
import Derived.Test.YthmhcpghfbifiaaGreatDoorCards
import Derived.Test.YthmhcpghfbifiaaGreatDoorTie
import Derived.ProofKit
import Derived.OpenShut
import Derived.Deep.DeepHandedRow
import Derived.ChangeSame
import Derived.Lib.LaidU8
namespace Go.Proofs.YthmhcpghfbifiaaGreatDoor
open Go.ChangeShapes Go.WideShapes Go.ChangeAt Go.RowKit

theorem laidOut : laidOutB Tryz.prog = true := by kernel_rfl
theorem own : ownKnob Tryz.prog.godebug = none := by kernel_rfl
theorem gPowType : (Tryz.prog.globals[2]?).map (·.type) = some 210 := by kernel_rfl
theorem gLet : Tryz.prog.globalNamed "sextant/text.letters" = some 0 := by kernel_rfl
theorem gLetType : (Tryz.prog.globals[0]?).map (·.type) = some 162 := by kernel_rfl
theorem cellsPow : Tryz.prog.cellsOf 210 = 20 := by kernel_rfl
theorem cellsU64 : Tryz.prog.cellsOf 79 = 1 := by kernel_rfl
theorem cellsI32 : Tryz.prog.cellsOf 21 = 1 := by kernel_rfl
theorem cellsSpan : Tryz.prog.cellsOf 161 = 2 := by kernel_rfl
theorem cellsLet : Tryz.prog.cellsOf 162 = 16 := by kernel_rfl

theorem var_heap {w : World} {name : String} {g : Nat} {cs : Array Value} (hg : Tryz.prog.globalNamed name = some g) (h : w.var? Tryz.prog name = some cs) : ∃ t z, w.heap[g]? = some (.cells cs t z) := by
  unfold World.var? at h
  rw [hg] at h
  simp only [Option.bind_some] at h
  split at h
  · rename_i c t z e
    cases h
    exact ⟨t, z, e⟩
  · cases h

theorem span_cells {w : World} {fuel : Nat} {cs : List Value} {a b : Int} {p : List MemPlace}
    (h : DataW.trod (fun _ => ()) Tryz.prog w 0 (fun _ => true) false fuel 161 cs = some (.agg [.lit (.int .i32 a), .lit (.int .i32 b)], p)) : cs = [.int .i32 a, .int .i32 b] := by
  obtain ⟨y0, y1, n, hx, hl, h0, h1⟩ := trod_struct2 Tryz.underlying161 h
  rw [cellsSpan] at hl
  obtain ⟨z0, e0, rfl, _⟩ := DataW.trod_int Tryz.underlying21 h0
  obtain ⟨z1, e1, rfl, _⟩ := DataW.trod_int Tryz.underlying21 h1
  have hx1 := congrArg Prod.fst hx
  simp only [DataW.agg.injEq, List.cons.injEq, DataW.lit.injEq, Lit.int.injEq, true_and, and_true] at hx1
  obtain ⟨rfl, rfl⟩ := hx1
  rw [cellsI32] at e0 e1
  have ec : cs = (cs.drop 0).take 1 ++ (cs.drop 1).take 1 := by
    rw [List.take_of_length_le (l := cs.drop 1) (by rw [List.length_drop]; omega), List.drop_zero, List.take_append_drop]
  rw [ec]
  dsimp only at e0 e1
  rw [e0, e1]
  rfl

def letData : List (Int × Int) := [(65, 90), (95, 95), (97, 122), (192, 214), (216, 246), (248, 591), (913, 929), (931, 969)]
theorem let_cells {w : World} {fuel : Nat} {cs : List Value} {p : List MemPlace}
    (h : DataW.trod (fun _ => ()) Tryz.prog w 0 (fun _ => true) false fuel 162 cs = some (Rows.laid_sextant_text_letters, p)) :
    cs = [.int .i32 65, .int .i32 90, .int .i32 95, .int .i32 95, .int .i32 97, .int .i32 122, .int .i32 192, .int .i32 214, .int .i32 216, .int .i32 246, .int .i32 248, .int .i32 591, .int .i32 913, .int .i32 929, .int .i32 931, .int .i32 969] := by
  cases fuel with
  | zero => simp [DataW.trod] at h
  | succ fuel =>
    simp only [DataW.trod, Tryz.underlying162, cellsSpan, cellsLet] at h
    split at h
    · rename_i hl
      obtain ⟨xs, hm, hx⟩ := Option.map_eq_some_iff.1 h
      have hxs : xs.map (·.1) = letData.map fun q => (DataW.agg [.lit (.int .i32 q.1), .lit (.int .i32 q.2)] : DataW Unit) := congrArg (fun y => match y.1 with | .agg l => l | _ => []) hx
      have part : ∀ i, i < 8 → ∃ q, letData[i]? = some q ∧ (cs.drop (i * 2)).take 2 = [.int .i32 q.1, .int .i32 q.2] := fun i hi => by
        obtain ⟨b, hb, hf⟩ := Lib.mapM_at hm i i (by simp [hi])
        have h2 : (xs.map (·.1))[i]? = some b.1 := by simp [hb]
        rw [hxs, List.getElem?_map, Option.map_eq_some_iff] at h2
        obtain ⟨q, hq, e⟩ := h2
        refine ⟨q, hq, ?_⟩
        obtain ⟨b1, b2⟩ := b
        dsimp only at e
        subst e
        exact span_cells hf
      have step : ∀ k, cs.drop k = (cs.drop k).take 2 ++ cs.drop (k + 2) := fun k => by rw [← List.drop_drop, List.take_append_drop]
      obtain ⟨q0, e0, f0⟩ := part 0 (by decide)
      obtain ⟨q1, e1, f1⟩ := part 1 (by decide)
      obtain ⟨q2, e2, f2⟩ := part 2 (by decide)
      obtain ⟨q3, e3, f3⟩ := part 3 (by decide)
      obtain ⟨q4, e4, f4⟩ := part 4 (by decide)
      obtain ⟨q5, e5, f5⟩ := part 5 (by decide)
      obtain ⟨q6, e6, f6⟩ := part 6 (by decide)
      obtain ⟨q7, e7, f7⟩ := part 7 (by decide)
      simp only [letData, List.getElem?_cons_zero, List.getElem?_cons_succ, Option.some.injEq] at e0 e1 e2 e3 e4 e5 e6 e7
      subst e0 e1 e2 e3 e4 e5 e6 e7
      have s0 := step 0
      have s1 := step 2
      have s2 := step 4
      have s3 := step 6
      have s4 := step 8
      have s5 := step 10
      have s6 := step 12
      have s7 := step 14
      have sE : cs.drop 16 = [] := List.drop_eq_nil_of_le (by omega)
      rw [f0] at s0
      rw [f1] at s1
      rw [f2] at s2
      rw [f3] at s3
      rw [f4] at s4
      rw [f5] at s5
      rw [f6] at s6
      rw [f7, sE] at s7
      have sz : cs.drop 0 = cs := rfl
      rw [← sz, s0, s1, s2, s3, s4, s5, s6, s7]
      rfl
    · cases h

/-- The list that each row of this seat bears. -/
def laidL : List (String × DataW Unit) := [("math/bits.deBruijn32tab", Rows.laid_math_bits_deBruijn32tab), ("math/bits.deBruijn64tab", Rows.laid_math_bits_deBruijn64tab), ("internal/strconv.uint64pow10", Rows.laid_internal_strconv_uint64pow10), ("sextant/text.letters", Rows.laid_sextant_text_letters)]
theorem tabs_of_laid {W : World} (h : laidMetH Tryz.prog laidL W) : Tabs W := by
  have h' : laidMet Tryz.prog laidL W := h
  obtain ⟨ps, hv, _⟩ := h'
  obtain ⟨_, _, _, _, _, _, _, _, _, _, hv, _⟩ := hv
  obtain ⟨_, _, _, _, _, _, _, _, _, _, hv, _⟩ := hv
  obtain ⟨g3, t3, cs3, f3, p3, q3, hg3, ht3, hv3, hd3, hv, _⟩ := hv
  obtain ⟨g4, t4, cs4, f4, p4, q4, hg4, ht4, hv4, hd4, _, _⟩ := hv
  obtain rfl := Option.some.inj (gPow.symm.trans hg3)
  obtain rfl := Option.some.inj (gPowType.symm.trans ht3)
  obtain rfl := Option.some.inj (gLet.symm.trans hg4)
  obtain rfl := Option.some.inj (gLetType.symm.trans ht4)
  have hc3 := Lib.cells_of_tab (k := .u64) (zs := Lib.pow10Tab) Tryz.underlying210 Tryz.underlying79 cellsU64 cellsPow hd3
  have hc4 := let_cells hd4
  obtain ⟨t, z, e3⟩ := var_heap gPow hv3
  obtain ⟨t', z', e4⟩ := var_heap gLet hv4
  refine ⟨⟨t, z, ?_⟩, ⟨t', z', ?_⟩⟩
  · rw [e3, ← hc3]
  · rw [e4]
    have : cs4 = cs4.toList.toArray := by simp
    rw [this, hc4]

def cellsTo (w : World) (g : Nat) (cs : Array Value) : World := { w with heap := w.heap.modify g fun
  | .cells _ t frozen => .cells cs t frozen
  | o => o }
/-- A world for the witness: the settled one, each table holding what its initialiser lays. -/
noncomputable def laidWorld (os : Os) : World :=
  cellsTo (cellsTo (cellsTo (cellsTo (World.holding Tryz.prog os ⟨#[], #[], []⟩) 5 (([0, 1, 28, 2, 29, 14, 24, 3, 30, 22, 20, 15, 25, 17, 4, 8, 31, 27, 13, 23, 21, 19, 16, 7, 26, 12, 18, 6, 11, 5, 10, 9] : List Int).map fun z => Value.int .u8 z).toArray) 6 (([0, 1, 56, 2, 57, 49, 28, 3, 61, 58, 42, 50, 38, 29, 17, 4, 62, 47, 59, 36, 45, 43, 51, 22, 53, 39, 33, 30, 24, 18, 12, 5, 63, 55, 48, 27, 60, 41, 37, 16, 46, 35, 44, 21, 52, 32, 23, 11, 54, 26, 40, 15, 34, 20, 31, 10, 25, 14, 19, 9, 13, 8, 7, 6] : List Int).map fun z => Value.int .u8 z).toArray) 2 (Lib.pow10Tab.map fun z => Value.int .u64 z).toArray) 0 (([65, 90, 95, 95, 97, 122, 192, 214, 216, 246, 248, 591, 913, 929, 931, 969] : List Int).map fun z => Value.int .i32 z).toArray
end Go.Proofs.YthmhcpghfbifiaaGreatDoor

/- What the row's list of laid variables gives: the tables that package event reads; a world that holds them. -/
namespace Go.Proofs.YthmhcpghfbifiaaGreatDoor
open Go.ChangeShapes Go.WideShapes Go.ChangeAt Go.RowKit

/-- The list that each row of this seat bears. -/
def laidE : List (String × DataW Unit) := [("math/bits.deBruijn32tab", Rows.laid_math_bits_deBruijn32tab), ("math/bits.deBruijn64tab", Rows.laid_math_bits_deBruijn64tab), ("internal/strconv.uint64pow10", Rows.laid_internal_strconv_uint64pow10), ("unicode/utf8.acceptRanges", Rows.laid_unicode_utf8_acceptRanges), ("sextant/text.letters", Rows.laid_sextant_text_letters), ("unicode/utf8.first", Rows.laid_unicode_utf8_first)]
theorem tabsE_of_laid {W : World} (h : laidMetH Tryz.prog laidE W) : Tabs W := by
  have h' : laidMet Tryz.prog laidE W := h
  have r3 := Lib.laidMet.reads h' (n := "internal/strconv.uint64pow10") (d := Rows.laid_internal_strconv_uint64pow10) (by unfold laidE; simp)
  have r5 := Lib.laidMet.reads h' (n := "sextant/text.letters") (d := Rows.laid_sextant_text_letters) (by unfold laidE; simp)
  obtain ⟨g3, t3, cs3, f3, p3, hg3, ht3, hv3, hd3⟩ := r3
  obtain ⟨g5, t5, cs5, f5, p5, hg5, ht5, hv5, hd5⟩ := r5
  obtain rfl := Option.some.inj (gPow.symm.trans hg3)
  obtain rfl := Option.some.inj (gPowType.symm.trans ht3)
  obtain rfl := Option.some.inj (gLet.symm.trans hg5)
  obtain rfl := Option.some.inj (gLetType.symm.trans ht5)
  have hc3 := Lib.cells_of_tab (k := .u64) (zs := Lib.pow10Tab) Tryz.underlying210 Tryz.underlying79 cellsU64 cellsPow hd3
  have hc5 := let_cells hd5
  obtain ⟨t, z, e3⟩ := var_heap gPow hv3
  obtain ⟨t', z', e5⟩ := var_heap gLet hv5
  refine ⟨⟨t, z, ?_⟩, ⟨t', z', ?_⟩⟩
  · rw [e3, ← hc3]
  · rw [e5]
    have : cs5 = cs5.toList.toArray := by simp
    rw [this, hc5]
/-- A world for the witness: the settled one, each table holding what its initialiser lays. -/
noncomputable def laidWorldE (os : Os) : World :=
  cellsTo (cellsTo (laidWorld os) 4 (([128, 191, 160, 191, 128, 159, 144, 191, 128, 143, 0, 0, 0, 0, 0, 0, 0, 0, 0, 0, 0, 0, 0, 0, 0, 0, 0, 0, 0, 0, 0, 0] : List Int).map fun z => Value.int .u8 z).toArray) 3 (Lib.firstTab.map fun z => Value.int .u8 z).toArray
end Go.Proofs.YthmhcpghfbifiaaGreatDoor
