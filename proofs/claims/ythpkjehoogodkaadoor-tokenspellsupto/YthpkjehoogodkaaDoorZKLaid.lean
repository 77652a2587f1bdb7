/- What the row's list of laid variables gives: the tables that package token reads; a world that holds them. -/
import Derived.Test.YthpkjehoogodkaaDoorZKMark
import Derived.Test.YthpkjehoogodkaaDoorZTLaid
import Derived.Lib.LaidU8
import Derived.PinnedBridge
namespace Go.Proofs.YthpkjehoogodkaaDoor
open Go.ChangeShapes Go.WideShapes Go.ChangeAt Go.RowKit

/-- The list that each row of this seat bears. -/
def laidK : List (String × DataW Unit) := [("math/bits.deBruijn32tab", Rows.laid_math_bits_deBruijn32tab), ("math/bits.deBruijn64tab", Rows.laid_math_bits_deBruijn64tab), ("internal/strconv.uint64pow10", Rows.laid_internal_strconv_uint64pow10), ("unicode/utf8.acceptRanges", Rows.laid_unicode_utf8_acceptRanges), ("sextant/text.letters", Rows.laid_sextant_text_letters), ("sextant/token.marks", Rows.laid_sextant_token_marks), ("unicode/utf8.first", Rows.laid_unicode_utf8_first)]
theorem accept_eq : (Rows.laid_unicode_utf8_acceptRanges : DataW Unit) = Lib.acceptData := by kernel_rfl
theorem first_eq : Rows.laid_unicode_utf8_first = Lib.firstData := Pinned.utf8First_eq
theorem u8Extra : U8Extra Tryd.prog Tryd.lays260_ren := ⟨by kernel_rfl, by kernel_rfl, by kernel_rfl, by kernel_rfl, by kernel_rfl, by kernel_rfl, by kernel_rfl⟩
theorem gMarks : Tryd.prog.globalNamed "sextant/token.marks" = some 1 := by kernel_rfl
theorem gMarksType : (Tryd.prog.globals[1]?).map (·.type) = some 95 := by kernel_rfl
theorem cellsMarks : Tryd.prog.cellsOf 95 = 24 := by kernel_rfl
theorem cellsStr : Tryd.prog.cellsOf 9 = 1 := by kernel_rfl
def marksV : List Value := [.string ⟨#[61, 61]⟩, .string ⟨#[33, 61]⟩, .string ⟨#[60, 61]⟩, .string ⟨#[62, 61]⟩, .string ⟨#[40]⟩, .string ⟨#[41]⟩, .string ⟨#[91]⟩, .string ⟨#[93]⟩, .string ⟨#[123]⟩, .string ⟨#[125]⟩, .string ⟨#[44]⟩, .string ⟨#[59]⟩, .string ⟨#[46]⟩, .string ⟨#[43]⟩, .string ⟨#[45]⟩, .string ⟨#[42]⟩, .string ⟨#[47]⟩, .string ⟨#[37]⟩, .string ⟨#[124]⟩, .string ⟨#[38]⟩, .string ⟨#[92]⟩, .string ⟨#[60]⟩, .string ⟨#[62]⟩, .string ⟨#[61]⟩]
theorem marks_data : (Rows.laid_sextant_token_marks : DataW Unit) = .agg (marksL.map fun m => .lit (.string m)) := by kernel_rfl
theorem marksV_at : ∀ i, i < 24 → ∀ s : ByteArray, s.data.toList = marksL.getD i [] → marksV[i]? = some (.string s) := by
  intro i hi s hs
  have e : s = str (marksL.getD i []) := by rw [← hs, str_bytes]
  rw [e]
  exact match i, hi with
  | 0, _ => rfl
  | 1, _ => rfl
  | 2, _ => rfl
  | 3, _ => rfl
  | 4, _ => rfl
  | 5, _ => rfl
  | 6, _ => rfl
  | 7, _ => rfl
  | 8, _ => rfl
  | 9, _ => rfl
  | 10, _ => rfl
  | 11, _ => rfl
  | 12, _ => rfl
  | 13, _ => rfl
  | 14, _ => rfl
  | 15, _ => rfl
  | 16, _ => rfl
  | 17, _ => rfl
  | 18, _ => rfl
  | 19, _ => rfl
  | 20, _ => rfl
  | 21, _ => rfl
  | 22, _ => rfl
  | 23, _ => rfl
  | i + 24, h => by omega
theorem marks_cells {w : World} {fuel : Nat} {cs : List Value} {p : List MemPlace}
    (h : DataW.trod (fun _ => ()) Tryd.prog w 0 (fun _ => true) false fuel 95 cs = some (Rows.laid_sextant_token_marks, p)) : cs = marksV := by
  have hl : cs.length = 24 := by
    cases fuel with
    | zero => simp [DataW.trod] at h
    | succ fuel =>
      have h2 := h
      simp only [DataW.trod, Tryd.underlying95, cellsStr, cellsMarks] at h2
      split at h2
      · rename_i hl
        simpa using hl
      · cases h2
  rw [marks_data] at h
  apply List.ext_getElem?
  intro i
  by_cases hi : i < 24
  · obtain ⟨fuel', d, q, hd, he⟩ := Lib.array_elem Tryd.underlying95 h i hi
    rw [cellsStr, Nat.mul_one] at he
    obtain ⟨s, hc, hds, _⟩ := DataW.trod_string Tryd.underlying9 he
    have h1 : cs[i]? = some (.string s) := by
      have := congrArg (·[0]?) hc
      simpa [List.getElem?_take, List.getElem?_drop] using this
    have h2 : s.data.toList = marksL.getD i [] := by
      have hm : i < marksL.length := hi
      rw [List.getElem?_map, List.getElem?_eq_getElem hm] at hd
      simp only [Option.map_some, Option.some.injEq] at hd
      have e1 := congrArg Prod.fst hds
      rw [← hd] at e1
      simp only [DataW.lit.injEq, Lit.string.injEq] at e1
      rw [List.getD_eq_getElem?_getD, List.getElem?_eq_getElem hm]
      exact e1.symm
    rw [h1, marksV_at i hi s h2]
  · rw [List.getElem?_eq_none (by omega), List.getElem?_eq_none (by simp [marksV]; omega)]
theorem kt_of_laid {W : World} (h : laidMetH Tryd.prog laidK W) : KT W := by
  have h' : laidMet Tryd.prog laidK W := h
  have r3 := Lib.laidMet.reads h' (n := "internal/strconv.uint64pow10") (d := Rows.laid_internal_strconv_uint64pow10) (by unfold laidK; simp)
  have r4 := Lib.laidMet.reads h' (n := "unicode/utf8.acceptRanges") (d := Rows.laid_unicode_utf8_acceptRanges) (by unfold laidK; simp)
  have r5 := Lib.laidMet.reads h' (n := "sextant/text.letters") (d := Rows.laid_sextant_text_letters) (by unfold laidK; simp)
  have r6 := Lib.laidMet.reads h' (n := "sextant/token.marks") (d := Rows.laid_sextant_token_marks) (by unfold laidK; simp)
  have r7 := Lib.laidMet.reads h' (n := "unicode/utf8.first") (d := Rows.laid_unicode_utf8_first) (by unfold laidK; simp)
  rw [accept_eq] at r4
  rw [first_eq] at r7
  have hu := utf8Tabs_of_reads Tryd.lays260 u8Extra r7 r4
  obtain ⟨g3, t3, cs3, f3, p3, hg3, ht3, hv3, hd3⟩ := r3
  obtain ⟨g5, t5, cs5, f5, p5, hg5, ht5, hv5, hd5⟩ := r5
  obtain ⟨g6, t6, cs6, f6, p6, hg6, ht6, hv6, hd6⟩ := r6
  obtain rfl := Option.some.inj (gPow.symm.trans hg3)
  obtain rfl := Option.some.inj (gPowType.symm.trans ht3)
  obtain rfl := Option.some.inj (gLet.symm.trans hg5)
  obtain rfl := Option.some.inj (gLetType.symm.trans ht5)
  obtain rfl := Option.some.inj (gMarks.symm.trans hg6)
  obtain rfl := Option.some.inj (gMarksType.symm.trans ht6)
  have hc3 := Lib.cells_of_tab (k := .u64) (zs := Lib.pow10Tab) Tryd.underlying118 Tryd.underlying87 cellsU64 cellsPow hd3
  have hc5 := let_cells hd5
  have hc6 := marks_cells hd6
  obtain ⟨t, z, e3⟩ := var_heap gPow hv3
  obtain ⟨t', z', e5⟩ := var_heap gLet hv5
  obtain ⟨t'', z'', e6⟩ := var_heap gMarks hv6
  refine ⟨⟨⟨t, z, ?_⟩, ⟨t', z', ?_⟩⟩, hu, ⟨t'', z'', ?_⟩⟩
  · rw [e3, ← hc3]
  · rw [e5]
    have : cs5 = cs5.toList.toArray := by simp
    rw [this, hc5]
  · rw [e6]
    have : cs6 = cs6.toList.toArray := by simp
    rw [this, hc6]
    rfl
/-- A world for the witness: the settled one, each table holding what its initialiser lays. -/
noncomputable def laidWorldK (os : Os) : World :=
  cellsTo (cellsTo (cellsTo (laidWorld os) 3 (([128, 191, 160, 191, 128, 159, 144, 191, 128, 143, 0, 0, 0, 0, 0, 0, 0, 0, 0, 0, 0, 0, 0, 0, 0, 0, 0, 0, 0, 0, 0, 0] : List Int).map fun z => Value.int .u8 z).toArray) 1 marksV.toArray) 2 (Lib.firstTab.map fun z => Value.int .u8 z).toArray
end Go.Proofs.YthpkjehoogodkaaDoor
