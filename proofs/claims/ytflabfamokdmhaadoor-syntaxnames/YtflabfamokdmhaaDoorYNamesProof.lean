/- SyntaxNames answers true: the reserved words are those of the document, in its order, in memory that is the caller's own; the errors, limits and kinds have the document's numbers. Nothing is asked of the input but that the table of words starts as the program's text lays it. -/
import Derived.Test.YtflabfamokdmhaaDoorYWords
import Derived.Test.YtflabfamokdmhaaDoorCards
import Derived.Test.YtflabfamokdmhaaDoorTie
import Derived.ProofKit
import Derived.OpenShut
import Derived.Deep.DeepHandedRow
import Derived.ChangeSame
import Derived.Lib.LaidTab
import Derived.Lib.LaidU8
import Derived.ChangeMaps5
namespace Go.Proofs.YtflabfamokdmhaaDoor
open Go.ChangeShapes Go.WideShapes Go.ChangeAt Go.RowKit

theorem laidOut : laidOutB Tryd.prog = true := by kernel_rfl
theorem own : ownKnob Tryd.prog.godebug = none := by kernel_rfl
theorem gWords : Tryd.prog.globalNamed "sextant/syntax.reserved" = some 0 := by kernel_rfl
theorem gWordsType : (Tryd.prog.globals[0]?).map (·.type) = some 27 := by kernel_rfl
theorem cellsWords : Tryd.prog.cellsOf 27 = 18 := by kernel_rfl
theorem cellsStr : Tryd.prog.cellsOf 9 = 1 := by kernel_rfl
def wordsL : List (List UInt8) := [[116, 114, 117, 101], [102, 97, 108, 115, 101], [105, 102], [116, 104, 101, 110], [101, 108, 115, 101], [108, 101, 116], [100, 111], [102, 111, 108, 100], [111, 118, 101, 114], [102, 114, 111, 109], [119, 105, 116, 104], [97, 110, 100], [111, 114], [110, 111, 116], [105, 110], [119, 104, 101, 110], [103, 105, 118, 101], [110, 101, 120, 116]]
theorem words_data : (Rows.laid_sextant_syntax_reserved : DataW Unit) = .agg (wordsL.map fun m => .lit (.string m)) := by kernel_rfl
theorem wordsV_at : ∀ i, i < 18 → ∀ s : ByteArray, s.data.toList = wordsL.getD i [] → wordsV[i]? = some (.string s) := by
  intro i hi s hs
  obtain ⟨⟨l⟩⟩ := s
  simp only at hs
  subst hs
  exact match i, hi with
  | 0, _ => rfl
  | 1, _ => rfl
  | 2, _ => rfl
  | 3, _ => rfl
  | 4, _ => rfl
  | 5, _ => rfl
  | 6, _ => rfl
  | 7, _ => rfl
  | 8, _ => rfl
  | 9, _ => rfl
  | 10, _ => rfl
  | 11, _ => rfl
  | 12, _ => rfl
  | 13, _ => rfl
  | 14, _ => rfl
  | 15, _ => rfl
  | 16, _ => rfl
  | 17, _ => rfl
  | i + 18, h => by omega
theorem words_cells {w : World} {fuel : Nat} {cs : List Value} {p : List MemPlace}
    (h : DataW.trod (fun _ => ()) Tryd.prog w 0 (fun _ => true) false fuel 27 cs = some (Rows.laid_sextant_syntax_reserved, p)) : cs = wordsV := by
  have hl : cs.length = 18 := by
    cases fuel with
    | zero => simp [DataW.trod] at h
    | succ fuel =>
      have h2 := h
      simp only [DataW.trod, Tryd.underlying27, cellsStr, cellsWords] at h2
      split at h2
      · rename_i hl
        simpa using hl
      · cases h2
  rw [words_data] at h
  apply List.ext_getElem?
  intro i
  by_cases hi : i < 18
  · obtain ⟨fuel', d, q, hd, he⟩ := Lib.array_elem Tryd.underlying27 h i hi
    rw [cellsStr, Nat.mul_one] at he
    obtain ⟨s, hc, hds, _⟩ := DataW.trod_string Tryd.underlying9 he
    have h1 : cs[i]? = some (.string s) := by
      have := congrArg (·[0]?) hc
      simpa [List.getElem?_take, List.getElem?_drop] using this
    have h2 : s.data.toList = wordsL.getD i [] := by
      have hm : i < wordsL.length := hi
      rw [List.getElem?_map, List.getElem?_eq_getElem hm] at hd
      simp only [Option.map_some, Option.some.injEq] at hd
      have e1 := congrArg Prod.fst hds
      rw [← hd] at e1
      simp only [DataW.lit.injEq, Lit.string.injEq] at e1
      rw [List.getD_eq_getElem?_getD, List.getElem?_eq_getElem hm]
      exact e1.symm
    rw [h1, wordsV_at i hi s h2]
  · rw [List.getElem?_eq_none (by omega), List.getElem?_eq_none (by simp [wordsV]; omega)]
theorem var_heap {w : World} {name : String} {g : Nat} {cs : Array Value} (hg : Tryd.prog.globalNamed name = some g) (h : w.var? Tryd.prog name = some cs) : ∃ t z, w.heap[g]? = some (.cells cs t z) := by
  unfold World.var? at h
  rw [hg] at h
  simp only [Option.bind_some] at h
  split at h
  · rename_i c t z e
    cases h
    exact ⟨t, z, e⟩
  · cases h
/-- The list that the row bears. -/
def laidY : List (String × DataW Unit) := [("sextant/syntax.reserved", Rows.laid_sextant_syntax_reserved)]
theorem tabW_of_laid {W : World} (h : laidMetH Tryd.prog laidY W) : TabW W := by
  have h' : laidMet Tryd.prog laidY W := h
  have r := Lib.laidMet.reads h' (n := "sextant/syntax.reserved") (d := Rows.laid_sextant_syntax_reserved) (by unfold laidY; simp)
  obtain ⟨g, t, cs, f, p, hg, ht, hv, hd⟩ := r
  obtain rfl := Option.some.inj (gWords.symm.trans hg)
  obtain rfl := Option.some.inj (gWordsType.symm.trans ht)
  have hc := words_cells hd
  obtain ⟨t', z', e⟩ := var_heap gWords hv
  refine ⟨t', z', ?_⟩
  rw [e]
  have : cs = cs.toList.toArray := by simp
  rw [this, hc]
def cellsTo (w : World) (g : Nat) (cs : Array Value) : World := { w with heap := w.heap.modify g fun
  | .cells _ t frozen => .cells cs t frozen
  | o => o }
/-- A world for the witness: the settled one, the table holding what its initialiser lays. -/
noncomputable def laidWorldY (os : Os) : World := cellsTo (World.holding Tryd.prog os ⟨#[], #[], []⟩) 0 wordsV.toArray
end Go.Proofs.YtflabfamokdmhaaDoor
namespace Go.Proofs.YtflabfamokdmhaaDoor.syntaxNames
open Go.ChangeShapes Go.WideShapes Go.ChangeAt Go.RowKit

set_option maxRecDepth 100000 in
theorem contract (H : Type) (enc : TypeId × Value → H) (W : World) (args : Array Value) (ds gs : List (DataW H)) (before : List MemPlace)
    (hW : DataW.Whole enc Tryd.prog Tryd.f3.params.toList Rows.syntaxNamesSpec.vars false W args.toList ds gs before) (hL : laidMetH Tryd.prog laidY W) :
    Calls Tryd.prog 3 args W fun e W' => ∃ v, e = .returned v ∧ Rows.syntaxNamesSpec.post enc Tryd.prog Tryd.f3 false true false false W args v W' := by
  have hW' := hW
  obtain ⟨p, q, hA0, hV, rfl, hfz, hnd⟩ := hW'
  have hA : DataW.TrodAll enc Tryd.prog W 0 (fun _ => true) true Tryd.f3.params.toList args.toList ds p := hA0
  rw [Tryd.params3] at hA
  obtain ⟨hargs, rfl, rfl⟩ := trodAll_nil hA
  obtain rfl : args = #[] := by cases args; simp_all
  obtain ⟨rfl, rfl⟩ := trodVars_none hV
  clear hA0
  refine (syntaxNames_walk W (tabW_of_laid hL)).mono fun e W' ⟨he, bel⟩ => ?_
  subst he
  exact ⟨_, rfl, _, _, _, [], _, [], hW, trodAll_mk1 (shut_bool Tryd.underlying4 _), trodAll_mk0, rfl, bel.frame _, fun h => by cases h⟩

theorem laid_met (os : Os) : laidMet Tryd.prog Rows.syntaxNamesRow.laid ((laidWorldY os).forCall (fun _ _ => 0) ⟨#[], #[], []⟩).memory :=
  laidMet_of_run' 8 (by kernel_rfl) (by kernel_rfl)
theorem reads (os : Os) {H : Type} (enc : TypeId × Value → H) : ∃ places, DataW.whole enc Tryd.prog ((laidWorldY os).forCall (fun _ _ => 0) ⟨#[], #[], []⟩).memory Tryd.f3.params.toList Rows.syntaxNamesSpec.vars false (#[] : Array Value).toList 8 = some ([], [], places) :=
  ⟨[], by kernel_rfl⟩

set_option maxRecDepth 100000 in
theorem lifted (os : Os) (started : os.Started) (H : Type) (enc : TypeId × Value → H) (F : Stop.Interp) :
    ReturnsInHanded {} Tryd.checked os 3 .any ((OpenSpec.ofChange Rows.syntaxNamesSpec).preRow enc Tryd.prog Tryd.f3 Rows.syntaxNamesRow.domain false Rows.syntaxNamesRow.laid) (((OpenSpec.ofChange Rows.syntaxNamesSpec).at F).post enc Tryd.prog Tryd.f3 false true false false) := by
  obtain ⟨places, hx⟩ := reads os enc
  refine returnsInHanded_of_row (C := Tryd.checked) (s := OpenSpec.ofChange Rows.syntaxNamesSpec) own started (by kernel_rfl) Tryd.func3
    (witness_row_at (enc := enc) (C := Tryd.checked) false (laidWorldY os) #[] rfl (by kernel_rfl) (by kernel_rfl) (by kernel_rfl)
      (OpenSpec.preRow_of_cond 8 hx (by kernel_rfl) (fun k hk => by cases hk) (by kernel_rfl) (laid_met os))) ?_
  intro W base args ds gs before hval hW _ _ _ hL _ _
  exact contract H enc W args ds gs before hW hL

theorem said : Rows.SyntaxNamesSaid :=
  OpenClaim.holds_of_cond 3 Tryd.f3 rfl rfl rfl rfl rfl rfl rfl ⟨rfl, rfl, rfl, rfl, rfl⟩ rfl rfl rfl rfl rfl (by kernel_rfl) Tryd.func3 (by kernel_rfl)
    (of_decide_eq_true (by kernel_rfl)) (by unfold Func.isWrapper; first | (rw [if_pos (by decide +kernel)]; kernel_rfl) | (rw [if_neg (by decide +kernel)]; exact ⟨rfl, rfl⟩))
    (fun os started H enc _ F => by rw [OpenClaim.pre_eq_preRow]; exact lifted os started H enc F)

theorem plain (f : FuncId) (fn : Func) (hf : Tryd.pinned.checked.prog.funcNamed Rows.syntaxNamesRow.func = some f) (hfn : Tryd.pinned.checked.prog.funcs[f]? = some fn) :
    false = Tryd.pinned.checked.prog.looks [] ∧ ∀ (j : Nat) t, fn.params[j]? = some t → Tryd.pinned.checked.prog.wantsStandIn t = false := by
  obtain rfl : f = 3 := Option.some.inj ((show Tryd.prog.funcNamed Rows.syntaxNamesRow.func = some 3 by kernel_rfl).symm.trans hf) |>.symm
  obtain rfl : fn = Tryd.f3 := (Option.some.inj (Tryd.func3.symm.trans hfn)).symm
  refine ⟨by kernel_rfl, fun j t ht => ?_⟩
  rw [Tryd.params3] at ht
  simp at ht

theorem card : Rows.SyntaxNamesCardSaid :=
  Claim7.holds_tied_plain_at .later [] _ _ _ _ said (fun _ h => by cases h) (by kernel_rfl) (fun _ h => by cases h) syntaxNames_row_tie rfl ⟨rfl, rfl⟩ (by kernel_rfl) rfl plain (by kernel_rfl)
end Go.Proofs.YtflabfamokdmhaaDoor.syntaxNames
namespace Go.Proofs.YtflabfamokdmhaaDoor
theorem syntaxNames_card : Rows.SyntaxNamesCardSaid := syntaxNames.card
#print axioms syntaxNames_card
end Go.Proofs.YtflabfamokdmhaaDoor
