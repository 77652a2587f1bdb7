/- The reserved words of both sides; SyntaxNames answers true. -/
import Derived.Test.YtflabfamokdmhaaDoorChecked
import Derived.WalkKit
import Derived.BigCall
import Derived.BigQuiet
import Derived.Deep.QuietTactic
import Derived.Laws.OwnMore
import Derived.Laws.Rows
import Derived.Lib.SliceRun
import Derived.Deep.WholeRow
import Derived.Lib.OthersKept
namespace Go.Proofs.YtflabfamokdmhaaDoor
open Go.RowKit

/-- A fact that the walk must not use. -/
def Hid (p : Prop) : Prop := p
theorem hide {p : Prop} (h : p) : Hid p := h
theorem Hid.out {p : Prop} (h : Hid p) : p := h

/-- The words, as the program's text lays them. -/
def wordsV : List Value := [.string ⟨#[116, 114, 117, 101]⟩, .string ⟨#[102, 97, 108, 115, 101]⟩, .string ⟨#[105, 102]⟩, .string ⟨#[116, 104, 101, 110]⟩, .string ⟨#[101, 108, 115, 101]⟩, .string ⟨#[108, 101, 116]⟩, .string ⟨#[100, 111]⟩, .string ⟨#[102, 111, 108, 100]⟩, .string ⟨#[111, 118, 101, 114]⟩, .string ⟨#[102, 114, 111, 109]⟩, .string ⟨#[119, 105, 116, 104]⟩, .string ⟨#[97, 110, 100]⟩, .string ⟨#[111, 114]⟩, .string ⟨#[110, 111, 116]⟩, .string ⟨#[105, 110]⟩, .string ⟨#[119, 104, 101, 110]⟩, .string ⟨#[103, 105, 118, 101]⟩, .string ⟨#[110, 101, 120, 116]⟩]
theorem wordsV_len : wordsV.length = 18 := rfl
theorem wordsV_str : ∀ k, k < 18 → ∃ s, wordsV[k]? = some (.string s) := by
  intro k hk
  exact match k, hk with
  | 0, _ => ⟨_, rfl⟩
  | 1, _ => ⟨_, rfl⟩
  | 2, _ => ⟨_, rfl⟩
  | 3, _ => ⟨_, rfl⟩
  | 4, _ => ⟨_, rfl⟩
  | 5, _ => ⟨_, rfl⟩
  | 6, _ => ⟨_, rfl⟩
  | 7, _ => ⟨_, rfl⟩
  | 8, _ => ⟨_, rfl⟩
  | 9, _ => ⟨_, rfl⟩
  | 10, _ => ⟨_, rfl⟩
  | 11, _ => ⟨_, rfl⟩
  | 12, _ => ⟨_, rfl⟩
  | 13, _ => ⟨_, rfl⟩
  | 14, _ => ⟨_, rfl⟩
  | 15, _ => ⟨_, rfl⟩
  | 16, _ => ⟨_, rfl⟩
  | 17, _ => ⟨_, rfl⟩
  | k + 18, h => by omega
/-- The program's table holds them. -/
def TabW (w : World) : Prop := ∃ t z, w.heap[0]? = some (.cells wordsV.toArray t z)
theorem TabW.below {w w' : World} (h : TabW w) (hb : Below w.heap.size w w') : TabW w' := by
  obtain ⟨t, z, e⟩ := h
  exact ⟨t, z, (hb.block _ (Array.getElem?_eq_some_iff.1 e).1).trans e⟩

theorem run_storeCells_list {P : Program} (w : World) (t : TypeId) (c : Array Value) (l : List Value) (hi : (P.info? t).map (·.size) = some l.length) (ho : c.size = l.length) (h1 : l.all (·.oneCell') = true) :
    (storeCells ⟨w.heap.size, 0, none⟩ l 0).run P (w.alloc (.cells c t)) = .ok () (w.alloc (.cells l.toArray t)) := by
  have := run_storeCells_new (P := P) w t c l.toArray (by simpa using hi) (by simpa using ho) (by simpa using h1)
  simpa using this
set_option maxRecDepth 100000 in
set_option maxHeartbeats 1000000 in
theorem refReserved_k (w : World) : Calls Tryd.prog 4 #[] w fun e w' => ∃ g, e = .returned (.slice (some ⟨g, 0, none⟩) 18 18) ∧ w.heap.size ≤ g ∧ (∃ t, w'.heap[g]? = some (.cells wordsV.toArray t (0, 0))) ∧ Below w.heap.size w w' := by
  go_enter Tryd.func4, Tryd.ntmps4
  go_wp2
  go_ret
  exact ⟨_, rfl, Nat.le_refl _, ⟨_, heap_alloc_new w _⟩, (Below.refl _ _).alloc (Nat.le_refl _) _⟩

set_option maxRecDepth 100000 in
set_option maxHeartbeats 1000000 in
theorem reserved_k (w : World) (hT : TabW w) : Calls Tryd.prog 5 #[] w fun e w' => ∃ g, e = .returned (.slice (some ⟨g, 0, none⟩) 18 18) ∧ w.heap.size ≤ g ∧ (∃ t, w'.heap[g]? = some (.cells wordsV.toArray t (0, 0))) ∧ Below w.heap.size w w' := by
  obtain ⟨tt, zz, hg⟩ := hT
  obtain ⟨cs, hcs⟩ : ∃ cs : Array Value, wordsV.toArray = cs := ⟨_, rfl⟩
  have hinf : (Tryd.prog.info? 27).map (·.size) = some cs.size := by rw [← hcs]; kernel_rfl
  have hsz : cs.size = 18 := by rw [← hcs]; rfl
  have h1 : cs.toList.all (·.oneCell') = true := by rw [← hcs]; rfl
  have HCS := hide hcs
  have HI := hide hinf
  have HO := hide h1
  rw [hcs] at hg
  clear hcs h1
  go_enter Tryd.func5, Tryd.ntmps5
  go_wp2_with (refine wpList_load_row rfl 27 _ rfl 0 rfl tt _ zz _ hg Tryd.underlying27 rfl hinf ?_)
  rw [run_storeCells_list (P := Tryd.prog) w _ _ _ (by simpa using HI.out) (by simp [hsz]) HO.out]
  go_wp2
  go_ret
  refine ⟨_, rfl, Nat.le_refl _, ⟨27, ?_⟩, (Below.refl _ _).alloc (Nat.le_refl _) _⟩
  rw [HCS.out]
  exact heap_alloc_new w (.cells cs 27)

/-- What stands in a block of strings. -/
def RowW (w : World) (g : Nat) (k : Nat) : Prop := ∃ cs t, w.heap[g]? = some (.cells cs t (0, 0)) ∧ cs.size = 18 ∧ ∀ j, k ≤ j → j < 18 → cs[j]? = wordsV[j]?
theorem RowW.cell {w : World} {g k j : Nat} {s : ByteArray} (h : RowW w g k) (hk : k ≤ j) (hj : j < 18) (hs : wordsV[j]? = some (.string s)) : w.cell? ⟨g, j, none⟩ = some (.string s) := by
  obtain ⟨cs, t, hg, hn, hc⟩ := h
  simp only [World.cell?, hg]
  rw [hc j hk hj, hs]
  rfl
theorem RowW.frozen {w : World} {g k j : Nat} (h : RowW w g k) : w.frozen? ⟨g, j, none⟩ = false := by
  obtain ⟨cs, t, hg, hn, hc⟩ := h
  simp [World.frozen?, hg]
theorem RowW.kept {w w' : World} {g k : Nat} (h : RowW w g k) (e : w'.heap[g]? = w.heap[g]?) : RowW w' g k := by
  obtain ⟨cs, t, hg, hn, hc⟩ := h
  exact ⟨cs, t, e.trans hg, hn, hc⟩
theorem below_drewW {L : Nat} {W W' : World} (h : Below L W W') (m : Nat) : Below L W (W'.drewN m) := ⟨h.os, h.tape, h.output, h.size, h.block⟩
theorem RowW.put {w : World} {g k : Nat} {v : Value} (h : RowW w g k) : RowW (w.setCell ⟨g, k, none⟩ v) g (k + 1) := by
  obtain ⟨cs, t, hg, hn, hc⟩ := h
  refine ⟨cs.setIfInBounds k v, t, ?_, by simpa using hn, fun j h1 h2 => ?_⟩
  · have hl := (Array.getElem?_eq_some_iff.1 hg).1
    have he := (Array.getElem?_eq_some_iff.1 hg).2
    simp [World.setCell, Array.getElem?_modify, hg]
  · rw [Array.getElem?_setIfInBounds, if_neg (by omega)]
    exact hc j (by omega) h2

set_option maxRecDepth 100000 in
set_option maxHeartbeats 1000000 in
theorem syntaxNames_walk (w : World) (hT : TabW w) : Calls Tryd.prog 3 #[] w fun e w' => e = .returned (.bool true) ∧ Below w.heap.size w w' := by
  have HR := hide (refReserved_k w)
  have HP := hide (fun w' (hb : Below w.heap.size w w') => reserved_k w' (hT.below hb))
  clear hT
  go_enter Tryd.func3, Tryd.ntmps3
  go_wp2_with (go_at_call 4; refine HR.out.mono ?_; rintro e w1 ⟨g, rfl, hg, ⟨t, hgc⟩, hb⟩; have HG := hide hg; have HC := hide hgc; have HB := hide hb; clear hg hgc hb)
  go_loopw [2] (fun i wr => ∃ k : Nat, k ≤ 2 ∧ i = .int .i64 k ∧ wr.heap[g]? = w1.heap[g]? ∧ Below w.heap.size w wr) (fun i _ => 2 - (intOf i).toNat)
  case atStart => exact ⟨0, by omega, rfl, rfl, HB.out⟩
  case round =>
    obtain ⟨k, hk, rfl, hsame, hbel⟩ := hrel
    have HS := hide hsame
    have HW := hide hbel
    have HLT := hide (Array.getElem?_eq_some_iff.1 (HS.out.trans HC.out)).1
    clear hsame hbel
    by_cases hlt : k < 2
    · have HRW := hide (HP.out wr HW.out)
      go_wp2_with (go_at_call 5; refine HRW.out.mono ?_; rintro e w2 ⟨g2, rfl, hg2, ⟨t2, hgc2⟩, hb2⟩; have HG2 := hide hg2; have HC2 := hide hgc2; have HB2 := hide hb2; clear hg2 hgc2 hb2)
      have HE := hide ((HB2.out.block g HLT.out).trans HS.out)
      have HNE : Hid (g ≠ g2) := by
        have := HLT.out
        have := HG2.out
        exact hide (by omega)
      go_loopw [4] (fun i wr => ∃ j : Nat, j ≤ 18 ∧ i = .int .i64 j ∧ wr.heap[g]? = w1.heap[g]? ∧ RowW wr g2 j ∧ Below w.heap.size w wr) (fun i _ => 18 - (intOf i).toNat)
      case atStart => exact ⟨0, by omega, rfl, HE.out, ⟨_, _, HC2.out, rfl, fun j _ _ => by simp⟩, HW.out.trans (HB2.out.mono (HW.out.size))⟩
      case round =>
        rename_i wq
        obtain ⟨j, hj, rfl, hsame, hrow, hbel⟩ := hrel
        by_cases hj8 : j < 18
        · obtain ⟨s, hs⟩ := wordsV_str j hj8
          have e1 := hrow.cell (Nat.le_refl j) hj8 hs
          have f1 := hrow.frozen (j := j)
          have hrow0 : RowW wr g 0 := ⟨_, _, hsame.trans HC.out, rfl, fun j _ _ => by simp⟩
          have e2 := hrow0.cell (Nat.zero_le j) hj8 hs
          have R := hide (And.intro hsame (And.intro hrow hbel))
          have p0 : (0 : Int) ≤ (j : Int) := by omega
          have p1 : (j : Int) < 18 := by omega
          clear hsame hrow hbel hrow0 hs
          have hfd : ∀ m, (wr.drewN m).frozen? ⟨g2, j, none⟩ = false := fun m => f1
          go_wp2
          go_quiet (fail)
          go_wp2
          go_roundw
          case rel => exact ⟨j + 1, by omega, by go_num, (Below.heap_setCell _ _ _ _ HNE.out).trans R.out.1, R.out.2.1.put, (below_drewW R.out.2.2 _).setCell (show w.heap.size ≤ g2 from Nat.le_trans HW.out.size HG2.out) _⟩
          case measure => simp [intOf]; omega
        · go_wp2
          refine ⟨⟨k + 1, by omega, by go_num, hsame, hbel⟩, ?_⟩
          simp [intOf]
          omega
    · go_wp2
      go_ret
      exact ⟨rfl, HW.out⟩
end Go.Proofs.YtflabfamokdmhaaDoor
