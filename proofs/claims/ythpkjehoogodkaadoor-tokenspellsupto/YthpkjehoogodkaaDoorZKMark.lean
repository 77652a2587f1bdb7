/- The tables that package token reads; marks. -/
import Derived.Test.YthpkjehoogodkaaDoorZKCut
namespace Go.Proofs.YthpkjehoogodkaaDoor
open Go.RowKit

theorem kkeepCell {W W' : World} {a : Nat} {i : Nat} {v : Value} (h : W.cell? ⟨a, i, none⟩ = some v) (hb : Below W.heap.size W W') : W'.cell? ⟨a, i, none⟩ = some v := by
  have hlt : a < W.heap.size := by
    by_cases hl : a < W.heap.size
    · exact hl
    · have : W.heap[a]? = none := Array.getElem?_eq_none (by omega)
      simp [World.cell?, this] at h
  have e := hb.block a hlt
  simp only [World.cell?] at h ⊢
  rw [e]
  exact h
/-- The tables that the program reads, as its text and Go's lay them. -/
structure KT (w : World) : Prop where
  tabs : Tabs w
  utf : Lib.Utf8Tabs 2 3 w
  marks : ∃ t z, w.heap[1]? = some (.cells #[.string ⟨#[61, 61]⟩, .string ⟨#[33, 61]⟩, .string ⟨#[60, 61]⟩, .string ⟨#[62, 61]⟩, .string ⟨#[40]⟩, .string ⟨#[41]⟩, .string ⟨#[91]⟩, .string ⟨#[93]⟩, .string ⟨#[123]⟩, .string ⟨#[125]⟩, .string ⟨#[44]⟩, .string ⟨#[59]⟩, .string ⟨#[46]⟩, .string ⟨#[43]⟩, .string ⟨#[45]⟩, .string ⟨#[42]⟩, .string ⟨#[47]⟩, .string ⟨#[37]⟩, .string ⟨#[124]⟩, .string ⟨#[38]⟩, .string ⟨#[92]⟩, .string ⟨#[60]⟩, .string ⟨#[62]⟩, .string ⟨#[61]⟩] t z)
theorem KT.below {w w' : World} (h : KT w) (hb : Below w.heap.size w w') : KT w' := by
  obtain ⟨t, z, e⟩ := h.marks
  refine ⟨h.tabs.below hb, ⟨fun c hc => kkeepCell (h.utf.1 c hc) hb, fun i hi => ⟨kkeepCell (h.utf.2 i hi).1 hb, kkeepCell (h.utf.2 i hi).2 hb⟩⟩, ⟨t, z, ?_⟩⟩
  exact (hb.block _ (Array.getElem?_eq_some_iff.1 e).1).trans e
theorem idxMark (k : Nat) (hk : k < 24) (w : World) : (Instr.index 95 (.agg #[.string ⟨#[61, 61]⟩, .string ⟨#[33, 61]⟩, .string ⟨#[60, 61]⟩, .string ⟨#[62, 61]⟩, .string ⟨#[40]⟩, .string ⟨#[41]⟩, .string ⟨#[91]⟩, .string ⟨#[93]⟩, .string ⟨#[123]⟩, .string ⟨#[125]⟩, .string ⟨#[44]⟩, .string ⟨#[59]⟩, .string ⟨#[46]⟩, .string ⟨#[43]⟩, .string ⟨#[45]⟩, .string ⟨#[42]⟩, .string ⟨#[47]⟩, .string ⟨#[37]⟩, .string ⟨#[124]⟩, .string ⟨#[38]⟩, .string ⟨#[92]⟩, .string ⟨#[60]⟩, .string ⟨#[62]⟩, .string ⟨#[61]⟩]) (.int .i64 (k : Int))).run Tryd.prog w = .ok (.string (str (marksL.getD k []))) w := by
  exact match k, hk with
  | 0, _ => by kernel_rfl
  | 1, _ => by kernel_rfl
  | 2, _ => by kernel_rfl
  | 3, _ => by kernel_rfl
  | 4, _ => by kernel_rfl
  | 5, _ => by kernel_rfl
  | 6, _ => by kernel_rfl
  | 7, _ => by kernel_rfl
  | 8, _ => by kernel_rfl
  | 9, _ => by kernel_rfl
  | 10, _ => by kernel_rfl
  | 11, _ => by kernel_rfl
  | 12, _ => by kernel_rfl
  | 13, _ => by kernel_rfl
  | 14, _ => by kernel_rfl
  | 15, _ => by kernel_rfl
  | 16, _ => by kernel_rfl
  | 17, _ => by kernel_rfl
  | 18, _ => by kernel_rfl
  | 19, _ => by kernel_rfl
  | 20, _ => by kernel_rfl
  | 21, _ => by kernel_rfl
  | 22, _ => by kernel_rfl
  | 23, _ => by kernel_rfl
  | k + 24, hk => by omega
theorem marks_len : marksL.length = 24 := rfl
theorem find_mark (p : List UInt8 → Bool) (j : Nat) (hj : j < 24) (hn : ∀ i, i < j → p (marksL.getD i []) = false) (hy : p (marksL.getD j []) = true) : marksL.find? p = some (marksL.getD j []) := by
  rw [List.find?_eq_some_iff_getElem]
  have e : ∀ i (h : i < 24), marksL.getD i [] = marksL[i]'h := fun i h => by
    rw [List.getD_eq_getElem?_getD, List.getElem?_eq_getElem (show i < marksL.length from h)]
    rfl
  refine ⟨hy, j, hj, (e j hj).symm, fun i hi => ?_⟩
  have := hn i hi
  rw [e i (by omega)] at this
  exact congrArg (fun b => !b) this
theorem find_none (p : List UInt8 → Bool) (hn : ∀ i, i < 24 → p (marksL.getD i []) = false) : marksL.find? p = Option.none := by
  rw [List.find?_eq_none]
  intro x hx
  obtain ⟨i, hi, e⟩ := List.getElem_of_mem hx
  have := hn i hi
  rw [List.getD_eq_getElem?_getD, List.getElem?_eq_getElem hi] at this
  rw [← e]
  simpa using this

set_option maxRecDepth 100000 in
set_option maxHeartbeats 4000000 in
theorem markT_k (s : ByteArray) (w : World) (hT : KT w) :
    Calls Tryd.prog 38 #[.string s] w (CutR (markC s.data.toList) w) := by
  obtain ⟨W, hW⟩ : ∃ W, w.alloc (.cells ztok 35) = W := ⟨_, rfl⟩
  have bW : Below w.heap.size w W := by rw [← hW]; exact kalloc (Below.refl _ _) _
  have e1 : W.heap[w.heap.size]? = some (.cells ztok 35 (0, 0)) := by rw [← hW]; exact World.alloc_heap_new w _
  have hz : w.heap.size < W.heap.size := (Array.getElem?_eq_some_iff.1 e1).1
  obtain ⟨tt, zz, hg⟩ := (hT.below bW).marks
  obtain ⟨cs, hcs⟩ : ∃ cs : Array Value, #[.string ⟨#[61, 61]⟩, .string ⟨#[33, 61]⟩, .string ⟨#[60, 61]⟩, .string ⟨#[62, 61]⟩, .string ⟨#[40]⟩, .string ⟨#[41]⟩, .string ⟨#[91]⟩, .string ⟨#[93]⟩, .string ⟨#[123]⟩, .string ⟨#[125]⟩, .string ⟨#[44]⟩, .string ⟨#[59]⟩, .string ⟨#[46]⟩, .string ⟨#[43]⟩, .string ⟨#[45]⟩, .string ⟨#[42]⟩, .string ⟨#[47]⟩, .string ⟨#[37]⟩, .string ⟨#[124]⟩, .string ⟨#[38]⟩, .string ⟨#[92]⟩, .string ⟨#[60]⟩, .string ⟨#[62]⟩, .string ⟨#[61]⟩] = cs := ⟨_, rfl⟩
  have hix0 := fun k hk w => idxMark k hk w
  have hinf : (Tryd.prog.info? 95).map (·.size) = some cs.size := by rw [← hcs]; kernel_rfl
  rw [hcs] at hg hix0
  clear hcs
  have HIX := hide hix0
  clear hix0
  have HE := hide e1
  have HBW := hide bW
  clear e1 bW
  unfold CutR
  go_enter Tryd.func38, Tryd.ntmps38
  go_wp2_with (refine wpList_load_row rfl 95 _ rfl 1 rfl tt _ zz _ hg Tryd.underlying95 rfl hinf ?_)
  clear hg hinf
  go_loopw [6, 8] (fun _ v wr => ∃ j : Nat, v = .int .i64 (j : Int) ∧ j ≤ 24 ∧ Hid (∀ i, i < j → Lib.hasPrefix s.data.toList (marksL.getD i []) = false) ∧ wr = W)
    (fun _ v _ => 24 - (Lib.intOf v).toNat)
  case atStart => exact ⟨0, rfl, by omega, hide (fun i h => absurd h (by omega)), rfl⟩
  case round =>
    obtain ⟨j, rfl, hj, HNO, rfl⟩ := hrel
    by_cases hj24 : j < 24
    · have hix := fun w => HIX.out j hj24 w
      have HP := hide (Tryd.strings_HasPrefix s (str (marksL.getD j [])) wr)
      have hm := @bytes_str (marksL.getD j [])
      have hm1 : (marksL.getD j []).length ≤ 2 := by
        exact match j, hj24 with
        | 0, _ => by decide
        | 1, _ => by decide
        | 2, _ => by decide
        | 3, _ => by decide
        | 4, _ => by decide
        | 5, _ => by decide
        | 6, _ => by decide
        | 7, _ => by decide
        | 8, _ => by decide
        | 9, _ => by decide
        | 10, _ => by decide
        | 11, _ => by decide
        | 12, _ => by decide
        | 13, _ => by decide
        | 14, _ => by decide
        | 15, _ => by decide
        | 16, _ => by decide
        | 17, _ => by decide
        | 18, _ => by decide
        | 19, _ => by decide
        | 20, _ => by decide
        | 21, _ => by decide
        | 22, _ => by decide
        | 23, _ => by decide
        | j + 24, hk => by omega
      have hms : (str (marksL.getD j [])).size = (marksL.getD j []).length := str_size _
      rw [hm] at HP
      cases hp : Lib.hasPrefix s.data.toList (marksL.getD j []) with
      | true =>
        have hf := find_mark (fun m => Lib.hasPrefix s.data.toList m) j hj24 HNO.out hp
        rw [hp] at HP
        have HF : Hid (markC s.data.toList = ⟨⟨4, marksL.getD j [], 0⟩, (marksL.getD j []).length, 0⟩) := by
          unfold markC
          rw [hf]
          exact hide rfl
        clear hf hp hm
        generalize marksL.getD j [] = m at *
        obtain ⟨q, hq⟩ : ∃ q, str m = q := ⟨_, rfl⟩
        rw [hq] at HP hix hms
        have HQ := hide hq
        clear hq
        have g3 := HE.out
        have x0 := kcells_at g3 0 _ rfl
        have x1 := kcells_at g3 1 _ rfl
        have x2 := kcells_at g3 2 _ rfl
        have x3 := kcells_at g3 3 _ rfl
        have x4 := kcells_at g3 4 _ rfl
        have x5 := kcells_at g3 5 _ rfl
        have q0 := kfrozen_at g3 0
        have q1 := kfrozen_at g3 1
        have q2 := kfrozen_at g3 2
        have q3 := kfrozen_at g3 3
        have q4 := kfrozen_at g3 4
        have q5 := kfrozen_at g3 5
        clear g3
        go_wp2_with (go_at_call 30; refine HP.out.mono ?_; clear HP; rintro e w2 ⟨rfl, h2⟩; obtain rfl := h2.symm)
        have g := storedT w wr 4 0 0 0 q 0 ztok w.heap.size (Nat.le_refl _) HBW.out rfl HE.out
        refine bodyPost_ret (results_struct_tmps rfl _ _ w.heap.size _ _ _ _ rfl g.1 Tryd.underlying35 rfl infoTok6) rfl ?_
        refine ⟨?_, g.2⟩
        rw [HF.out, HQ.out]
        rfl
      | false =>
        rw [hp] at HP
        have HNO2 := hide (fun i (h : i < j + 1) => if e : i = j then e ▸ hp else HNO.out i (by omega))
        clear hp hm
        generalize str (marksL.getD j []) = q at *
        go_wp2_with (go_at_call 30; refine HP.out.mono ?_; clear HP; rintro e w2 ⟨rfl, h2⟩; obtain rfl := h2.symm)
        go_roundw
        case rel => exact ⟨j + 1, by simp, by omega, HNO2, by first | rfl | trivial⟩
        case measure =>
          simp [Lib.intOf]
          omega
    · have hj2 : j = 24 := by omega
      subst hj2
      have hf := find_none (fun m => Lib.hasPrefix s.data.toList m) HNO.out
      have HF : Hid (markC s.data.toList = ⟨Tkn.none, 0, 90⟩) := by
        unfold markC
        rw [hf]
        exact hide rfl
      clear hf
      have g3 := HE.out
      have x0 := kcells_at g3 0 _ rfl
      have x1 := kcells_at g3 1 _ rfl
      have x2 := kcells_at g3 2 _ rfl
      have x3 := kcells_at g3 3 _ rfl
      have x4 := kcells_at g3 4 _ rfl
      have x5 := kcells_at g3 5 _ rfl
      have q0 := kfrozen_at g3 0
      have q1 := kfrozen_at g3 1
      have q2 := kfrozen_at g3 2
      have q3 := kfrozen_at g3 3
      have q4 := kfrozen_at g3 4
      have q5 := kfrozen_at g3 5
      clear g3
      go_wp2
      have g := storedT w wr 0 0 0 0 ⟨#[]⟩ 0 ztok w.heap.size (Nat.le_refl _) HBW.out rfl HE.out
      refine bodyPost_ret (results_struct_tmps rfl _ _ w.heap.size _ _ _ _ rfl g.1 Tryd.underlying35 rfl infoTok6) rfl ?_
      refine ⟨?_, g.2⟩
      rw [HF.out]
      rfl
end Go.Proofs.YthpkjehoogodkaaDoor
