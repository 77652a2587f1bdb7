/- The table of functions, and what is found in it. -/
import Derived.Test.YtgglommnipbagaaGreatDoorGArith
import Derived.Deep.WholeRow
import Derived.Laws.EntriesVeiled
import Derived.BigQuiet
import Derived.Test.YtgglommnipbagaaGreatDoorZVSet
namespace Go.Proofs.YtgglommnipbagaaGreatDoor
open Go.RowKit

/-- All that the table holds. -/
def tabCells : Array Value := #[
  .string ⟨#[115, 105, 122, 101]⟩, .int .u64 192, .int .u64 0, .int .u64 0, .func (.func 127) #[] #[],
  .string ⟨#[104, 101, 97, 100]⟩, .int .u64 64, .int .u64 0, .int .u64 0, .func (.func 128) #[] #[],
  .string ⟨#[108, 97, 115, 116]⟩, .int .u64 64, .int .u64 0, .int .u64 0, .func (.func 129) #[] #[],
  .string ⟨#[116, 97, 105, 108]⟩, .int .u64 64, .int .u64 0, .int .u64 0, .func (.func 130) #[] #[],
  .string ⟨#[97, 116]⟩, .int .u64 64, .int .u64 4, .int .u64 0, .func (.func 131) #[] #[],
  .string ⟨#[112, 117, 116]⟩, .int .u64 64, .int .u64 4, .int .u64 18446744073709551615, .func (.func 132) #[] #[],
  .string ⟨#[112, 117, 115, 104]⟩, .int .u64 64, .int .u64 18446744073709551615, .int .u64 0, .func (.func 133) #[] #[],
  .string ⟨#[119, 105, 116, 104]⟩, .int .u64 128, .int .u64 18446744073709551615, .int .u64 0, .func (.func 134) #[] #[],
  .string ⟨#[119, 105, 116, 104, 111, 117, 116]⟩, .int .u64 128, .int .u64 18446744073709551615, .int .u64 0, .func (.func 135) #[] #[],
  .string ⟨#[108, 105, 115, 116]⟩, .int .u64 128, .int .u64 0, .int .u64 0, .func (.func 136) #[] #[],
  .string ⟨#[115, 101, 116]⟩, .int .u64 64, .int .u64 0, .int .u64 0, .func (.func 137) #[] #[],
  .string ⟨#[109, 105, 110]⟩, .int .u64 192, .int .u64 0, .int .u64 0, .func (.func 138) #[] #[],
  .string ⟨#[109, 97, 120]⟩, .int .u64 192, .int .u64 0, .int .u64 0, .func (.func 139) #[] #[],
  .string ⟨#[114, 97, 110, 103, 101]⟩, .int .u64 4, .int .u64 4, .int .u64 0, .func (.func 140) #[] #[],
  .string ⟨#[115, 117, 98, 115, 101, 116, 115]⟩, .int .u64 128, .int .u64 0, .int .u64 0, .func (.func 141) #[] #[],
  .string ⟨#[103, 97, 117, 115, 115]⟩, .int .u64 4, .int .u64 4, .int .u64 0, .func (.func 142) #[] #[],
  .string ⟨#[114, 101]⟩, .int .u64 8, .int .u64 0, .int .u64 0, .func (.func 143) #[] #[],
  .string ⟨#[105, 109]⟩, .int .u64 8, .int .u64 0, .int .u64 0, .func (.func 144) #[] #[],
  .string ⟨#[99, 111, 110, 106]⟩, .int .u64 8, .int .u64 0, .int .u64 0, .func (.func 145) #[] #[],
  .string ⟨#[110, 111, 114, 109]⟩, .int .u64 8, .int .u64 0, .int .u64 0, .func (.func 146) #[] #[],
  .string ⟨#[116, 117, 114, 110]⟩, .int .u64 8, .int .u64 0, .int .u64 0, .func (.func 147) #[] #[]]
/-- The functions' names. -/
def tabNames : List (List UInt8) := [[115, 105, 122, 101], [104, 101, 97, 100], [108, 97, 115, 116], [116, 97, 105, 108], [97, 116], [112, 117, 116], [112, 117, 115, 104], [119, 105, 116, 104], [119, 105, 116, 104, 111, 117, 116], [108, 105, 115, 116], [115, 101, 116], [109, 105, 110], [109, 97, 120], [114, 97, 110, 103, 101], [115, 117, 98, 115, 101, 116, 115], [103, 97, 117, 115, 115], [114, 101], [105, 109], [99, 111, 110, 106], [110, 111, 114, 109], [116, 117, 114, 110]]
/-- A name's first place in a row of names. -/
def fndL : List (List UInt8) → Nat → List UInt8 → Option Nat
  | [], _, _ => none
  | x :: l, k, n => if (x == n) = true then some k else fndL l (k + 1) n
/-- A function's five cells; of none zeros. -/
def rowF : Option Nat → Array Value
  | none => #[.string ⟨#[]⟩, .int .u64 0, .int .u64 0, .int .u64 0, .nilFunc]
  | some k => tabCells.extract (k * 5) (k * 5 + 5)
theorem run_storeCells_list {P : Program} (w : World) (t : TypeId) (c : Array Value) (l : List Value) (hi : (P.info? t).map (·.size) = some l.length) (ho : c.size = l.length) (h1 : l.all (·.oneCell') = true) :
    (storeCells ⟨w.heap.size, 0, none⟩ l 0).run P (w.alloc (.cells c t)) = .ok () (w.alloc (.cells l.toArray t)) := by
  have := run_storeCells_new (P := P) w t c l.toArray (by simpa using hi) (by simpa using ho) (by simpa using h1)
  simpa using this
set_option maxRecDepth 100000 in
set_option maxHeartbeats 4000000 in
theorem table_k (w : World) : Calls Tryz.prog 90 #[] w fun e w' => e = .returned (.agg tabCells) ∧ Below w.heap.size w w' := by
  go_enter Tryz.func90, Tryz.ntmps90
  go_wp2
  rw [run_storeCells_list (P := Tryz.prog) w]
  rotate_left
  · kernel_rfl
  · kernel_rfl
  · kernel_rfl
  go_wp2
  refine bodyPost_ret (results_cell_row rfl _ _ w.heap.size _ _ _ _ rfl (World.alloc_heap_new w _) Tryz.underlying116 rfl (by kernel_rfl)) rfl ?_
  exact ⟨by kernel_rfl, alloc_v (Below.refl _ _) _⟩
end Go.Proofs.YtgglommnipbagaaGreatDoor

/- What is found in the table of functions. -/
namespace Go.Proofs.YtgglommnipbagaaGreatDoor
open Go.RowKit

theorem infoFun5 : (Tryz.prog.info? 115).map (·.size) = some 5 := by kernel_rfl
/-- Five cells that are stored into a block of their own. -/
theorem stored5 (w W : World) (ty : TypeId) (v0 v1 v2 v3 v4 : Value) (c : Array Value) (b : Nat) (hb : w.heap.size ≤ b) (bW : Below w.heap.size w W) (hc : c.size = 5) (g1 : W.heap[b]? = some (.cells c ty (0, 0))) :
    (((((W.setCell ⟨b, 0, none⟩ v0).setCell ⟨b, 1, none⟩ v1).setCell ⟨b, 2, none⟩ v2).setCell ⟨b, 3, none⟩ v3).setCell ⟨b, 4, none⟩ v4).heap[b]? = some (.cells #[v0, v1, v2, v3, v4] ty (0, 0)) ∧
    Below w.heap.size w (((((W.setCell ⟨b, 0, none⟩ v0).setCell ⟨b, 1, none⟩ v1).setCell ⟨b, 2, none⟩ v2).setCell ⟨b, 3, none⟩ v3).setCell ⟨b, 4, none⟩ v4) := by
  obtain ⟨l⟩ := c
  obtain ⟨x0, x1, x2, x3, x4, rfl⟩ : ∃ x0 x1 x2 x3 x4, l = [x0, x1, x2, x3, x4] := by
    match l, hc with
    | [x0, x1, x2, x3, x4], _ => exact ⟨_, _, _, _, _, rfl⟩
  have g2 := heap_setCell_same _ _ 0 _ _ v0 g1
  have g3 := heap_setCell_same _ _ 1 _ _ v1 g2
  have g4 := heap_setCell_same _ _ 2 _ _ v2 g3
  have g5 := heap_setCell_same _ _ 3 _ _ v3 g4
  have g6 := heap_setCell_same _ _ 4 _ _ v4 g5
  exact ⟨g6, ((((bW.setCell hb _).setCell hb _).setCell hb _).setCell hb _).setCell hb _⟩
theorem run_index_struct {P : Program} (w : World) (t e : TypeId) (n sz : Nat) (k : IntKind) (cs : Array Value) (i : Nat) (v : Value) (ht : P.underlying t = some (.array n e)) (hs : (P.info? e).map (·.size) = some sz) (hi : i < n) (hv : (part e cs (i * sz)).run P w = .ok v w) :
    (Instr.index t (.agg cs) (.int k (i : Int))).run P w = .ok v w := by
  cases hq : P.info? e with
  | none => simp [hq] at hs
  | some info =>
    have hs' : info.size = sz := by simpa [hq] using hs
    simp [Instr.index, asIntOf, run_underlying ht, sizeOf, typeInfo, hq, hs', hv]
    intro h3
    omega
theorem part_fun (w : World) (k : Nat) (v : Array Value) (h : tabCells.extract (k * 5) (k * 5 + 5) = v) : (part 115 tabCells (k * 5)).run Tryz.prog w = .ok (.agg v) w := by
  subst h
  simp [part, Tryz.isAgg115, Tryz.sizeOf115]
/-- A name's first place from k on. -/
def fndAt (k : Nat) (n : List UInt8) : Option Nat := fndL (tabNames.drop k) k n
theorem fndL_cons (x : List UInt8) (l : List (List UInt8)) (k : Nat) (n : List UInt8) : fndL (x :: l) k n = if (x == n) = true then some k else fndL l (k + 1) n := rfl
/-- What a row of the table holds. -/
def RowIs (k : Nat) (nm : ByteArray) (a b c : Int) (f : Fn) : Prop :=
  (∀ w : World, (Instr.index 116 (.agg tabCells) (.int .i64 (k : Int))).run Tryz.prog w = .ok (.agg #[.string nm, .int .u64 a, .int .u64 b, .int .u64 c, .func f #[] #[]]) w) ∧
  (∀ n, fndAt k n = if (nm.toList == n) = true then some k else fndAt (k + 1) n) ∧ rowF (some k) = #[.string nm, .int .u64 a, .int .u64 b, .int .u64 c, .func f #[] #[]]
theorem rowIs_mk (k : Nat) (x : List UInt8) (a b c : Int) (f : Fn) (hk : k < 21) (h1 : tabCells.extract (k * 5) (k * 5 + 5) = #[.string ⟨⟨x⟩⟩, .int .u64 a, .int .u64 b, .int .u64 c, .func f #[] #[]]) (h2 : tabNames.drop k = x :: tabNames.drop (k + 1)) : RowIs k ⟨⟨x⟩⟩ a b c f := by
  refine ⟨fun w => run_index_struct w _ 115 21 5 .i64 tabCells k _ Tryz.underlying116 infoFun5 hk (part_fun w k _ h1), fun n => ?_, h1⟩
  unfold fndAt
  rw [h2, fndL_cons, ByteArray.toList_mk]
set_option maxRecDepth 100000 in
theorem tab_row (k : Nat) (hk : k < 21) : ∃ nm a b c f, RowIs k nm a b c f := by
  have hcase : k = 0 ∨ k = 1 ∨ k = 2 ∨ k = 3 ∨ k = 4 ∨ k = 5 ∨ k = 6 ∨ k = 7 ∨ k = 8 ∨ k = 9 ∨ k = 10 ∨ k = 11 ∨ k = 12 ∨ k = 13 ∨ k = 14 ∨ k = 15 ∨ k = 16 ∨ k = 17 ∨ k = 18 ∨ k = 19 ∨ k = 20 := by omega
  rcases hcase with rfl | rfl | rfl | rfl | rfl | rfl | rfl | rfl | rfl | rfl | rfl | rfl | rfl | rfl | rfl | rfl | rfl | rfl | rfl | rfl | rfl
  · exact ⟨_, _, _, _, _, rowIs_mk 0 [115, 105, 122, 101] 192 0 0 (.func 127) (by omega) (by kernel_rfl) (by kernel_rfl)⟩
  · exact ⟨_, _, _, _, _, rowIs_mk 1 [104, 101, 97, 100] 64 0 0 (.func 128) (by omega) (by kernel_rfl) (by kernel_rfl)⟩
  · exact ⟨_, _, _, _, _, rowIs_mk 2 [108, 97, 115, 116] 64 0 0 (.func 129) (by omega) (by kernel_rfl) (by kernel_rfl)⟩
  · exact ⟨_, _, _, _, _, rowIs_mk 3 [116, 97, 105, 108] 64 0 0 (.func 130) (by omega) (by kernel_rfl) (by kernel_rfl)⟩
  · exact ⟨_, _, _, _, _, rowIs_mk 4 [97, 116] 64 4 0 (.func 131) (by omega) (by kernel_rfl) (by kernel_rfl)⟩
  · exact ⟨_, _, _, _, _, rowIs_mk 5 [112, 117, 116] 64 4 18446744073709551615 (.func 132) (by omega) (by kernel_rfl) (by kernel_rfl)⟩
  · exact ⟨_, _, _, _, _, rowIs_mk 6 [112, 117, 115, 104] 64 18446744073709551615 0 (.func 133) (by omega) (by kernel_rfl) (by kernel_rfl)⟩
  · exact ⟨_, _, _, _, _, rowIs_mk 7 [119, 105, 116, 104] 128 18446744073709551615 0 (.func 134) (by omega) (by kernel_rfl) (by kernel_rfl)⟩
  · exact ⟨_, _, _, _, _, rowIs_mk 8 [119, 105, 116, 104, 111, 117, 116] 128 18446744073709551615 0 (.func 135) (by omega) (by kernel_rfl) (by kernel_rfl)⟩
  · exact ⟨_, _, _, _, _, rowIs_mk 9 [108, 105, 115, 116] 128 0 0 (.func 136) (by omega) (by kernel_rfl) (by kernel_rfl)⟩
  · exact ⟨_, _, _, _, _, rowIs_mk 10 [115, 101, 116] 64 0 0 (.func 137) (by omega) (by kernel_rfl) (by kernel_rfl)⟩
  · exact ⟨_, _, _, _, _, rowIs_mk 11 [109, 105, 110] 192 0 0 (.func 138) (by omega) (by kernel_rfl) (by kernel_rfl)⟩
  · exact ⟨_, _, _, _, _, rowIs_mk 12 [109, 97, 120] 192 0 0 (.func 139) (by omega) (by kernel_rfl) (by kernel_rfl)⟩
  · exact ⟨_, _, _, _, _, rowIs_mk 13 [114, 97, 110, 103, 101] 4 4 0 (.func 140) (by omega) (by kernel_rfl) (by kernel_rfl)⟩
  · exact ⟨_, _, _, _, _, rowIs_mk 14 [115, 117, 98, 115, 101, 116, 115] 128 0 0 (.func 141) (by omega) (by kernel_rfl) (by kernel_rfl)⟩
  · exact ⟨_, _, _, _, _, rowIs_mk 15 [103, 97, 117, 115, 115] 4 4 0 (.func 142) (by omega) (by kernel_rfl) (by kernel_rfl)⟩
  · exact ⟨_, _, _, _, _, rowIs_mk 16 [114, 101] 8 0 0 (.func 143) (by omega) (by kernel_rfl) (by kernel_rfl)⟩
  · exact ⟨_, _, _, _, _, rowIs_mk 17 [105, 109] 8 0 0 (.func 144) (by omega) (by kernel_rfl) (by kernel_rfl)⟩
  · exact ⟨_, _, _, _, _, rowIs_mk 18 [99, 111, 110, 106] 8 0 0 (.func 145) (by omega) (by kernel_rfl) (by kernel_rfl)⟩
  · exact ⟨_, _, _, _, _, rowIs_mk 19 [110, 111, 114, 109] 8 0 0 (.func 146) (by omega) (by kernel_rfl) (by kernel_rfl)⟩
  · exact ⟨_, _, _, _, _, rowIs_mk 20 [116, 117, 114, 110] 8 0 0 (.func 147) (by omega) (by kernel_rfl) (by kernel_rfl)⟩
set_option maxRecDepth 100000 in
set_option maxHeartbeats 2000000 in
theorem find_k (name : ByteArray) (w : World) : Calls Tryz.prog 91 #[.string name] w fun e w' => e = .returned (.tuple #[.agg (rowF (fndAt 0 name.toList)), .bool (fndAt 0 name.toList).isSome]) ∧ Below w.heap.size w w' := by
  obtain ⟨W, hW⟩ : ∃ W, w.alloc (.cells #[.string ⟨#[]⟩, .int .u64 0, .int .u64 0, .int .u64 0, .nilFunc] 115) = W := ⟨_, rfl⟩
  have bW : Below w.heap.size w W := by rw [← hW]; exact alloc_v (Below.refl _ _) _
  have e1 : W.heap[w.heap.size]? = some (.cells #[.string ⟨#[]⟩, .int .u64 0, .int .u64 0, .int .u64 0, .nilFunc] 115 (0, 0)) := by rw [← hW]; exact World.alloc_heap_new w _
  have zW : w.heap.size < W.heap.size := (Array.getElem?_eq_some_iff.1 e1).1
  have E := hide e1
  have HT := hide (table_k W)
  obtain ⟨R, hR⟩ : ∃ R, fndAt 0 name.toList = R := ⟨_, rfl⟩
  rw [hR]
  have HRR := hide hR
  have HROW : Hid (∀ k : Nat, k < 21 → ∃ nm a b c f, (∀ w : World, (Instr.index 116 (.agg tabCells) (.int .i64 (k : Int))).run Tryz.prog w = .ok (.agg #[.string nm, .int .u64 a, .int .u64 b, .int .u64 c, .func f #[] #[]]) w) ∧
    (∀ n, fndAt k n = if (nm.toList == n) = true then some k else fndAt (k + 1) n) ∧ rowF (some k) = #[.string nm, .int .u64 a, .int .u64 b, .int .u64 c, .func f #[] #[]]) := hide tab_row
  clear e1 hR
  generalize tabCells = tc at *
  go_enter Tryz.func91, Tryz.ntmps91
  go_wp2_with (go_at_call 90; refine HT.out.mono ?_; clear HT; rintro e w2 ⟨rfl, b2⟩)
  clear hW
  go_loopw [7] (fun i wr => ∃ k : Nat, k ≤ 21 ∧ i = .int .i64 k ∧ fndAt k name.toList = R ∧ Below w2.heap.size w2 wr) (fun i _ => 21 - (intOf i).toNat)
  case atStart => exact ⟨0, by omega, rfl, HRR.out, Below.refl _ _⟩
  case round =>
    obtain ⟨k, hk, rfl, hF, hbel⟩ := hrel
    have b3 := trans_v b2 hbel
    have f1 := (b3.block _ zW).trans E.out
    have y0 := cells_at f1 0 _ rfl
    have y1 := cells_at f1 1 _ rfl
    have y2 := cells_at f1 2 _ rfl
    have y3 := cells_at f1 3 _ rfl
    have y4 := cells_at f1 4 _ rfl
    have q0 := frozen_at f1 0
    have q1 := frozen_at f1 1
    have q2 := frozen_at f1 2
    have q3 := frozen_at f1 3
    have q4 := frozen_at f1 4
    have F1 := hide f1
    have HF := hide hF
    have zr : w.heap.size < wr.heap.size := by have := b3.size; omega
    clear f1 hF
    by_cases hlt : k < 21
    · obtain ⟨nm, a, b, c, f, hix, hn, hrow⟩ := HROW.out k hlt
      have HN := hide (fun (h : (nm.toList == name.toList) = true) => (show some k = R by have := HF.out; rw [hn, h] at this; exact this))
      have HM := hide (fun (h : (nm.toList == name.toList) = false) => (show fndAt (k + 1) name.toList = R by have := HF.out; rw [hn, h] at this; exact this))
      have HRW := hide hrow
      clear hn hrow HF
      cases hm : (nm.toList == name.toList)
      · have HM2 := hide (HM.out hm)
        clear HM HN
        go_wp2
        go_roundw
        case rel => exact ⟨k + 1, by omega, by go_num, HM2.out, trans_v hbel (alloc_v (Below.refl _ _) _)⟩
        case measure => simp [intOf]; omega
      · have HN2 := hide (HN.out hm)
        clear HM HN
        go_wp2
        have g := stored5 w wr 115 (.string nm) (.int .u64 a) (.int .u64 b) (.int .u64 c) (.func f #[] #[]) _ w.heap.size (Nat.le_refl _) (trans_v bW b3) rfl F1.out
        have g1 := (Below.heap_alloc _ (.cells #[.string nm, .int .u64 a, .int .u64 b, .int .u64 c, .func f #[] #[]] 115) _ (Array.getElem?_eq_some_iff.1 g.1).1).trans g.1
        refine bodyPost_ret (results_struct_tmp rfl _ _ w.heap.size _ _ _ _ rfl g1 Tryz.underlying115 rfl infoFun5) rfl ?_
        rw [← HN2.out, HRW.out]
        exact ⟨rfl, alloc_v g.2 _⟩
    · obtain rfl : k = 21 := by omega
      have HN : Hid (none = R) := HF
      go_wp2
      have g := stored5 w wr 115 (.string ⟨#[]⟩) (.int .u64 0) (.int .u64 0) (.int .u64 0) .nilFunc _ w.heap.size (Nat.le_refl _) (trans_v bW b3) rfl F1.out
      refine bodyPost_ret (results_struct_tmp rfl _ _ w.heap.size _ _ _ _ rfl g.1 Tryz.underlying115 rfl infoFun5) rfl ?_
      rw [← HN.out]
      exact ⟨rfl, g.2⟩
end Go.Proofs.YtgglommnipbagaaGreatDoor

/- How many arguments a function takes, and whether they fit. -/
namespace Go.Proofs.YtgglommnipbagaaGreatDoor
open Go.RowKit

/-- 1, but 0 of nought. -/
def nz (x : Int) : Int := bif x != 0 then 1 else 0
theorem infoKinds1 : (Tryz.prog.info? 110).map (·.size) = some 1 := by kernel_rfl
theorem part_kinds (w : World) (cs : Array Value) (k : Nat) (v : Value) (h : cs[k * 1]? = some v) : (part 110 cs (k * 1)).run Tryz.prog w = .ok v w := by
  rw [Nat.mul_one] at *
  simp [part, Tryz.isAgg110, h]
set_option maxRecDepth 100000 in
set_option maxHeartbeats 1000000 in
theorem count_k5 (a b c : Int) (w : World) : Calls Tryz.prog 92 #[.agg #[.int .u64 a, .int .u64 b, .int .u64 c]] w fun e w' => e = .returned (.int .i64 (nz a + nz b + nz c)) ∧ Below w.heap.size w w' := by
  obtain ⟨W, hW⟩ : ∃ W, w.alloc (.cells #[.int .u64 a, .int .u64 b, .int .u64 c] 112) = W := ⟨_, rfl⟩
  have bW : Below w.heap.size w W := by rw [← hW]; exact alloc_v (Below.refl _ _) _
  have e1 : W.heap[w.heap.size]? = some (.cells #[.int .u64 a, .int .u64 b, .int .u64 c] 112 (0, 0)) := by rw [← hW]; exact World.alloc_heap_new w _
  have x0 := cells_at e1 0 _ rfl
  have x1 := cells_at e1 1 _ rfl
  have x2 := cells_at e1 2 _ rfl
  have i0 : ∀ U : World, (Instr.index 112 (.agg #[.int .u64 a, .int .u64 b, .int .u64 c]) (.int .i64 0)).run Tryz.prog U = .ok (.int .u64 a) U := fun U => run_index_struct U _ 110 3 1 .i64 _ 0 _ Tryz.underlying112 infoKinds1 (by omega) (part_kinds U _ 0 _ rfl)
  have i1 : ∀ U : World, (Instr.index 112 (.agg #[.int .u64 a, .int .u64 b, .int .u64 c]) (.int .i64 1)).run Tryz.prog U = .ok (.int .u64 b) U := fun U => run_index_struct U _ 110 3 1 .i64 _ 1 _ Tryz.underlying112 infoKinds1 (by omega) (part_kinds U _ 1 _ rfl)
  have i2 : ∀ U : World, (Instr.index 112 (.agg #[.int .u64 a, .int .u64 b, .int .u64 c]) (.int .i64 2)).run Tryz.prog U = .ok (.int .u64 c) U := fun U => run_index_struct U _ 110 3 1 .i64 _ 2 _ Tryz.underlying112 infoKinds1 (by omega) (part_kinds U _ 2 _ rfl)
  have na : 0 ≤ nz a ∧ nz a ≤ 1 := by unfold nz; cases (a != 0) <;> simp
  have nb : 0 ≤ nz b ∧ nz b ≤ 1 := by unfold nz; cases (b != 0) <;> simp
  have nc : 0 ≤ nz c ∧ nz c ≤ 1 := by unfold nz; cases (c != 0) <;> simp
  have da : ∀ h : (a != 0) = true, nz a = 1 := fun h => by unfold nz; rw [h]; rfl
  have da' : ∀ h : (a != 0) = false, nz a = 0 := fun h => by unfold nz; rw [h]; rfl
  have db : ∀ h : (b != 0) = true, nz b = 1 := fun h => by unfold nz; rw [h]; rfl
  have db' : ∀ h : (b != 0) = false, nz b = 0 := fun h => by unfold nz; rw [h]; rfl
  have dc : ∀ h : (c != 0) = true, nz c = 1 := fun h => by unfold nz; rw [h]; rfl
  have dc' : ∀ h : (c != 0) = false, nz c = 0 := fun h => by unfold nz; rw [h]; rfl
  generalize nz a = za at *
  generalize nz b = zb at *
  generalize nz c = zc at *
  have DA := hide da
  have DA' := hide da'
  have DB := hide db
  have DB' := hide db'
  have DC := hide dc
  have DC' := hide dc'
  clear e1 da da' db db' dc dc'
  go_enter Tryz.func92, Tryz.ntmps92
  go_wp2
  clear x0 x1 x2 hW
  go_loopw [3, 5, 7] (fun n _ i wr => wr = W ∧ ((i = .int .i64 0 ∧ n = .int .i64 0) ∨ (i = .int .i64 1 ∧ n = .int .i64 za) ∨ (i = .int .i64 2 ∧ n = .int .i64 (za + zb)) ∨ (i = .int .i64 3 ∧ n = .int .i64 (za + zb + zc)))) (fun _ _ i _ => 3 - (intOf i).toNat)
  case atStart => exact ⟨rfl, .inl ⟨rfl, rfl⟩⟩
  case round =>
    obtain ⟨rfl, hc⟩ := hrel
    rcases hc with ⟨rfl, rfl⟩ | ⟨rfl, rfl⟩ | ⟨rfl, rfl⟩ | ⟨rfl, rfl⟩
    · cases hx : (a != 0)
      · have hz := DA'.out hx
        go_wp2
        go_roundw
        case rel => exact ⟨trivial, .inr (.inl ⟨rfl, by subst hz; simp⟩)⟩
        case measure => simp [intOf]
      · have hz := DA.out hx
        go_wp2
        go_roundw
        case rel => exact ⟨trivial, .inr (.inl ⟨rfl, by subst hz; simp⟩)⟩
        case measure => simp [intOf]
    · cases hx : (b != 0)
      · have hz := DB'.out hx
        go_wp2
        go_roundw
        case rel => exact ⟨trivial, .inr (.inr (.inl ⟨rfl, by subst hz; simp⟩))⟩
        case measure => simp [intOf]
      · have hz := DB.out hx
        go_wp2
        go_roundw
        case rel => exact ⟨trivial, .inr (.inr (.inl ⟨rfl, by subst hz; simp⟩))⟩
        case measure => simp [intOf]
    · cases hx : (c != 0)
      · have hz := DC'.out hx
        go_wp2
        go_roundw
        case rel => exact ⟨trivial, .inr (.inr (.inr ⟨rfl, by subst hz; simp⟩))⟩
        case measure => simp [intOf]
      · have hz := DC.out hx
        go_wp2
        go_roundw
        case rel => exact ⟨trivial, .inr (.inr (.inr ⟨rfl, by subst hz; simp⟩))⟩
        case measure => simp [intOf]
    · go_wp2
      go_ret
      exact ⟨rfl, bW⟩
set_option maxRecDepth 100000 in
set_option maxHeartbeats 1000000 in
theorem arity_some (name : ByteArray) (k : Nat) (nm : ByteArray) (a b c : Int) (f : Fn) (h : fndAt 0 name.toList = some k) (hr : rowF (some k) = #[.string nm, .int .u64 a, .int .u64 b, .int .u64 c, .func f #[] #[]]) (w : World) :
    Calls Tryz.prog 36 #[.string name] w fun e w' => e = .returned (.int .i64 (nz a + nz b + nz c)) ∧ Below w.heap.size w w' := by
  have HF := hide (find_k name w)
  rw [h, hr] at HF
  have HC := hide (fun U : World => count_k5 a b c U)
  clear h hr
  go_enter Tryz.func36, Tryz.ntmps36
  go_wp2_with (first
    | (go_at_call 91; refine HF.out.mono ?_; clear HF; rintro e w2 ⟨rfl, b2⟩; have B2 := hide b2; clear b2)
    | (go_at_call 92; refine (HC.out _).mono ?_; clear HC; rintro e w3 ⟨rfl, b3⟩))
  go_ret
  exact ⟨rfl, trans_v B2.out (trans_v (alloc_v (Below.refl _ _) _) b3)⟩
set_option maxRecDepth 100000 in
set_option maxHeartbeats 1000000 in
theorem arity_none (name : ByteArray) (h : fndAt 0 name.toList = none) (w : World) : Calls Tryz.prog 36 #[.string name] w fun e w' => e = .returned (.int .i64 (-1)) ∧ Below w.heap.size w w' := by
  have HF := hide (find_k name w)
  rw [h] at HF
  have hrn : rowF none = #[.string ⟨#[]⟩, .int .u64 0, .int .u64 0, .int .u64 0, .nilFunc] := rfl
  rw [hrn] at HF
  clear h hrn
  go_enter Tryz.func36, Tryz.ntmps36
  go_wp2_with (go_at_call 91; refine HF.out.mono ?_; clear HF; rintro e w2 ⟨rfl, b2⟩; have B2 := hide b2; clear b2)
  go_ret
  exact ⟨rfl, trans_v B2.out (alloc_v (Below.refl _ _) _)⟩
end Go.Proofs.YtgglommnipbagaaGreatDoor

/- Whether arguments fit: one Gaussian number, two numbers. -/
namespace Go.Proofs.YtgglommnipbagaaGreatDoor
open Go.RowKit

theorem below_drewA {L : Nat} {W W' : World} (h : Below L W W') (m : Nat) : Below L W (W'.drewN m) := ⟨h.os, h.tape, h.output, h.size, h.block⟩
/-- The first item of a row. -/
theorem first_item {w : World} {B n : Nat} {a : Option Addr} {l c : Nat} {z : Vl} {r : List Vl} (h : ItemsAt w B (n + 1) (.slice a l c) (z :: r)) : ∃ b off s', a = some ⟨b, off, none⟩ ∧ b < B ∧
      w.cell? ⟨b, off, none⟩ = some (.int .i64 z.kind) ∧ w.cell? ⟨b, off + 1, none⟩ = some (.int .i64 z.int) ∧ w.cell? ⟨b, off + 2, none⟩ = some (.int .i64 z.im) ∧
      w.cell? ⟨b, off + 3, none⟩ = some (.string z.text) ∧ w.cell? ⟨b, off + 4, none⟩ = some s' ∧ ItemsAt w B n s' z.items ∧ z.ok := by
  have := h.item 0 (by simp)
  simpa using this
/-- The second item of a row. -/
theorem second_item {w : World} {B n : Nat} {a : Option Addr} {l c : Nat} {y z : Vl} {r : List Vl} (h : ItemsAt w B (n + 1) (.slice a l c) (y :: z :: r)) : ∃ b off s', a = some ⟨b, off, none⟩ ∧ b < B ∧
      w.cell? ⟨b, off + 5, none⟩ = some (.int .i64 z.kind) ∧ w.cell? ⟨b, off + 6, none⟩ = some (.int .i64 z.int) ∧ w.cell? ⟨b, off + 7, none⟩ = some (.int .i64 z.im) ∧
      w.cell? ⟨b, off + 8, none⟩ = some (.string z.text) ∧ w.cell? ⟨b, off + 9, none⟩ = some s' ∧ ItemsAt w B n s' z.items ∧ z.ok := by
  have := h.item 1 (by simp)
  simpa using this
set_option maxRecDepth 100000 in
set_option maxHeartbeats 1000000 in
theorem fit_gauss (z : Vl) (hz : z.kind = 3) (w : World) (n : Nat) (sl : Value) (hi : ItemsAt w w.heap.size (n + 1) sl [z]) :
    Calls Tryz.prog 124 #[.agg #[.int .u64 8, .int .u64 0, .int .u64 0], sl] w fun e w' => e = .returned (.bool true) ∧ Below w.heap.size w w' := by
  obtain ⟨W, hW⟩ : ∃ W, w.alloc (.cells #[.int .u64 8, .int .u64 0, .int .u64 0] 112) = W := ⟨_, rfl⟩
  have bW : Below w.heap.size w W := by rw [← hW]; exact alloc_v (Below.refl _ _) _
  have e1 : W.heap[w.heap.size]? = some (.cells #[.int .u64 8, .int .u64 0, .int .u64 0] 112 (0, 0)) := by rw [← hW]; exact World.alloc_heap_new w _
  have zW : w.heap.size < W.heap.size := (Array.getElem?_eq_some_iff.1 e1).1
  have x0 := cells_at e1 0 _ rfl
  have x1 := cells_at e1 1 _ rfl
  have x2 := cells_at e1 2 _ rfl
  have E := hide e1
  have HC := hide (count_k5 8 0 0 W)
  rw [show nz 8 + nz 0 + nz 0 = 1 from rfl] at HC
  have HV := hide (hi.below bW)
  obtain ⟨a, c, rfl, hla⟩ := hi.len
  clear hi e1
  go_enter Tryz.func124, Tryz.ntmps124
  go_wp2_with (go_at_call 92; refine HC.out.mono ?_; clear HC; rintro e w2 ⟨rfl, b2⟩)
  clear x0 x1 x2 hW
  go_loopw [14] (fun i wr => (i = .int .i64 0 ∨ i = .int .i64 1) ∧ Below w2.heap.size w2 wr) (fun i _ => 1 - (intOf i).toNat)
  case atStart => exact ⟨.inl rfl, Below.refl _ _⟩
  case round =>
    obtain ⟨hc, hbel⟩ := hrel
    have b3 := trans_v b2 hbel
    have f1 := (b3.block _ zW).trans E.out
    have y0 := cells_at f1 0 _ rfl
    have y1 := cells_at f1 1 _ rfl
    have zr : w.heap.size < wr.heap.size := by have := b3.size; omega
    clear f1
    rcases hc with rfl | rfl
    · obtain ⟨b1, o1, s1, rfl, g1, p0, p1, p2, p3, p4, p5, p6⟩ := first_item (HV.out.below (b3.mono (Nat.le_of_lt zW)))
      have l1 : b1 < wr.heap.size := by have := b3.size; omega
      obtain ⟨xx1, yy1, rfl, _⟩ := p5.len
      rw [hz] at p0
      clear p5 p6 g1
      go_wp2
      go_quiet (fail)
      go_wp2
      go_roundw
      case rel => exact ⟨.inr rfl, trans_v hbel (below_drewA (alloc_v (Below.refl _ _) _) _)⟩
      case measure => simp [intOf]
    · go_wp2
      go_ret
      exact ⟨rfl, trans_v bW b3⟩
set_option maxRecDepth 100000 in
set_option maxHeartbeats 1000000 in
theorem fit_ints (x y : Vl) (hx : x.kind = 2) (hy : y.kind = 2) (w : World) (n : Nat) (sl : Value) (hi : ItemsAt w w.heap.size (n + 1) sl [x, y]) :
    Calls Tryz.prog 124 #[.agg #[.int .u64 4, .int .u64 4, .int .u64 0], sl] w fun e w' => e = .returned (.bool true) ∧ Below w.heap.size w w' := by
  obtain ⟨W, hW⟩ : ∃ W, w.alloc (.cells #[.int .u64 4, .int .u64 4, .int .u64 0] 112) = W := ⟨_, rfl⟩
  have bW : Below w.heap.size w W := by rw [← hW]; exact alloc_v (Below.refl _ _) _
  have e1 : W.heap[w.heap.size]? = some (.cells #[.int .u64 4, .int .u64 4, .int .u64 0] 112 (0, 0)) := by rw [← hW]; exact World.alloc_heap_new w _
  have zW : w.heap.size < W.heap.size := (Array.getElem?_eq_some_iff.1 e1).1
  have x0 := cells_at e1 0 _ rfl
  have x1 := cells_at e1 1 _ rfl
  have x2 := cells_at e1 2 _ rfl
  have E := hide e1
  have HC := hide (count_k5 4 4 0 W)
  rw [show nz 4 + nz 4 + nz 0 = 2 from rfl] at HC
  have HV := hide (hi.below bW)
  obtain ⟨a, c, rfl, hla⟩ := hi.len
  clear hi e1
  go_enter Tryz.func124, Tryz.ntmps124
  go_wp2_with (go_at_call 92; refine HC.out.mono ?_; clear HC; rintro e w2 ⟨rfl, b2⟩)
  clear x0 x1 x2 hW
  go_loopw [14] (fun i wr => (i = .int .i64 0 ∨ i = .int .i64 1 ∨ i = .int .i64 2) ∧ Below w2.heap.size w2 wr) (fun i _ => 2 - (intOf i).toNat)
  case atStart => exact ⟨.inl rfl, Below.refl _ _⟩
  case round =>
    obtain ⟨hc, hbel⟩ := hrel
    have b3 := trans_v b2 hbel
    have f1 := (b3.block _ zW).trans E.out
    have y0 := cells_at f1 0 _ rfl
    have y1 := cells_at f1 1 _ rfl
    have zr : w.heap.size < wr.heap.size := by have := b3.size; omega
    clear f1
    rcases hc with rfl | rfl | rfl
    · obtain ⟨b1, o1, s1, rfl, g1, p0, p1, p2, p3, p4, p5, p6⟩ := first_item (HV.out.below (b3.mono (Nat.le_of_lt zW)))
      have l1 : b1 < wr.heap.size := by have := b3.size; omega
      obtain ⟨xx1, yy1, rfl, _⟩ := p5.len
      rw [hx] at p0
      clear p5 p6 g1
      go_wp2
      go_quiet (fail)
      go_wp2
      go_roundw
      case rel => exact ⟨.inr (.inl rfl), trans_v hbel (below_drewA (alloc_v (Below.refl _ _) _) _)⟩
      case measure => simp [intOf]
    · obtain ⟨b1, o1, s1, rfl, g1, p0, p1, p2, p3, p4, p5, p6⟩ := second_item (HV.out.below (b3.mono (Nat.le_of_lt zW)))
      have l1 : b1 < wr.heap.size := by have := b3.size; omega
      obtain ⟨xx1, yy1, rfl, _⟩ := p5.len
      rw [hy] at p0
      clear p5 p6 g1
      go_wp2
      go_quiet (fail)
      go_wp2
      go_roundw
      case rel => exact ⟨.inr (.inr rfl), trans_v hbel (below_drewA (alloc_v (Below.refl _ _) _) _)⟩
      case measure => simp [intOf]
    · go_wp2
      go_ret
      exact ⟨rfl, trans_v bW b3⟩
end Go.Proofs.YtgglommnipbagaaGreatDoor

/- Functions of one Gaussian number, and their calls. -/
namespace Go.Proofs.YtgglommnipbagaaGreatDoor
open Go.RowKit

theorem conjugate_k {x y : Nat} (w : World) : Calls Tryz.prog 204 #[.complex .f64 x y] w fun e w' => e = .returned (.complex .f64 x (Op.negFloat .f64 y)) ∧ w = w' := by
  have hneg : ∀ (x : Nat) (U : World), (Op.unary .neg (.float .f64 x)).run Tryz.prog U = .ok (.float .f64 (Op.negFloat .f64 x)) U := fun _ _ => rfl
  go_enter Tryz.func204, Tryz.ntmps204
  go_wp2_with (simp only [hneg])
  go_ret
  exact ⟨rfl, rfl⟩
theorem rep_i : Rep 4607182418800017408 1 := by
  have := rep_int 1 (by decide)
  rwa [show floatOfInt .f64 1 = 4607182418800017408 by decide] at this
theorem rep_0 : Rep 0 0 := by
  have := rep_int 0 (by decide)
  rwa [show floatOfInt .f64 0 = 0 by decide] at this
set_option maxRecDepth 100000 in
set_option maxHeartbeats 1000000 in
theorem norm_k (z : Vl) (hz : (-1048576 ≤ z.int ∧ z.int ≤ 1048576) ∧ (-1048576 ≤ z.im ∧ z.im ≤ 1048576)) (w : World) (n : Nat) (sl : Value) (hi : ItemsAt w w.heap.size (n + 1) sl [z]) :
    Calls Tryz.prog 146 #[sl] w fun e w' => e = .returned (outV (intV (z.int * z.int + z.im * z.im), 0)) ∧ Below w.heap.size w w' := by
  obtain ⟨W, hW⟩ : ∃ W, w.alloc (.cells zcells 25) = W := ⟨_, rfl⟩
  have bW : Below w.heap.size w W := by rw [← hW]; exact alloc_v (Below.refl _ _) _
  have e1 : W.heap[w.heap.size]? = some (.cells zcells 25 (0, 0)) := by rw [← hW]; exact World.alloc_heap_new w _
  have zW : w.heap.size < W.heap.size := (Array.getElem?_eq_some_iff.1 e1).1
  have E := hide e1
  have m1 := mul_small hz.1.1 hz.1.2 hz.1.1 hz.1.2
  have m2 := mul_small hz.2.1 hz.2.2 hz.2.1 hz.2.2
  have m3 := mul_small hz.1.1 hz.1.2 hz.2.1 hz.2.2
  have n1 : z.im * -z.im = -(z.im * z.im) := by rw [Int.mul_neg]
  have n2 : z.int * -z.im = -(z.int * z.im) := by rw [Int.mul_neg]
  have n3 : z.im * z.int = z.int * z.im := Int.mul_comm _ _
  obtain ⟨r3, s3, C1, C2, C3⟩ := cmul_rep (rep_int z.int (by omega)) (rep_int z.im (by omega)) (rep_int z.int (by omega)) (neg_rep (rep_int z.im (by omega))) (by omega) (by omega) (by omega) (by omega)
  rw [n1, Int.sub_neg] at C2
  have o3 := fun (t : TypeId) (U : World) => run_complex_mul (P := Tryz.prog) U t _ _ _ _ r3 s3 C1
  have c1 : ∀ U : World, (convert 144 2 (.float .f64 r3)).run Tryz.prog U = .ok (.int .i64 (z.int * z.int + z.im * z.im)) U := fun U => run_convert_float_int U _ _ .f64 .i64 r3 _ (by rw [Tryz.underlying144]; rfl) Tryz.underlying2 (int_rep C2 (by omega) (by omega))
  obtain ⟨a, c, rfl, _⟩ := hi.len
  obtain ⟨b1, o1, s1, rfl, g1, p0, p1, p2, p3, p4, p5, p6⟩ := first_item (hi.below bW)
  obtain ⟨xx1, yy1, rfl, _⟩ := p5.len
  have HC := hide (fun (U : World) => toComplex_k z xx1 z.items.length yy1 U)
  have HJ := hide (fun (U : World) => conjugate_k (x := floatOfInt .f64 z.int) (y := floatOfInt .f64 z.im) U)
  have HI := hide (fun (U : World) => int_k (z.int * z.int + z.im * z.im) U)
  clear hi e1 p5 p6 m1 m2 m3 n1 n2 n3 C1 C2 C3 hz
  generalize z.int * z.int + z.im * z.im = N at *
  go_enter Tryz.func146, Tryz.ntmps146
  go_wp2_with (first
    | (go_at_call 72; refine (HC.out _).mono ?_; clear HC; rintro e w2 ⟨rfl, b2⟩)
    | (go_at_call 204; refine (HJ.out _).mono ?_; clear HJ; rintro e w3 ⟨rfl, rfl⟩)
    | (go_at_call 14; refine (HI.out _).mono ?_; clear HI; rintro e w4 ⟨rfl, b4⟩; have b5 := trans_v b2 b4; have f2 := (b5.block _ zW).trans E.out; have F2 := hide f2; have y0 := cells_at f2 0 _ rfl; have y1 := cells_at f2 1 _ rfl; have y2 := cells_at f2 2 _ rfl; have y3 := cells_at f2 3 _ rfl; have y4 := cells_at f2 4 _ rfl; have q0 := frozen_at f2 0; have q1 := frozen_at f2 1; have q2 := frozen_at f2 2; have q3 := frozen_at f2 3; have q4 := frozen_at f2 4; clear f2))
  have g := stored w w4 2 N 0 ⟨#[]⟩ (.slice none 0 0) zcells w.heap.size (Nat.le_refl _) (trans_v bW b5) rfl F2.out
  refine bodyPost_ret (results_struct_tmp rfl _ _ w.heap.size _ _ _ _ rfl g.1 Tryz.underlying25 rfl infoVal5) rfl ?_
  exact ⟨rfl, g.2⟩
set_option maxRecDepth 100000 in
set_option maxHeartbeats 1000000 in
theorem turned_k (z : Vl) (hz : (-1048576 ≤ z.int ∧ z.int ≤ 1048576) ∧ (-1048576 ≤ z.im ∧ z.im ≤ 1048576)) (w : World) (n : Nat) (sl : Value) (hi : ItemsAt w w.heap.size (n + 1) sl [z]) :
    Calls Tryz.prog 147 #[sl] w fun e w' => e = .returned (outV (⟨3, -z.im, z.int, ⟨#[]⟩, []⟩, 0)) ∧ Below w.heap.size w w' := by
  obtain ⟨W, hW⟩ : ∃ W, w.alloc (.cells zcells 25) = W := ⟨_, rfl⟩
  have bW : Below w.heap.size w W := by rw [← hW]; exact alloc_v (Below.refl _ _) _
  have e1 : W.heap[w.heap.size]? = some (.cells zcells 25 (0, 0)) := by rw [← hW]; exact World.alloc_heap_new w _
  have zW : w.heap.size < W.heap.size := (Array.getElem?_eq_some_iff.1 e1).1
  have E := hide e1
  obtain ⟨r3, s3, C1, C2, C3⟩ := cmul_rep (rep_int z.int (by omega)) (rep_int z.im (by omega)) rep_0 rep_i (by simp) (by omega) (by omega) (by simp)
  rw [Int.mul_zero, Int.mul_one, Int.zero_sub] at C2
  rw [Int.mul_zero, Int.mul_one, Int.add_zero] at C3
  have o3 := fun (t : TypeId) (U : World) => run_complex_mul (P := Tryz.prog) U t _ _ _ _ r3 s3 C1
  have HF := hide (fun (U : World) => fromComplex_k C2 C3 (by omega) (by omega) (by omega) (by omega) U)
  rw [show gaussB (-z.im) z.int = true by unfold gaussB; simp only [Bool.and_eq_true, decide_eq_true_eq]; omega] at HF
  obtain ⟨a, c, rfl, _⟩ := hi.len
  obtain ⟨b1, o1, s1, rfl, g1, p0, p1, p2, p3, p4, p5, p6⟩ := first_item (hi.below bW)
  obtain ⟨xx1, yy1, rfl, _⟩ := p5.len
  have HC := hide (fun (U : World) => toComplex_k z xx1 z.items.length yy1 U)
  clear hi e1 p5 p6 C1 C2 C3 hz
  go_enter Tryz.func147, Tryz.ntmps147
  go_wp2_with (first
    | (go_at_call 72; refine (HC.out _).mono ?_; clear HC; rintro e w2 ⟨rfl, b2⟩)
    | (go_at_call 117; refine (HF.out _).mono ?_; clear HF; rintro e w4 ⟨rfl, b4⟩; have b5 := trans_v b2 b4; have f2 := (b5.block _ zW).trans E.out; have F2 := hide f2; have y0 := cells_at f2 0 _ rfl; have y1 := cells_at f2 1 _ rfl; have y2 := cells_at f2 2 _ rfl; have y3 := cells_at f2 3 _ rfl; have y4 := cells_at f2 4 _ rfl; have q0 := frozen_at f2 0; have q1 := frozen_at f2 1; have q2 := frozen_at f2 2; have q3 := frozen_at f2 3; have q4 := frozen_at f2 4; clear f2))
  have g := stored w w4 3 (-z.im) z.int ⟨#[]⟩ (.slice none 0 0) zcells w.heap.size (Nat.le_refl _) (trans_v bW b5) rfl F2.out
  refine bodyPost_ret (results_struct_tmp rfl _ _ w.heap.size _ _ _ _ rfl g.1 Tryz.underlying25 rfl infoVal5) rfl ?_
  exact ⟨rfl, g.2⟩
theorem find_normOf : fndAt 0 (⟨#[110, 111, 114, 109]⟩ : ByteArray).toList = some 19 := by rw [ByteArray.toList_mk]; kernel_rfl
set_option maxRecDepth 100000 in
set_option maxHeartbeats 1000000 in
theorem call_norm (z : Vl) (hk : z.kind = 3) (hr : rightV z = true) (w : World) (n : Nat) (sl : Value) (hT : TabL w) (hi : ItemsAt w w.heap.size (n + 2) sl [z]) :
    Calls Tryz.prog 87 #[.string ⟨#[110, 111, 114, 109]⟩, sl] w fun e w' => e = .returned (outV (intV (z.int * z.int + z.im * z.im), 0)) ∧ Below w.heap.size w w' := by
  have hz : (-1048576 ≤ z.int ∧ z.int ≤ 1048576) ∧ (-1048576 ≤ z.im ∧ z.im ≤ 1048576) := by
    obtain ⟨k, i, m, t, l⟩ := z
    simp only at hk
    subst hk
    exact right_gauss hr
  obtain ⟨W, hW⟩ : ∃ W, w.alloc (.cells zcells 25) = W := ⟨_, rfl⟩
  have bW : Below w.heap.size w W := by rw [← hW]; exact alloc_v (Below.refl _ _) _
  have e1 : W.heap[w.heap.size]? = some (.cells zcells 25 (0, 0)) := by rw [← hW]; exact World.alloc_heap_new w _
  have zW : w.heap.size < W.heap.size := (Array.getElem?_eq_some_iff.1 e1).1
  have E := hide e1
  have HR := hide (aright_k [z] W n sl (hT.below bW) ((hi.below bW).up bW.size))
  rw [show [z].all rightV = true by simp [hr]] at HR
  have HF := hide (fun (U : World) => find_k ⟨#[110, 111, 114, 109]⟩ U)
  rw [find_normOf, show rowF (some 19) = #[.string ⟨#[110, 111, 114, 109]⟩, .int .u64 8, .int .u64 0, .int .u64 0, .func (.func 146) #[] #[]] by kernel_rfl] at HF
  have HT2 := hide (fun (U : World) (b : Below W.heap.size W U) => fit_gauss z hk U (n + 1) sl ((hi.below (trans_v bW b)).up (trans_v bW b).size))
  have HG := hide (fun (U : World) (b : Below W.heap.size W U) => norm_k z hz U (n + 1) sl ((hi.below (trans_v bW b)).up (trans_v bW b).size))
  obtain ⟨a, c, rfl, _⟩ := hi.len
  clear hi e1 hz hr hk hT
  generalize z.int * z.int + z.im * z.im = N at *
  go_enter Tryz.func87, Tryz.ntmps87
  go_wp2_with (first
    | (go_at_call 66; refine HR.out.mono ?_; clear HR; rintro e w2 ⟨rfl, b2⟩)
    | (go_at_call 91; refine (HF.out _).mono ?_; clear HF; rintro e w3 ⟨rfl, b3⟩)
    | (go_at_call 124; refine (HT2.out _ (trans_v (trans_v b2 b3) (alloc_v (Below.refl _ _) _))).mono ?_; clear HT2; rintro e w4 ⟨rfl, b4⟩; have b5 := trans_v (alloc_v (Below.refl _ _) _) b4; have fx := (b4.block w3.heap.size (by simp)).trans (World.alloc_heap_new w3 _); have t4 := cells_at fx 4 _ rfl; clear fx)
    | (go_at_call 146; refine (HG.out _ (trans_v (trans_v b2 b3) b5)).mono ?_; clear HG; rintro e w6 ⟨rfl, b6⟩; have b7 := trans_v (trans_v (trans_v b2 b3) b5) b6; have f2 := (b7.block _ zW).trans E.out; have F2 := hide f2; have y0 := cells_at f2 0 _ rfl; have y1 := cells_at f2 1 _ rfl; have y2 := cells_at f2 2 _ rfl; have y3 := cells_at f2 3 _ rfl; have y4 := cells_at f2 4 _ rfl; have q0 := frozen_at f2 0; have q1 := frozen_at f2 1; have q2 := frozen_at f2 2; have q3 := frozen_at f2 3; have q4 := frozen_at f2 4; clear f2))
  have g := stored w w6 2 N 0 ⟨#[]⟩ (.slice none 0 0) zcells w.heap.size (Nat.le_refl _) (trans_v bW b7) rfl F2.out
  refine bodyPost_ret (results_struct_tmp rfl _ _ w.heap.size _ _ _ _ rfl g.1 Tryz.underlying25 rfl infoVal5) rfl ?_
  exact ⟨rfl, g.2⟩
theorem find_turned : fndAt 0 (⟨#[116, 117, 114, 110]⟩ : ByteArray).toList = some 20 := by rw [ByteArray.toList_mk]; kernel_rfl
set_option maxRecDepth 100000 in
set_option maxHeartbeats 1000000 in
theorem call_turn (z : Vl) (hk : z.kind = 3) (hr : rightV z = true) (w : World) (n : Nat) (sl : Value) (hT : TabL w) (hi : ItemsAt w w.heap.size (n + 2) sl [z]) :
    Calls Tryz.prog 87 #[.string ⟨#[116, 117, 114, 110]⟩, sl] w fun e w' => e = .returned (outV (⟨3, -z.im, z.int, ⟨#[]⟩, []⟩, 0)) ∧ Below w.heap.size w w' := by
  have hz : (-1048576 ≤ z.int ∧ z.int ≤ 1048576) ∧ (-1048576 ≤ z.im ∧ z.im ≤ 1048576) := by
    obtain ⟨k, i, m, t, l⟩ := z
    simp only at hk
    subst hk
    exact right_gauss hr
  obtain ⟨W, hW⟩ : ∃ W, w.alloc (.cells zcells 25) = W := ⟨_, rfl⟩
  have bW : Below w.heap.size w W := by rw [← hW]; exact alloc_v (Below.refl _ _) _
  have e1 : W.heap[w.heap.size]? = some (.cells zcells 25 (0, 0)) := by rw [← hW]; exact World.alloc_heap_new w _
  have zW : w.heap.size < W.heap.size := (Array.getElem?_eq_some_iff.1 e1).1
  have E := hide e1
  have HR := hide (aright_k [z] W n sl (hT.below bW) ((hi.below bW).up bW.size))
  rw [show [z].all rightV = true by simp [hr]] at HR
  have HF := hide (fun (U : World) => find_k ⟨#[116, 117, 114, 110]⟩ U)
  rw [find_turned, show rowF (some 20) = #[.string ⟨#[116, 117, 114, 110]⟩, .int .u64 8, .int .u64 0, .int .u64 0, .func (.func 147) #[] #[]] by kernel_rfl] at HF
  have HT2 := hide (fun (U : World) (b : Below W.heap.size W U) => fit_gauss z hk U (n + 1) sl ((hi.below (trans_v bW b)).up (trans_v bW b).size))
  have HG := hide (fun (U : World) (b : Below W.heap.size W U) => turned_k z hz U (n + 1) sl ((hi.below (trans_v bW b)).up (trans_v bW b).size))
  obtain ⟨a, c, rfl, _⟩ := hi.len
  clear hi e1 hz hr hk hT
  go_enter Tryz.func87, Tryz.ntmps87
  go_wp2_with (first
    | (go_at_call 66; refine HR.out.mono ?_; clear HR; rintro e w2 ⟨rfl, b2⟩)
    | (go_at_call 91; refine (HF.out _).mono ?_; clear HF; rintro e w3 ⟨rfl, b3⟩)
    | (go_at_call 124; refine (HT2.out _ (trans_v (trans_v b2 b3) (alloc_v (Below.refl _ _) _))).mono ?_; clear HT2; rintro e w4 ⟨rfl, b4⟩; have b5 := trans_v (alloc_v (Below.refl _ _) _) b4; have fx := (b4.block w3.heap.size (by simp)).trans (World.alloc_heap_new w3 _); have t4 := cells_at fx 4 _ rfl; clear fx)
    | (go_at_call 147; refine (HG.out _ (trans_v (trans_v b2 b3) b5)).mono ?_; clear HG; rintro e w6 ⟨rfl, b6⟩; have b7 := trans_v (trans_v (trans_v b2 b3) b5) b6; have f2 := (b7.block _ zW).trans E.out; have F2 := hide f2; have y0 := cells_at f2 0 _ rfl; have y1 := cells_at f2 1 _ rfl; have y2 := cells_at f2 2 _ rfl; have y3 := cells_at f2 3 _ rfl; have y4 := cells_at f2 4 _ rfl; have q0 := frozen_at f2 0; have q1 := frozen_at f2 1; have q2 := frozen_at f2 2; have q3 := frozen_at f2 3; have q4 := frozen_at f2 4; clear f2))
  have g := stored w w6 3 (-z.im) z.int ⟨#[]⟩ (.slice none 0 0) zcells w.heap.size (Nat.le_refl _) (trans_v bW b7) rfl F2.out
  refine bodyPost_ret (results_struct_tmp rfl _ _ w.heap.size _ _ _ _ rfl g.1 Tryz.underlying25 rfl infoVal5) rfl ?_
  exact ⟨rfl, g.2⟩
end Go.Proofs.YtgglommnipbagaaGreatDoor

/- range of 2 and 4. -/
namespace Go.Proofs.YtgglommnipbagaaGreatDoor
open Go.RowKit

abbrev l24 : Vl := ⟨6, 0, 0, ⟨#[]⟩, [intV 2, intV 3]⟩
theorem r_int5 (z : Int) (L r : Nat) : rw (L + 1) (intV z) (r + 1) = (true, r) := by
  have := rw_yes L (intV z) (r + 1) (by omega) ⟨by unfold usedB; simp, by unfold goodB; simp⟩ (r' := r) (by simp [rwL])
  simpa using this
theorem right_int5 (z : Int) : rightV (intV z) = true := by
  unfold rightV
  rw [show (16 : Nat) = 15 + 1 from rfl, show (4096 : Nat) = 4095 + 1 from rfl, r_int5]
theorem right_l24 : rightV l24 = true := by
  unfold rightV
  have h : rwL (rw 15) l24.items (4096 - 1) = (true, 4093) := by
    show rwL (rw 15) [intV 2, intV 3] 4095 = _
    rw [rwL, show (15 : Nat) = 14 + 1 from rfl, show (4095 : Nat) = 4094 + 1 from rfl, r_int5]
    simp only [if_true]
    rw [rwL, show (4094 : Nat) = 4093 + 1 from rfl, r_int5]
    simp [rwL]
  have := rw_yes 15 l24 4096 (by omega) ⟨by unfold usedB; simp, by unfold goodB; simp⟩ h
  rw [this]
  simp
theorem intV_ok {i : Int} (h1 : -9223372036854775808 ≤ i) (h2 : i ≤ 9223372036854775807) : (intV i).ok := ⟨Nat.zero_le _, ⟨h1, h2⟩, by simp⟩
theorem in_nil (w : World) (S : Nat → Prop) : ItemsIn w S 1 (.slice none 0 0) [] := ⟨none, 0, rfl, by simp [maxLen], fun j h => by simp at h⟩
set_option maxRecDepth 100000 in
set_option maxHeartbeats 1000000 in
theorem range_k (w : World) (n : Nat) (sl : Value) (hT : TabL w) (hi : ItemsAt w w.heap.size (n + 1) sl [intV 2, intV 4]) :
    Calls Tryz.prog 140 #[sl] w fun e w' => ∃ a c, e = .returned (.tuple #[.agg (vcells l24 (.slice a 2 c)), .int .i64 0]) ∧ Below w.heap.size w w' := by
  obtain ⟨W, hW⟩ : ∃ W, w.alloc (.cells zcells 25) = W := ⟨_, rfl⟩
  have bW : Below w.heap.size w W := by rw [← hW]; exact alloc_v (Below.refl _ _) _
  have e1 : W.heap[w.heap.size]? = some (.cells zcells 25 (0, 0)) := by rw [← hW]; exact World.alloc_heap_new w _
  have zW : w.heap.size < W.heap.size := (Array.getElem?_eq_some_iff.1 e1).1
  have E := hide e1
  have HT := hide (hT.below bW)
  obtain ⟨a, c, rfl, _⟩ := hi.len
  obtain ⟨b1, o1, s1, rfl, g1, p0, p1, p2, p3, p4, p5, p6⟩ := first_item (hi.below bW)
  obtain ⟨b2, o2, s2, hab, g2, q0, q1, q2, q3, q4, q5, q6⟩ := second_item (hi.below bW)
  obtain ⟨rfl, rfl⟩ : b1 = b2 ∧ o1 = o2 := by simpa using hab
  have HI := hide (fun (i : Int) (U : World) => int_k i U)
  clear hi e1 p5 p6 q5 q6 hab hT p0 p2 p3 p4 q0 q2 q3 q4
  go_enter Tryz.func140, Tryz.ntmps140
  go_wp2
  go_quiet (fail)
  go_wp2
  have bQ : Below W.heap.size W (W.drewN nq) := below_drewA (Below.refl _ _) _
  obtain ⟨X, hX⟩ : ∃ X, W.drewN nq = X := ⟨_, rfl⟩
  rw [hX] at bQ ⊢
  clear hW p1 q1 hX
  go_loopw [6, 7] (fun v i wr => ((i = .int .i64 2 ∧ OwnAt wr X.heap.size 1 v []) ∨ (i = .int .i64 3 ∧ OwnAt wr X.heap.size 1 v [intV 2]) ∨ (i = .int .i64 4 ∧ OwnAt wr X.heap.size 1 v [intV 2, intV 3])) ∧ Below X.heap.size X wr) (fun _ i _ => 4 - (intOf i).toNat)
  case atStart => exact ⟨.inl ⟨rfl, OwnAt.nil _ _ _⟩, Below.refl _ _⟩
  case round =>
    obtain ⟨hc, hbel⟩ := hrel
    rcases hc with ⟨rfl, hO⟩ | ⟨rfl, hO⟩ | ⟨rfl, hO⟩
    · have HP := hide (fun (U : World) (b : Below wr.heap.size wr U) => hO.push (x := intV 2) hbel.size b (in_nil U _) (intV_ok (by decide) (by decide)) (by simp) 22)
      have HB := hide hbel
      clear hO hbel
      go_wp2_with (first
        | (go_at_call 14; refine (HI.out _ _).mono ?_; rintro e w3 ⟨rfl, b3⟩; obtain ⟨v5, w5, hrun, O5, B5⟩ := HP.out _ b3; have HRN := hide hrun; have HO5 := hide O5; have HB5 := hide (HB.out.trans ((b3.mono HB.out.size).trans B5)); clear hrun O5 B5 HP)
        | (at_builtin; refine Lib.wpList_append_run _ rfl (.tmp 34) (.tmp 37) 22 22 rfl _ _ rfl rfl _ _ HRN.out ?_; clear HRN))
      go_roundw
      case rel => exact ⟨.inr (.inl ⟨rfl, HO5.out⟩), HB5.out⟩
      case measure => simp [intOf]
    · have HP := hide (fun (U : World) (b : Below wr.heap.size wr U) => hO.push (x := intV 3) hbel.size b (in_nil U _) (intV_ok (by decide) (by decide)) (by simp) 22)
      have HB := hide hbel
      clear hO hbel
      go_wp2_with (first
        | (go_at_call 14; refine (HI.out _ _).mono ?_; rintro e w3 ⟨rfl, b3⟩; obtain ⟨v5, w5, hrun, O5, B5⟩ := HP.out _ b3; have HRN := hide hrun; have HO5 := hide O5; have HB5 := hide (HB.out.trans ((b3.mono HB.out.size).trans B5)); clear hrun O5 B5 HP)
        | (at_builtin; refine Lib.wpList_append_run _ rfl (.tmp 34) (.tmp 37) 22 22 rfl _ _ rfl rfl _ _ HRN.out ?_; clear HRN))
      go_roundw
      case rel => exact ⟨.inr (.inr ⟨rfl, HO5.out⟩), HB5.out⟩
      case measure => simp [intOf]
    · have HL := hide (listL_k [intV 2, intV 3] wr 0 _ (HT.out.below (trans_v bQ hbel)) ((hO.items (by simp [maxLen])).at (fun b hb => hb.2)) (fun x hx => by simp at hx; rcases hx with rfl | rfl <;> exact right_int5 _) (by rw [Vl.size_eq]; simp [Vl.size]))
      rw [right_l24] at HL
      obtain ⟨a0, c0, rfl, _⟩ := (hO.items (by simp [maxLen])).len
      have HB := hide (trans_v bQ hbel)
      have HM := hide (fun (a : Option Addr) (c : Nat) (U : World) => limited_k l24 a 2 c 0 U)
      clear hO hbel
      go_wp2_with (first
        | (go_at_call 45; refine HL.out.mono ?_; clear HL; rintro e w3 ⟨s3, rfl, i3, b3⟩; obtain ⟨a3, c3, rfl, _⟩ := (i3 rfl).len; clear i3)
        | (go_at_call 118; refine (HM.out _ _ _).mono ?_; clear HM; rintro e w4 ⟨rfl, b4⟩; have b5 := trans_v (trans_v HB.out b3) b4; have f2 := (b5.block _ zW).trans E.out; have F2 := hide f2; have y0 := cells_at f2 0 _ rfl; have y1 := cells_at f2 1 _ rfl; have y2 := cells_at f2 2 _ rfl; have y3 := cells_at f2 3 _ rfl; have y4 := cells_at f2 4 _ rfl; have t0 := frozen_at f2 0; have t1 := frozen_at f2 1; have t2 := frozen_at f2 2; have t3 := frozen_at f2 3; have t4 := frozen_at f2 4; clear f2))
      have g := stored w w4 6 0 0 ⟨#[]⟩ (.slice a3 2 c3) zcells w.heap.size (Nat.le_refl _) (trans_v bW b5) rfl F2.out
      refine bodyPost_ret (results_struct_tmp rfl _ _ w.heap.size _ _ _ _ rfl g.1 Tryz.underlying25 rfl infoVal5) rfl ?_
      exact ⟨a3, c3, rfl, g.2⟩
theorem find_range : fndAt 0 (⟨#[114, 97, 110, 103, 101]⟩ : ByteArray).toList = some 13 := by rw [ByteArray.toList_mk]; kernel_rfl
set_option maxRecDepth 100000 in
set_option maxHeartbeats 1000000 in
theorem call_range (w : World) (n : Nat) (sl : Value) (hT : TabL w) (hi : ItemsAt w w.heap.size (n + 2) sl [intV 2, intV 4]) :
    Calls Tryz.prog 87 #[.string ⟨#[114, 97, 110, 103, 101]⟩, sl] w fun e w' => ∃ a c, e = .returned (.tuple #[.agg (vcells l24 (.slice a 2 c)), .int .i64 0]) ∧ Below w.heap.size w w' := by
  obtain ⟨W, hW⟩ : ∃ W, w.alloc (.cells zcells 25) = W := ⟨_, rfl⟩
  have bW : Below w.heap.size w W := by rw [← hW]; exact alloc_v (Below.refl _ _) _
  have e1 : W.heap[w.heap.size]? = some (.cells zcells 25 (0, 0)) := by rw [← hW]; exact World.alloc_heap_new w _
  have zW : w.heap.size < W.heap.size := (Array.getElem?_eq_some_iff.1 e1).1
  have E := hide e1
  have HR := hide (aright_k [intV 2, intV 4] W n sl (hT.below bW) ((hi.below bW).up bW.size))
  rw [show [intV 2, intV 4].all rightV = true by simp [right_int5]] at HR
  have HF := hide (fun (U : World) => find_k ⟨#[114, 97, 110, 103, 101]⟩ U)
  rw [find_range, show rowF (some 13) = #[.string ⟨#[114, 97, 110, 103, 101]⟩, .int .u64 4, .int .u64 4, .int .u64 0, .func (.func 140) #[] #[]] by kernel_rfl] at HF
  have HT2 := hide (fun (U : World) (b : Below W.heap.size W U) => fit_ints (intV 2) (intV 4) rfl rfl U (n + 1) sl ((hi.below (trans_v bW b)).up (trans_v bW b).size))
  have HG := hide (fun (U : World) (b : Below W.heap.size W U) => range_k U (n + 1) sl (hT.below (trans_v bW b)) ((hi.below (trans_v bW b)).up (trans_v bW b).size))
  obtain ⟨a, c, rfl, _⟩ := hi.len
  clear hi e1 hT
  go_enter Tryz.func87, Tryz.ntmps87
  go_wp2_with (first
    | (go_at_call 66; refine HR.out.mono ?_; clear HR; rintro e w2 ⟨rfl, b2⟩)
    | (go_at_call 91; refine (HF.out _).mono ?_; clear HF; rintro e w3 ⟨rfl, b3⟩)
    | (go_at_call 124; refine (HT2.out _ (trans_v (trans_v b2 b3) (alloc_v (Below.refl _ _) _))).mono ?_; clear HT2; rintro e w4 ⟨rfl, b4⟩; have b5 := trans_v (alloc_v (Below.refl _ _) _) b4; have fx := (b4.block w3.heap.size (by simp)).trans (World.alloc_heap_new w3 _); have t4 := cells_at fx 4 _ rfl; clear fx)
    | (go_at_call 140; refine (HG.out _ (trans_v (trans_v b2 b3) b5)).mono ?_; clear HG; rintro e w6 ⟨a6, c6, rfl, b6⟩; have b7 := trans_v (trans_v (trans_v b2 b3) b5) b6; have f2 := (b7.block _ zW).trans E.out; have F2 := hide f2; have y0 := cells_at f2 0 _ rfl; have y1 := cells_at f2 1 _ rfl; have y2 := cells_at f2 2 _ rfl; have y3 := cells_at f2 3 _ rfl; have y4 := cells_at f2 4 _ rfl; have q0 := frozen_at f2 0; have q1 := frozen_at f2 1; have q2 := frozen_at f2 2; have q3 := frozen_at f2 3; have q4 := frozen_at f2 4; clear f2))
  have g := stored w w6 6 0 0 ⟨#[]⟩ (.slice a6 2 c6) zcells w.heap.size (Nat.le_refl _) (trans_v bW b7) rfl F2.out
  refine bodyPost_ret (results_struct_tmp rfl _ _ w.heap.size _ _ _ _ rfl g.1 Tryz.underlying25 rfl infoVal5) rfl ?_
  exact ⟨a6, c6, rfl, g.2⟩
end Go.Proofs.YtgglommnipbagaaGreatDoor

/- heads answers true. -/
namespace Go.Proofs.YtgglommnipbagaaGreatDoor
open Go.RowKit

theorem noCmp_div : noCmp ⟨#[47]⟩ := by unfold noCmp; rw [ByteArray.toList_mk]; decide
theorem noCmp_rem : noCmp ⟨#[37]⟩ := by unfold noCmp; rw [ByteArray.toList_mk]; decide
theorem noCmp_mul : noCmp ⟨#[42]⟩ := by unfold noCmp; rw [ByteArray.toList_mk]; decide
theorem ints_div (a b : Int) : intsV ⟨#[47]⟩ a b = bif b == 0 then (zeroV, 50) else (intV (wrap64 (a.tdiv b)), 0) := by unfold intsV divV; rw [ByteArray.toList_mk]; rfl
theorem ints_rem (a b : Int) : intsV ⟨#[37]⟩ a b = bif b == 0 then (zeroV, 50) else (intV (a.tmod b), 0) := by unfold intsV divV; rw [ByteArray.toList_mk]; rfl
theorem gs_mul (a b c d : Int) : gsV ⟨#[42]⟩ a b c d = gR (a * c - b * d) (a * d + b * c) := by unfold gsV; rw [ByteArray.toList_mk]; rfl
theorem un_bool (x : Int) (h : x = 0 ∨ x = 1) : unV ⟨#[45]⟩ ⟨1, x, 0, ⟨#[]⟩, []⟩ = (zeroV, 51) := by
  have hr : rightV ⟨1, x, 0, ⟨#[]⟩, []⟩ = true := by
    rcases h with rfl | rfl
    · exact right_leaf1 false
    · exact right_leaf1 true
  unfold unV
  rw [hr, ByteArray.toList_mk]
  rfl
abbrev gV (i m : Int) : Vl := ⟨3, i, m, ⟨#[]⟩, []⟩
theorem gV_ok {i m : Int} (h1 : -9223372036854775808 ≤ i ∧ i ≤ 9223372036854775807) (h2 : -9223372036854775808 ≤ m ∧ m ≤ 9223372036854775807) : (gV i m).ok := ⟨Nat.zero_le _, h1, h2⟩
theorem find_put : fndAt 0 (⟨#[112, 117, 116]⟩ : ByteArray).toList = some 5 := by rw [ByteArray.toList_mk]; kernel_rfl
set_option maxRecDepth 100000 in
set_option maxHeartbeats 4000000 in
theorem heads5_k (w : World) (hT : TabL w) : Calls Tryz.prog 31 #[] w fun e w' => e = .returned (.bool true) ∧ Below w.heap.size w w' := by
  have H1 := hide (fun (U : World) => refInt5_k (-7) U)
  have H2 := hide (fun (U : World) => refInt5_k 2 U)
  have H3 := hide (fun (U : World) (b : Below w.heap.size w U) => binInts_k ⟨#[47]⟩ (intV (-7)) (intV 2) U 1 (.slice none 0 0) (.slice none 0 0) (hT.below b) (intV_ok (by decide) (by decide)) (intV_ok (by decide) (by decide)) (items_nil _ _) (items_nil _ _) noCmp_div rfl rfl (right_int5 _) (right_int5 _))
  rw [show intsV ⟨#[47]⟩ (intV (-7)).int (intV 2).int = (intV (-3), 0) by rw [ints_div]; kernel_rfl] at H3
  have H4 := hide (fun (U : World) => lawGauss_k 0 1 U)
  have H5 := hide (fun (U : World) => lawGauss_k 0 1 U)
  have H6 := hide (fun (U : World) (b : Below w.heap.size w U) => binGauss_k ⟨#[42]⟩ (gV 0 1) (gV 0 1) U 1 (.slice none 0 0) (.slice none 0 0) (hT.below b) (gV_ok (by decide) (by decide)) (gV_ok (by decide) (by decide)) (items_nil _ _) (items_nil _ _) noCmp_mul rfl rfl (by rw [right_leaf3]; rfl) (by rw [right_leaf3]; rfl))
  rw [show gsV ⟨#[42]⟩ (gV 0 1).int (gV 0 1).im (gV 0 1).int (gV 0 1).im = (gV (-1) 0, 0) by rw [gs_mul]; kernel_rfl] at H6
  have H7 := hide (fun (U : World) => refInt5_k 2 U)
  have H8 := hide (fun (U : World) => refInt5_k 4 U)
  have H9 := hide (fun (U : World) (b : Below w.heap.size w U) => call_range (U.alloc (.cells #[.int .i64 2, .int .i64 2, .int .i64 0, .string ⟨#[]⟩, .slice none 0 0, .int .i64 2, .int .i64 4, .int .i64 0, .string ⟨#[]⟩, .slice none 0 0] 25)) 0 (.slice (some ⟨U.heap.size, 0, none⟩) 2 2) (hT.below (alloc_v b _)) ((items_two (a := intV 2) (b := intV 4) (items_nil _ _) (items_nil _ _) (intV_ok (by decide) (by decide)) (intV_ok (by decide) (by decide))).up (by simp)))
  have H10 := hide (fun (U : World) => refBool5_k true U)
  have H11 := hide (fun (U : World) (b : Below w.heap.size w U) => unary_k ⟨#[45]⟩ ⟨1, 1, 0, ⟨#[]⟩, []⟩ U 1 (.slice none 0 0) (hT.below b) ⟨Nat.zero_le _, by decide, by decide⟩ (items_nil _ _))
  rw [un_bool 1 (.inr rfl)] at H11
  have H12 := hide (fun (U : World) => arity_some ⟨#[112, 117, 116]⟩ 5 ⟨#[112, 117, 116]⟩ 64 4 18446744073709551615 (.func 132) find_put (by kernel_rfl) U)
  rw [show nz 64 + nz 4 + nz 18446744073709551615 = 3 from rfl] at H12
  clear hT
  go_enter Tryz.func31, Tryz.ntmps31
  go_wp2_with (first
    | (go_at_call 85; with_reducible refine (H1.out _).mono ?_; clear H1; rintro e w1 ⟨rfl, b1⟩)
    | (go_at_call 85; with_reducible refine (H2.out _).mono ?_; clear H2; rintro e w2 ⟨rfl, b2⟩)
    | (go_at_call 26; with_reducible refine (H3.out _ (trans_v b1 b2)).mono ?_; clear H3; rintro e w3 ⟨rfl, b3⟩; have B3 := trans_v (trans_v (trans_v b1 b2) b3) (alloc_v (Below.refl _ _) (.cells (vcells (intV (-3)) (.slice none 0 0)) 25)))
    | (go_at_call 86; with_reducible refine (H4.out _).mono ?_; clear H4; rintro e w4 ⟨rfl, b4⟩)
    | (go_at_call 86; with_reducible refine (H5.out _).mono ?_; clear H5; rintro e w5 ⟨rfl, b5⟩)
    | (go_at_call 26; with_reducible refine (H6.out _ (trans_v (trans_v B3 b4) b5)).mono ?_; clear H6; rintro e w6 ⟨rfl, b6⟩; have A6 := trans_v (trans_v (trans_v b4 b5) b6) (alloc_v (Below.refl _ _) (.cells (vcells (gV (-1) 0) (.slice none 0 0)) 25)); have B6 := trans_v B3 A6)
    | (go_at_call 85; with_reducible refine (H7.out _).mono ?_; clear H7; rintro e w7 ⟨rfl, b7⟩)
    | (go_at_call 85; with_reducible refine (H8.out _).mono ?_; clear H8; rintro e w8 ⟨rfl, b8⟩)
    | (go_at_call 87; refine (H9.out w8 (trans_v (trans_v B6 b7) b8)).mono ?_; clear H9; rintro e w9 ⟨a9, c9, rfl, b9⟩; have A9 := trans_v (trans_v (trans_v b7 b8) (trans_v (alloc_v (Below.refl _ _) _) b9)) (alloc_v (Below.refl _ _) (.cells (vcells l24 (.slice a9 2 c9)) 25)); have B9 := trans_v B6 A9)
    | (go_at_call 75; refine (H10.out _).mono ?_; clear H10; rintro e w10 ⟨rfl, b10⟩)
    | (go_at_call 88; refine (H11.out _ (trans_v B9 b10)).mono ?_; clear H11; rintro e w11 ⟨rfl, b11⟩; have A11 := trans_v (trans_v b10 b11) (alloc_v (Below.refl _ _) (.cells (vcells zeroV (.slice none 0 0)) 25)); have B11 := trans_v B9 A11; have FA := ((trans_v A6 (trans_v A9 A11)).block w3.heap.size (by simp)).trans (World.alloc_heap_new w3 _); have FB := ((trans_v A9 A11).block w6.heap.size (by simp)).trans (World.alloc_heap_new w6 _); have FC := (A11.block w9.heap.size (by simp)).trans (World.alloc_heap_new w9 _); have ca := cells_at FA 1 _ rfl; have cb := cells_at FB 0 _ rfl; have cb1 := cells_at FB 1 _ rfl; have cc := cells_at FC 4 _ rfl; clear FA FB FC A6 A9 A11)
    | (go_at_call 36; refine (H12.out _).mono ?_; clear H12; rintro e w12 ⟨rfl, b12⟩))
  go_ret
  exact ⟨rfl, trans_v B11 b12⟩
end Go.Proofs.YtgglommnipbagaaGreatDoor
