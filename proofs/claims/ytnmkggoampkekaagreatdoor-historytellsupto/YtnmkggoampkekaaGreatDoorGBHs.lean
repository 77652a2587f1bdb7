/- Sets of small numbers: what a set is in memory; what its small functions answer. -/
import Derived.Test.YtnmkggoampkekaaGreatDoorChecked
import Derived.Test.YtnmkggoampkekaaGreatDoorGText
import Derived.WalkKit
import Derived.BigCall
import Derived.BigQuiet
import Derived.Deep.QuietTactic
import Derived.Laws.BitsAllLaws
import Derived.Laws.OwnMore
import Derived.Lib.SliceRun
import Derived.RangeFuncNested
import Derived.RangeFuncBound
import Derived.RangeFuncCalls
import Derived.RangeFuncLeaves
import Derived.Shelf.Abstract
import Derived.Shelf.RegionOpen
import Derived.OwnWalkIn
import Derived.TacticsInMore
import Derived.LoopNIn
import Derived.LoopIn
import Derived.Maps.AppendAt
import Derived.Lib.OthersKept
import Derived.Deep.RegionHeld3
namespace Go.Proofs.YtnmkggoampkekaaGreatDoor
open Go.RowKit

theorem infoWord : (Tryz.prog.info? 65).map (fun i => (i.zero, i.size, i.bytes)) = some (some (.int .u64 0), 1, 8) := by kernel_rfl

def u64s (ws : List Nat) : List Value := ws.map fun (x : Nat) => Value.int .u64 (x : Int)
theorem u64s_length (ws : List Nat) : (u64s ws).length = ws.length := by simp [u64s]
theorem u64s_one (ws : List Nat) : ∀ u ∈ u64s ws, u.oneCell' = true := by
  intro u hu
  obtain ⟨_, _, rfl⟩ := List.mem_map.1 hu
  rfl
theorem u64s_get (ws : List Nat) (k : Nat) (h : k < ws.length) : (u64s ws)[k]? = some (.int .u64 (ws[k] : Int)) := by simp [u64s, h]
theorem u64s_set (ws : List Nat) (k x : Nat) : (u64s ws).set k (.int .u64 (x : Int)) = u64s (ws.set k x) := by simp [u64s, List.map_set]

/-- A set that a call made: its struct lies in block sb, its words in block g. -/
structure SetAt (w : World) (sb g cap n : Nat) (ws : List Nat) : Prop where
  st : w.heap[sb]? = some (.cells #[.bool true, .int .i64 (n : Int), .slice (some ⟨g, 0, none⟩) ws.length cap] 82 (0, 0))
  row : w.ownsRow 0 65 1 (.slice (some ⟨g, 0, none⟩) ws.length cap) ws.length (u64s ws)
  len : ws.length = (n + 63) / 64
  room : n ≤ 4096
  fit : ∀ x ∈ ws, x < 18446744073709551616

theorem SetAt.lt {w : World} {sb g cap n : Nat} {ws : List Nat} (h : SetAt w sb g cap n ws) : sb < w.heap.size := (Array.getElem?_eq_some_iff.1 h.st).1
theorem SetAt.glt {w : World} {sb g cap n : Nat} {ws : List Nat} (h : SetAt w sb g cap n ws) : g < w.heap.size := (h.row.lt g rfl).2
theorem row_block_is {w : World} {base : Nat} {e : TypeId} {size g n cap : Nat} {xs : List Value} (h : w.ownsRow base e size (.slice (some ⟨g, 0, none⟩) n cap) n xs) : ∃ cur, w.heap[g]? = some (.cells cur e (0, 0)) := by
  rcases h.2 with ⟨h, _⟩ | ⟨g', cap', cur, hv, _, hh, _⟩
  · cases h
  · simp only [Value.slice.injEq, Option.some.injEq, Addr.mk.injEq, and_true, true_and] at hv
    obtain ⟨rfl, rfl⟩ := hv
    exact ⟨cur, hh⟩
theorem SetAt.ne {w : World} {sb g cap n : Nat} {ws : List Nat} (h : SetAt w sb g cap n ws) : sb ≠ g := by
  rintro rfl
  obtain ⟨cur, hc⟩ := row_block_is h.row
  have := h.st.symm.trans hc
  simp at this
theorem SetAt.kept {w w' : World} {sb g cap n : Nat} {ws : List Nat} {r : Option Nat} (h : SetAt w sb g cap n ws) (hg : w.grownBy w' r) (h1 : r ≠ some sb) (h2 : r ≠ some g) : SetAt w' sb g cap n ws :=
  ⟨(hg.block sb h.lt (Ne.symm h1)).trans h.st, h.row.kept hg (.inr (Ne.symm h2)), h.len, h.room, h.fit⟩
theorem SetAt.below {w w' : World} {B sb g cap n : Nat} {ws : List Nat} (h : SetAt w sb g cap n ws) (hb : Below B w w') (h1 : sb < B) (h2 : g < B) : SetAt w' sb g cap n ws := by
  refine ⟨(hb.block sb h1).trans h.st, ⟨h.row.1, ?_⟩, h.len, h.room, h.fit⟩
  rcases h.row.2 with ⟨h, _⟩ | ⟨g', cap', cur, hv, hb', hh, rest⟩
  · cases h
  · have hv' := hv
    simp only [Value.slice.injEq, Option.some.injEq, Addr.mk.injEq, and_true, true_and] at hv'
    obtain ⟨rfl, rfl⟩ := hv'
    exact .inr ⟨_, _, cur, rfl, hb', (hb.block g h2).trans hh, rest⟩
theorem SetAt.alloc {w : World} {sb g cap n : Nat} {ws : List Nat} (h : SetAt w sb g cap n ws) (o : Obj) : SetAt (w.alloc o) sb g cap n ws :=
  h.kept (World.grownBy_alloc w o none) (by simp) (by simp)
theorem SetAt.cells {w : World} {sb g cap n : Nat} {ws : List Nat} (h : SetAt w sb g cap n ws) :
    w.cell? ⟨sb, 0, none⟩ = some (.bool true) ∧ w.cell? ⟨sb, 1, none⟩ = some (.int .i64 (n : Int)) ∧ w.cell? ⟨sb, 2, none⟩ = some (.slice (some ⟨g, 0, none⟩) ws.length cap) := by
  simp [World.cell?, h.st]
theorem SetAt.get {w : World} {sb g cap n : Nat} {ws : List Nat} (h : SetAt w sb g cap n ws) (k : Nat) (hk : k < ws.length) : w.cell? ⟨g, k, none⟩ = some (.int .u64 (ws[k] : Int)) := by
  rw [h.row.cellAt k (by omega), u64s_get ws k hk]
theorem SetAt.frozen {w : World} {sb g cap n : Nat} {ws : List Nat} (h : SetAt w sb g cap n ws) (k : Nat) : w.frozen? ⟨g, k, none⟩ = false := h.row.frozenAt k
theorem SetAt.wlt {w : World} {sb g cap n : Nat} {ws : List Nat} (h : SetAt w sb g cap n ws) (k : Nat) (hk : k < ws.length) : ws[k] < 18446744073709551616 := h.fit _ (List.getElem_mem hk)
/-- A word is laid. -/
theorem SetAt.put {w : World} {sb g cap n : Nat} {ws : List Nat} (h : SetAt w sb g cap n ws) (k x : Nat) (hx : x < 18446744073709551616) :
    SetAt (w.setCell ⟨g, k, none⟩ (.int .u64 (x : Int))) sb g cap n (ws.set k x) ∧ w.grownBy (w.setCell ⟨g, k, none⟩ (.int .u64 (x : Int))) (some g) := by
  obtain ⟨h1, h2⟩ := h.row.stored k (.int .u64 (x : Int))
  refine ⟨⟨?_, ?_, by rw [List.length_set]; exact h.len, h.room, ?_⟩, h2⟩
  · rw [List.length_set]
    exact (h2.block sb h.lt (by simpa using h.ne)).trans h.st
  · rw [u64s_set] at h1
    rw [List.length_set]
    exact h1
  · intro y hy
    rcases List.mem_or_eq_of_mem_set hy with h' | h'
    · exact h.fit y h'
    · rw [h']; exact hx

theorem SetAt.drew {w : World} {sb g cap n : Nat} {ws : List Nat} (h : SetAt w sb g cap n ws) : SetAt w.drew sb g cap n ws := ⟨h.st, h.row.drew, h.len, h.room, h.fit⟩
theorem SetAt.drewN {w : World} {sb g cap n : Nat} {ws : List Nat} (h : SetAt w sb g cap n ws) (m : Nat) : SetAt (w.drewN m) sb g cap n ws := ⟨h.st, h.row, h.len, h.room, h.fit⟩
theorem grown_drew {w w' : World} {r : Option Nat} (h : w.grownBy w' r) : w.grownBy w'.drew r := ⟨h.os, h.tape, h.output, h.size, h.block⟩
theorem grown_refl (w : World) (r : Option Nat) : w.grownBy w r := ⟨rfl, rfl, rfl, Nat.le_refl _, fun _ _ _ => rfl⟩
theorem grown_trans {w w' w'' : World} {r : Option Nat} (h : w.grownBy w' r) (k : w'.grownBy w'' r) : w.grownBy w'' r :=
  ⟨k.os.trans h.os, k.tape.trans h.tape, k.output.trans h.output, Nat.le_trans h.size k.size, fun j hj hne => (k.block j (Nat.lt_of_lt_of_le hj h.size) hne).trans (h.block j hj hne)⟩

/-- What is none: nil, or a zero struct. -/
def NoSet (w : World) (v : Value) : Prop := v = .pointer none ∨ ∃ b, v = .pointer (some ⟨b, 0, none⟩) ∧ w.cell? ⟨b, 0, none⟩ = some (.bool false)

theorem usable_k {w : World} {sb g cap n : Nat} {ws : List Nat} (h : SetAt w sb g cap n ws) :
    Calls Tryz.prog 31 #[.pointer (some ⟨sb, 0, none⟩)] w fun e w' => e = .returned (.bool true) ∧ w = w' := by
  obtain ⟨c0, c1, c2⟩ := h.cells
  go_enter Tryz.func31, Tryz.ntmps31
  go_wp2
  go_ret
  exact ⟨rfl, rfl⟩
theorem usable_no {w : World} {v : Value} (h : NoSet w v) :
    Calls Tryz.prog 31 #[v] w fun e w' => e = .returned (.bool false) ∧ w = w' := by
  rcases h with rfl | ⟨b, rfl, hb⟩
  · go_enter Tryz.func31, Tryz.ntmps31
    go_wp2
    go_ret
    exact ⟨rfl, rfl⟩
  · go_enter Tryz.func31, Tryz.ntmps31
    go_wp2
    go_ret
    exact ⟨rfl, rfl⟩

/-- What takes tells. -/
def tk (n : Nat) (i : Int) : Int := if 0 ≤ i ∧ i < (n : Int) then 0 else 30
theorem takes_k {w : World} {sb g cap n : Nat} {ws : List Nat} (h : SetAt w sb g cap n ws) (i : Int) :
    Calls Tryz.prog 33 #[.pointer (some ⟨sb, 0, none⟩), .int .i64 i] w fun e w' => e = .returned (.int .i64 (tk n i)) ∧ w = w' := by
  obtain ⟨c0, c1, c2⟩ := h.cells
  have HU := hide (usable_k h)
  clear h
  unfold tk
  by_cases h0 : i < 0
  · rw [if_neg (by omega)]
    go_enter Tryz.func33, Tryz.ntmps33
    go_wp2_with (go_at_call 31; refine HU.out.mono ?_; rintro e w1 ⟨rfl, rfl⟩)
    go_ret
    exact ⟨rfl, rfl⟩
  · by_cases h1 : i < (n : Int)
    · rw [if_pos (by omega)]
      go_enter Tryz.func33, Tryz.ntmps33
      go_wp2_with (go_at_call 31; refine HU.out.mono ?_; rintro e w1 ⟨rfl, rfl⟩)
      go_ret
      exact ⟨rfl, rfl⟩
    · rw [if_neg (by omega)]
      go_enter Tryz.func33, Tryz.ntmps33
      go_wp2_with (go_at_call 31; refine HU.out.mono ?_; rintro e w1 ⟨rfl, rfl⟩)
      go_ret
      exact ⟨rfl, rfl⟩
theorem takes_no {w : World} {v : Value} (h : NoSet w v) (i : Int) :
    Calls Tryz.prog 33 #[v, .int .i64 i] w fun e w' => e = .returned (.int .i64 1) ∧ w = w' := by
  have HU := hide (usable_no h)
  clear h
  go_enter Tryz.func33, Tryz.ntmps33
  go_wp2_with (go_at_call 31; refine HU.out.mono ?_; rintro e w1 ⟨rfl, rfl⟩)
  go_ret
  exact ⟨rfl, rfl⟩

theorem wordsFor_k (n : Nat) (hn : n ≤ 4096) (w : World) :
    Calls Tryz.prog 30 #[.int .i64 (n : Int)] w fun e w' => e = .returned (.int .i64 (((n + 63) / 64 : Nat) : Int)) ∧ w = w' := by
  have e1 : (((n + 63) / 64 : Nat) : Int) = ((n : Int) + 63) / 64 := by omega
  rw [e1]
  go_enter Tryz.func30, Tryz.ntmps30
  go_wp2
  go_ret
  exact ⟨by go_num, rfl⟩

theorem bit_k (i : Nat) (hi : i < 4096) (w : World) :
    Calls Tryz.prog 34 #[.int .i64 (i : Int)] w fun e w' => e = .returned (.int .u64 ((2 ^ (i % 64) : Nat) : Int)) ∧ w = w' := by
  go_enter Tryz.func34, Tryz.ntmps34
  go_wp2
  go_ret
  have hp : (2 : Nat) ^ (i % 64) ≤ 2 ^ 63 := Nat.pow_le_pow_right (by decide) (by omega)
  have e1 : IntKind.u64.wrap (2 ^ (i % 64)) = ((2 ^ (i % 64) : Nat) : Int) := by
    rw [IntKind.wrap_u64]
    have : ((2 : Int) ^ (i % 64)) = ((2 ^ (i % 64) : Nat) : Int) := by simp
    rw [this]
    generalize (2 : Nat) ^ (i % 64) = x at *
    omega
  rw [e1]
  exact ⟨rfl, rfl⟩

theorem new_no (i : Int) (h : i < 0 ∨ 4096 < i) (w : World) :
    Calls Tryz.prog 16 #[.int .i64 i] w fun e w' => e = .returned (.tuple #[.pointer none, .int .i64 30]) ∧ w = w' := by
  rcases h with h | h
  · go_enter Tryz.func16, Tryz.ntmps16
    go_wp2
    go_ret2
    exact ⟨rfl, rfl⟩
  · go_enter Tryz.func16, Tryz.ntmps16
    go_wp2
    go_ret2
    exact ⟨rfl, rfl⟩

theorem made_zero (n : Nat) : (madeCells #[Value.int .u64 0] n).toList = u64s (List.replicate n 0) := by
  apply List.ext_getElem
  · simp [madeCells, u64s]
  · intro j h1 h2
    simp [madeCells, u64s, Nat.mod_one]

set_option maxRecDepth 100000 in
theorem new_k (n : Nat) (hn : n ≤ 4096) (w : World) :
    Calls Tryz.prog 16 #[.int .i64 (n : Int)] w fun e w' => e = .returned (.tuple #[.pointer (some ⟨w.heap.size + 1, 0, none⟩), .int .i64 0]) ∧
      SetAt w' (w.heap.size + 1) w.heap.size ((n + 63) / 64) n (List.replicate ((n + 63) / 64) 0) ∧ Below w.heap.size w w' ∧ w'.heap.size = w.heap.size + 2 := by
  obtain ⟨i0, hi, hz0, hz1, hz2⟩ := info_parts infoWord
  obtain ⟨N, hN⟩ : ∃ N, (n + 63) / 64 = N := ⟨_, rfl⟩
  have hmk := fun w => run_make (P := Tryz.prog) w 35 65 i0 (.int .u64 0) Tryz.underlying35 hi hz0 .i64 .i64 (N : Int) (N : Int) (by omega) (by omega) (by rw [hz2]; omega) (by omega)
  rw [hz1] at hmk
  have HW := wordsFor_k n hn
  rw [hN] at HW ⊢
  go_enter Tryz.func16, Tryz.ntmps16
  go_wp2_with (go_at_call 30; refine (HW _).mono ?_; rintro e w1 ⟨rfl, rfl⟩)
  go_ret2
  refine ⟨rfl, ⟨?_, ?_, ?_, hn, ?_⟩, ?_, ?_⟩
  · rw [List.length_replicate]
    have := World.alloc_heap_new (w.alloc (.cells (madeCells #[.int .u64 0] N) 65)) (.cells #[.bool true, .int .i64 (n : Int), .slice (some ⟨w.heap.size, 0, none⟩) N N] 82)
    rw [World.size_alloc] at this
    exact this
  · have h1 := World.ownsRow_lit (base := 0) (e := 65) (size := 1) w (madeCells #[.int .u64 0] N) N (Nat.zero_le _) (by unfold maxLen; omega) (by simp [madeCells])
    rw [made_zero] at h1
    simpa using h1.alloc _
  · simp [hN]
  · intro x hx
    rw [(List.mem_replicate.1 hx).2]
    decide
  · exact ((Below.refl _ _).alloc (Nat.le_refl _) _).alloc (by simp) _
  · simp
end Go.Proofs.YtnmkggoampkekaaGreatDoor

/- Put, Drop and Has of a set. -/
namespace Go.Proofs.YtnmkggoampkekaaGreatDoor
open Go.RowKit

def putW (ws : List Nat) (i : Nat) : List Nat := ws.set (i / 64) (ws.getD (i / 64) 0 ||| 2 ^ (i % 64))
def dropW (ws : List Nat) (i : Nat) : List Nat := ws.set (i / 64) (ws.getD (i / 64) 0 &&& (18446744073709551615 - 2 ^ (i % 64)))
def hasW (ws : List Nat) (i : Nat) : Bool := (ws.getD (i / 64) 0).testBit (i % 64)
theorem pow_lt64 (i : Nat) : 2 ^ (i % 64) < 18446744073709551616 := Nat.lt_of_le_of_lt (Nat.pow_le_pow_right (by decide) (by omega : i % 64 ≤ 63)) (by decide)
theorem or_lt64 {a b : Nat} (ha : a < 18446744073709551616) (hb : b < 18446744073709551616) : a ||| b < 18446744073709551616 := Nat.or_lt_two_pow (n := 64) ha hb
theorem and_lt64 {a : Nat} (b : Nat) (ha : a < 18446744073709551616) : a &&& b < 18446744073709551616 := Nat.lt_of_le_of_lt Nat.and_le_left ha

set_option maxRecDepth 100000 in
set_option maxHeartbeats 1000000 in
theorem put_k {w : World} {sb g cap n : Nat} {ws : List Nat} (h : SetAt w sb g cap n ws) (i : Nat) (hi : i < n) :
    Calls Tryz.prog 18 #[.pointer (some ⟨sb, 0, none⟩), .int .i64 (i : Int)] w fun e w' => e = .returned (.int .i64 0) ∧ SetAt w' sb g cap n (putW ws i) ∧ w.grownBy w' (some g) := by
  have ht := takes_k h (i : Int)
  have e0 : tk n (i : Int) = 0 := if_pos (by omega)
  rw [e0] at ht
  have HT := hide ht
  have hr := h.room
  have HB := hide (bit_k i (by omega))
  obtain ⟨c0, c1, c2⟩ := h.cells
  have hk : i / 64 < ws.length := by have := h.len; omega
  have hc := h.get (i / 64) hk
  have hf := h.frozen (i / 64)
  have hx := h.wlt (i / 64) hk
  have hD : ws.getD (i / 64) 0 = ws[i / 64] := by simp [hk]
  have HS := hide (h.put (i / 64) (ws[i / 64] ||| 2 ^ (i % 64)) (or_lt64 hx (pow_lt64 i)))
  unfold putW
  rw [hD]
  have hor := u64_or_nat ws[i / 64] (2 ^ (i % 64)) hx (pow_lt64 i)
  clear hD h ht e0
  generalize hxx : ws[i / 64] = x at *
  generalize hq : i / 64 = q at *
  have hdv : ((i : Int) / 64) = (q : Int) := by omega
  have hwq : IntKind.i64.wrap (q : Int) = (q : Int) := by rw [IntKind.wrap_i64]; omega
  have b0 : (0 : Int) ≤ (q : Int) := by omega
  have b1 : (q : Int) < (ws.length : Int) := by omega
  clear hq hxx hk
  generalize 2 ^ (i % 64) = y at *
  go_enter Tryz.func18, Tryz.ntmps18
  go_wp2_with (go_at_call 33; refine HT.out.mono ?_; rintro e w1 ⟨rfl, rfl⟩)
  go_region_with (go_at_call 34; refine (HB.out _).mono ?_; rintro e w2 ⟨rfl, rfl⟩)
  all_goals
    go_wp2
    go_ret
    exact ⟨rfl, HS.out.1.drew, grown_drew HS.out.2⟩
theorem tk_out {n : Nat} {i : Int} (h : ¬ (0 ≤ i ∧ i < (n : Int))) : tk n i = 30 := if_neg h
set_option maxRecDepth 100000 in
theorem put_out {w : World} {sb g cap n : Nat} {ws : List Nat} (h : SetAt w sb g cap n ws) (i : Int) (hi : ¬ (0 ≤ i ∧ i < (n : Int))) :
    Calls Tryz.prog 18 #[.pointer (some ⟨sb, 0, none⟩), .int .i64 i] w fun e w' => e = .returned (.int .i64 30) ∧ w = w' := by
  have ht := takes_k h i
  rw [tk_out hi] at ht
  have HT := hide ht
  clear ht h hi
  go_enter Tryz.func18, Tryz.ntmps18
  go_wp2_with (go_at_call 33; refine HT.out.mono ?_; rintro e w1 ⟨rfl, rfl⟩)
  go_ret
  exact ⟨rfl, rfl⟩
set_option maxRecDepth 100000 in
theorem put_no {w : World} {v : Value} (h : NoSet w v) (i : Int) :
    Calls Tryz.prog 18 #[v, .int .i64 i] w fun e w' => e = .returned (.int .i64 1) ∧ w = w' := by
  have HT := hide (takes_no h i)
  clear h
  go_enter Tryz.func18, Tryz.ntmps18
  go_wp2_with (go_at_call 33; refine HT.out.mono ?_; rintro e w1 ⟨rfl, rfl⟩)
  go_ret
  exact ⟨rfl, rfl⟩
theorem bit_and (x k : Nat) : ((x &&& 2 ^ k : Nat) : Int) = 0 ↔ x.testBit k = false := by
  rw [nat_bit, Nat.testBit_eq_decide_div_mod_eq]
  have hp : 0 < 2 ^ k := Nat.two_pow_pos k
  generalize hy : x / 2 ^ k % 2 = y
  have : y = 0 ∨ y = 1 := by omega
  generalize 2 ^ k = z at *
  rcases this with rfl | rfl
  · simp
  · constructor
    · intro h
      omega
    · intro h
      simp at h

theorem NoSet.drewN {w : World} {v : Value} (h : NoSet w v) (m : Nat) : NoSet (w.drewN m) v := h
end Go.Proofs.YtnmkggoampkekaaGreatDoor

/- Words and lists of truths, for seats that lack the rest of layer 3: plain mathematics. -/
namespace Go.Proofs.YtnmkggoampkekaaGreatDoor

theorem tb_hi {x : Nat} (hx : x < 18446744073709551616) {i : Nat} (hi : ¬ i < 64) : x.testBit i = false :=
  Nat.testBit_lt_two_pow (Nat.lt_of_lt_of_le hx (Nat.pow_le_pow_right (n := 2) (by decide) (by omega : 64 ≤ i)))
/-- The words say what the truths say, and nothing beyond. -/
structure Rel (ws : List Nat) (bs : List Bool) : Prop where
  len : ws.length = (bs.length + 63) / 64
  fit : ∀ x ∈ ws, x < 18446744073709551616
  bit : ∀ i, i < 64 * ws.length → hasW ws i = bs.getD i false

theorem hasW_get {ws : List Nat} {k j : Nat} (hj : j < 64) : hasW ws (64 * k + j) = (ws.getD k 0).testBit j := by
  unfold hasW
  rw [show (64 * k + j) / 64 = k by omega, show (64 * k + j) % 64 = j by omega]
theorem words_ext {ws vs : List Nat} (hl : ws.length = vs.length) (h1 : ∀ x ∈ ws, x < 18446744073709551616) (h2 : ∀ x ∈ vs, x < 18446744073709551616) (h : ∀ i, i < 64 * ws.length → hasW ws i = hasW vs i) : ws = vs := by
  apply List.ext_getElem hl
  intro k a b
  apply Nat.eq_of_testBit_eq
  intro j
  by_cases hj : j < 64
  · have := h (64 * k + j) (by omega)
    rw [hasW_get hj, hasW_get hj] at this
    simpa [a, b] using this
  · rw [tb_hi (h1 _ (List.getElem_mem a)) hj, tb_hi (h2 _ (List.getElem_mem b)) hj]
theorem Rel.eq {ws vs : List Nat} {bs : List Bool} (h : Rel ws bs) (k : Rel vs bs) : ws = vs := by
  have hl : ws.length = vs.length := by rw [h.len, k.len]
  exact words_ext hl h.fit k.fit fun i hi => by rw [h.bit i hi, k.bit i (by omega)]

theorem hasW_set {ws : List Nat} {k x i : Nat} (hk : k < ws.length) : hasW (ws.set k x) i = if i / 64 = k then x.testBit (i % 64) else hasW ws i := by
  unfold hasW
  split
  · rename_i e
    rw [e]
    simp [hk]
  · rename_i e
    rw [List.getD_eq_getElem?_getD, List.getD_eq_getElem?_getD, List.getElem?_set_ne (by omega)]
theorem putW_len (ws : List Nat) (i : Nat) : (putW ws i).length = ws.length := by simp [putW]
theorem hasW_put {ws : List Nat} {k i : Nat} (hk : k / 64 < ws.length) : hasW (putW ws k) i = (hasW ws i || decide (i = k)) := by
  unfold putW
  rw [hasW_set hk]
  split
  · rename_i e
    rw [Nat.testBit_or, Nat.testBit_two_pow]
    unfold hasW
    rw [← e]
    have : decide (k % 64 = i % 64) = decide (i = k) := by
      by_cases h : i = k
      · subst h; simp
      · have : ¬ k % 64 = i % 64 := by omega
        simp [h, this]
    rw [this]
  · have : ¬ i = k := fun h => by subst h; omega
    simp [this]
theorem putW_fit {ws : List Nat} (h : ∀ x ∈ ws, x < 18446744073709551616) (i : Nat) : ∀ x ∈ putW ws i, x < 18446744073709551616 := by
  intro x hx
  rcases List.mem_or_eq_of_mem_set hx with h' | rfl
  · exact h x h'
  · refine or_lt64 ?_ (pow_lt64 i)
    by_cases hl : i / 64 < ws.length
    · simpa [hl] using h _ (List.getElem_mem hl)
    · simp [hl]
theorem getD_set (bs : List Bool) (k : Nat) (b : Bool) (i : Nat) (hk : k < bs.length) : (bs.set k b).getD i false = if i = k then b else bs.getD i false := by
  rw [List.getD_eq_getElem?_getD, List.getD_eq_getElem?_getD]
  by_cases e : i = k
  · subst e
    simp [hk]
  · rw [List.getElem?_set_ne (Ne.symm e), if_neg e]
theorem Rel.put {ws : List Nat} {bs : List Bool} (h : Rel ws bs) (k : Nat) (hk : k < bs.length) : Rel (putW ws k) (bs.set k true) := by
  have hk' : k / 64 < ws.length := by have := h.len; omega
  refine ⟨by rw [putW_len, List.length_set]; exact h.len, putW_fit h.fit k, fun i hi => ?_⟩
  rw [putW_len] at hi
  rw [hasW_put hk', h.bit i hi, getD_set _ _ _ _ hk]
  by_cases e : i = k <;> simp [e]
theorem Rel.zero (n : Nat) : Rel (List.replicate ((n + 63) / 64) 0) (List.replicate n false) := by
  refine ⟨by simp, fun x hx => by rw [(List.mem_replicate.1 hx).2]; decide, fun i _ => ?_⟩
  have e1 : (List.replicate ((n + 63) / 64) 0).getD (i / 64) 0 = 0 := by
    rw [List.getD_eq_getElem?_getD, List.getElem?_replicate]
    split <;> rfl
  have e2 : (List.replicate n false).getD i false = false := by
    rw [List.getD_eq_getElem?_getD, List.getElem?_replicate]
    split <;> rfl
  unfold hasW
  rw [e1, e2, Nat.zero_testBit]

/-- What the words say when k truths are laid. -/
structure RelTo (k : Nat) (ws : List Nat) (bs : List Bool) : Prop where
  len : ws.length = (bs.length + 63) / 64
  fit : ∀ x ∈ ws, x < 18446744073709551616
  bit : ∀ i, i < 64 * ws.length → hasW ws i = (decide (i < k) && bs.getD i false)
theorem RelTo.done {ws : List Nat} {bs : List Bool} (h : RelTo bs.length ws bs) : Rel ws bs := ⟨h.len, h.fit, fun i hi => by
  rw [h.bit i hi]
  by_cases e : i < bs.length
  · simp [e]
  · simp [e]⟩
theorem RelTo.zero (bs : List Bool) : RelTo 0 (List.replicate ((bs.length + 63) / 64) 0) bs := by
  have := Rel.zero bs.length
  refine ⟨by simp, this.fit, fun i hi => ?_⟩
  rw [this.bit i hi]
  rw [List.getD_eq_getElem?_getD, List.getElem?_replicate]
  simp
  split <;> rfl
theorem RelTo.next {ws : List Nat} {bs : List Bool} {k : Nat} (h : RelTo k ws bs) (hk : k < bs.length) : RelTo (k + 1) (if bs.getD k false then putW ws k else ws) bs := by
  have hk' : k / 64 < ws.length := by have := h.len; omega
  cases hb : bs.getD k false with
  | true =>
    rw [if_pos rfl]
    refine ⟨by rw [putW_len]; exact h.len, putW_fit h.fit k, fun i hi => ?_⟩
    rw [putW_len] at hi
    rw [hasW_put hk', h.bit i hi]
    by_cases e : i = k
    · subst e
      rw [hb]
      simp
    · have : (i < k + 1) = (i < k) := by simp; omega
      simp [e, this]
  | false =>
    rw [if_neg (by decide)]
    refine ⟨h.len, h.fit, fun i hi => ?_⟩
    rw [h.bit i hi]
    by_cases e : i = k
    · subst e
      rw [hb]
      simp
    · have : (i < k + 1) = (i < k) := by simp; omega
      simp [this]

end Go.Proofs.YtnmkggoampkekaaGreatDoor

/- slices.Clone, Words and Copy: new memory with the same words. -/
namespace Go.Proofs.YtnmkggoampkekaaGreatDoor
open Go.RowKit

theorem row_is {w : World} {base : Nat} {e : TypeId} {size : Nat} {v : Value} {n : Nat} {xs : List Value} (h : w.ownsRow base e size v n xs) (hv : v ≠ .slice none 0 0) : ∃ g cap, v = .slice (some ⟨g, 0, none⟩) n cap ∧ base ≤ g := by
  rcases h.2 with ⟨h, _⟩ | ⟨g, cap, cur, h, hb, _⟩
  · exact absurd h hv
  · exact ⟨g, cap, h, hb⟩
theorem row_cells {w : World} {base : Nat} {e : TypeId} {g n cap : Nat} {xs : List Value} (h : w.ownsRow base e 1 (.slice (some ⟨g, 0, none⟩) n cap) n xs) : ∀ j u, xs[j]? = some u → w.cell? ((⟨g, 0, none⟩ : Addr).add j) = some u :=
  fun j u hu => h.cells (g := g) rfl j u hu
theorem row_from {w : World} {b b' : Nat} {e : TypeId} {size : Nat} {v : Value} {k : Nat} {xs : List Value} (h : w.ownsRow b e size v k xs) (hb : b' ≤ b) : w.ownsRow b' e size v k xs := by
  refine ⟨h.1, ?_⟩
  rcases h.2 with hn | ⟨g, cap, cur, rfl, hbg, rest⟩
  · exact .inl hn
  · exact .inr ⟨g, cap, cur, rfl, by omega, rest⟩

set_option maxRecDepth 100000 in
set_option maxHeartbeats 1000000 in
theorem cloneW_k {w : World} {g k cap : Nat} {xs : List Value} (hr : w.ownsRow 0 65 1 (.slice (some ⟨g, 0, none⟩) k cap) k xs) (hx : ∀ u ∈ xs, u.oneCell' = true) (hk : k ≤ 1048576) :
    Calls Tryz.prog 32 #[.slice (some ⟨g, 0, none⟩) k cap] w fun e w' => ∃ g' cap', e = .returned (.slice (some ⟨g', 0, none⟩) k cap') ∧ w'.ownsRow w.heap.size 65 1 (.slice (some ⟨g', 0, none⟩) k cap') k xs ∧ Below w.heap.size w w' := by
  obtain ⟨i0, hi, hz0, hz1, hz2⟩ := info_parts infoWord
  have HR := hide hr
  have hl := hr.1
  clear hr
  have hnil := fun w => Lib.run_eql_slice_nil (P := Tryz.prog) w 35 65 (some ⟨g, 0, none⟩) k cap 0 0 Tryz.underlying35
  go_enter Tryz.func32, Tryz.ntmps32
  go_wp2_with (at_builtin; refine wpList_append_own _ rfl _ _ 35 rfl w.heap.size 65 i0 (.int .u64 0) 1 8 Tryz.underlying35 hi hz0 hz1 hz2 rfl (by decide) _ _ _ rfl (World.ownsRow_made w #[] 0 (Nat.le_refl _) (by unfold maxLen; omega) rfl) ⟨g, 0, none⟩ k cap xs rfl ?c0 ?c1 hx ?c3 ?c4 ?c5 ?_)
  case c0 => exact hl
  case c1 => exact row_cells (HR.out.alloc _)
  case c3 => unfold maxLen; omega
  case c4 => omega
  case c5 => simp
  · intro v' w1 hown hgrow hne
    have hbel : Below w.heap.size w w1 := ((Below.refl _ _).alloc (Nat.le_refl _) _).grown hgrow (by simp) (fun k hk => by simp [Value.ownBlock] at hk; omega)
    obtain ⟨g', cap', rfl, _⟩ := row_is hown hne
    have R := hide (And.intro hown hbel)
    clear hown hgrow hne hbel
    go_wp2
    go_ret
    exact ⟨g', cap', rfl, R.out.1, R.out.2⟩

theorem below_row {w w' : World} {B base : Nat} {e : TypeId} {size : Nat} {v : Value} {k : Nat} {xs : List Value} (h : w.ownsRow base e size v k xs) (hb : Below B w w') (hB : w.heap.size ≤ B) : w'.ownsRow base e size v k xs := by
  refine ⟨h.1, ?_⟩
  rcases h.2 with hn | ⟨g, cap, cur, rfl, hbg, hg, rest⟩
  · exact .inl hn
  · exact .inr ⟨g, cap, cur, rfl, hbg, (hb.block g (by have := (Array.getElem?_eq_some_iff.1 hg).1; omega)).trans hg, rest⟩

set_option maxRecDepth 100000 in
theorem words_k {w : World} {sb g cap n : Nat} {ws : List Nat} (h : SetAt w sb g cap n ws) :
    Calls Tryz.prog 17 #[.pointer (some ⟨sb, 0, none⟩)] w fun e w' => ∃ g' cap', e = .returned (.slice (some ⟨g', 0, none⟩) ws.length cap') ∧ w'.ownsRow w.heap.size 65 1 (.slice (some ⟨g', 0, none⟩) ws.length cap') ws.length (u64s ws) ∧ Below w.heap.size w w' := by
  obtain ⟨c0, c1, c2⟩ := h.cells
  have HU := hide (usable_k h)
  have HC := hide (cloneW_k h.row (u64s_one ws) (by have := h.len; have := h.room; omega))
  clear h
  go_enter Tryz.func17, Tryz.ntmps17
  go_wp2_with (first
    | (go_at_call 31; refine HU.out.mono ?_; rintro e w1 ⟨rfl, rfl⟩)
    | (go_at_call 32; refine HC.out.mono ?_; rintro e w1 ⟨g', cap', rfl, A1, A2⟩; have B1 := hide A1; have B2 := hide A2; clear A1 A2))
  go_ret
  exact ⟨g', cap', rfl, B1.out, B2.out⟩
set_option maxRecDepth 100000 in
theorem words_no {w : World} {v : Value} (h : NoSet w v) :
    Calls Tryz.prog 17 #[v] w fun e w' => e = .returned (.slice none 0 0) ∧ w = w' := by
  have HU := hide (usable_no h)
  clear h
  go_enter Tryz.func17, Tryz.ntmps17
  go_wp2_with (go_at_call 31; refine HU.out.mono ?_; rintro e w1 ⟨rfl, rfl⟩)
  go_ret
  exact ⟨rfl, rfl⟩
end Go.Proofs.YtnmkggoampkekaaGreatDoor
