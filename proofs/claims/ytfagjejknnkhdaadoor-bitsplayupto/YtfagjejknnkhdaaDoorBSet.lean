/- Sets of small numbers: what a set is in memory; what its small functions answer. -/
import Derived.Test.YtfagjejknnkhdaaDoorChecked
import Derived.WalkKit
import Derived.BigCall
import Derived.BigQuiet
import Derived.Deep.QuietTactic
import Derived.Laws.BitsAllLaws
import Derived.Laws.OwnMore
import Derived.Lib.SliceRun
import Derived.RangeFuncNested
import Derived.RangeFuncBound
import Derived.RangeFuncCalls
import Derived.RangeFuncLeaves
import Derived.Shelf.Abstract
import Derived.Shelf.RegionOpen
import Derived.OwnWalkIn
import Derived.TacticsInMore
import Derived.LoopNIn
import Derived.LoopIn
import Derived.Maps.AppendAt
import Derived.Lib.OthersKept
namespace Go.Proofs.YtfagjejknnkhdaaDoor
open Go.RowKit

/-- A fact that the walk must not use. -/
def Hid (p : Prop) : Prop := p
theorem hide {p : Prop} (h : p) : Hid p := h
theorem Hid.out {p : Prop} (h : Hid p) : p := h

theorem infoWord : (Tryd.prog.info? 56).map (fun i => (i.zero, i.size, i.bytes)) = some (some (.int .u64 0), 1, 8) := by kernel_rfl
theorem infoInt : (Tryd.prog.info? 3).map (fun i => (i.zero, i.size, i.bytes)) = some (some (.int .i64 0), 1, 8) := by kernel_rfl

def u64s (ws : List Nat) : List Value := ws.map fun (x : Nat) => Value.int .u64 (x : Int)
theorem u64s_length (ws : List Nat) : (u64s ws).length = ws.length := by simp [u64s]
theorem u64s_one (ws : List Nat) : ∀ u ∈ u64s ws, u.oneCell' = true := by
  intro u hu
  obtain ⟨_, _, rfl⟩ := List.mem_map.1 hu
  rfl
theorem u64s_get (ws : List Nat) (k : Nat) (h : k < ws.length) : (u64s ws)[k]? = some (.int .u64 (ws[k] : Int)) := by simp [u64s, h]
theorem u64s_set (ws : List Nat) (k x : Nat) : (u64s ws).set k (.int .u64 (x : Int)) = u64s (ws.set k x) := by simp [u64s, List.map_set]

/-- A set that a call made: its struct lies in block sb, its words in block g. -/
structure SetAt (w : World) (sb g cap n : Nat) (ws : List Nat) : Prop where
  st : w.heap[sb]? = some (.cells #[.bool true, .int .i64 (n : Int), .slice (some ⟨g, 0, none⟩) ws.length cap] 46 (0, 0))
  row : w.ownsRow 0 56 1 (.slice (some ⟨g, 0, none⟩) ws.length cap) ws.length (u64s ws)
  len : ws.length = (n + 63) / 64
  room : n ≤ 4096
  fit : ∀ x ∈ ws, x < 18446744073709551616

theorem SetAt.lt {w : World} {sb g cap n : Nat} {ws : List Nat} (h : SetAt w sb g cap n ws) : sb < w.heap.size := (Array.getElem?_eq_some_iff.1 h.st).1
theorem SetAt.glt {w : World} {sb g cap n : Nat} {ws : List Nat} (h : SetAt w sb g cap n ws) : g < w.heap.size := (h.row.lt g rfl).2
theorem row_block_is {w : World} {base : Nat} {e : TypeId} {size g n cap : Nat} {xs : List Value} (h : w.ownsRow base e size (.slice (some ⟨g, 0, none⟩) n cap) n xs) : ∃ cur, w.heap[g]? = some (.cells cur e (0, 0)) := by
  rcases h.2 with ⟨h, _⟩ | ⟨g', cap', cur, hv, _, hh, _⟩
  · cases h
  · simp only [Value.slice.injEq, Option.some.injEq, Addr.mk.injEq, and_true, true_and] at hv
    obtain ⟨rfl, rfl⟩ := hv
    exact ⟨cur, hh⟩
theorem SetAt.ne {w : World} {sb g cap n : Nat} {ws : List Nat} (h : SetAt w sb g cap n ws) : sb ≠ g := by
  rintro rfl
  obtain ⟨cur, hc⟩ := row_block_is h.row
  have := h.st.symm.trans hc
  simp at this
theorem SetAt.kept {w w' : World} {sb g cap n : Nat} {ws : List Nat} {r : Option Nat} (h : SetAt w sb g cap n ws) (hg : w.grownBy w' r) (h1 : r ≠ some sb) (h2 : r ≠ some g) : SetAt w' sb g cap n ws :=
  ⟨(hg.block sb h.lt (Ne.symm h1)).trans h.st, h.row.kept hg (.inr (Ne.symm h2)), h.len, h.room, h.fit⟩
theorem SetAt.below {w w' : World} {B sb g cap n : Nat} {ws : List Nat} (h : SetAt w sb g cap n ws) (hb : Below B w w') (h1 : sb < B) (h2 : g < B) : SetAt w' sb g cap n ws := by
  refine ⟨(hb.block sb h1).trans h.st, ⟨h.row.1, ?_⟩, h.len, h.room, h.fit⟩
  rcases h.row.2 with ⟨h, _⟩ | ⟨g', cap', cur, hv, hb', hh, rest⟩
  · cases h
  · have hv' := hv
    simp only [Value.slice.injEq, Option.some.injEq, Addr.mk.injEq, and_true, true_and] at hv'
    obtain ⟨rfl, rfl⟩ := hv'
    exact .inr ⟨_, _, cur, rfl, hb', (hb.block g h2).trans hh, rest⟩
theorem SetAt.alloc {w : World} {sb g cap n : Nat} {ws : List Nat} (h : SetAt w sb g cap n ws) (o : Obj) : SetAt (w.alloc o) sb g cap n ws :=
  h.kept (World.grownBy_alloc w o none) (by simp) (by simp)
theorem SetAt.cells {w : World} {sb g cap n : Nat} {ws : List Nat} (h : SetAt w sb g cap n ws) :
    w.cell? ⟨sb, 0, none⟩ = some (.bool true) ∧ w.cell? ⟨sb, 1, none⟩ = some (.int .i64 (n : Int)) ∧ w.cell? ⟨sb, 2, none⟩ = some (.slice (some ⟨g, 0, none⟩) ws.length cap) := by
  simp [World.cell?, h.st]
theorem SetAt.get {w : World} {sb g cap n : Nat} {ws : List Nat} (h : SetAt w sb g cap n ws) (k : Nat) (hk : k < ws.length) : w.cell? ⟨g, k, none⟩ = some (.int .u64 (ws[k] : Int)) := by
  rw [h.row.cellAt k (by omega), u64s_get ws k hk]
theorem SetAt.frozen {w : World} {sb g cap n : Nat} {ws : List Nat} (h : SetAt w sb g cap n ws) (k : Nat) : w.frozen? ⟨g, k, none⟩ = false := h.row.frozenAt k
theorem SetAt.wlt {w : World} {sb g cap n : Nat} {ws : List Nat} (h : SetAt w sb g cap n ws) (k : Nat) (hk : k < ws.length) : ws[k] < 18446744073709551616 := h.fit _ (List.getElem_mem hk)
/-- A word is laid. -/
theorem SetAt.put {w : World} {sb g cap n : Nat} {ws : List Nat} (h : SetAt w sb g cap n ws) (k x : Nat) (hx : x < 18446744073709551616) :
    SetAt (w.setCell ⟨g, k, none⟩ (.int .u64 (x : Int))) sb g cap n (ws.set k x) ∧ w.grownBy (w.setCell ⟨g, k, none⟩ (.int .u64 (x : Int))) (some g) := by
  obtain ⟨h1, h2⟩ := h.row.stored k (.int .u64 (x : Int))
  refine ⟨⟨?_, ?_, by rw [List.length_set]; exact h.len, h.room, ?_⟩, h2⟩
  · rw [List.length_set]
    exact (h2.block sb h.lt (by simpa using h.ne)).trans h.st
  · rw [u64s_set] at h1
    rw [List.length_set]
    exact h1
  · intro y hy
    rcases List.mem_or_eq_of_mem_set hy with h' | h'
    · exact h.fit y h'
    · rw [h']; exact hx

theorem SetAt.drew {w : World} {sb g cap n : Nat} {ws : List Nat} (h : SetAt w sb g cap n ws) : SetAt w.drew sb g cap n ws := ⟨h.st, h.row.drew, h.len, h.room, h.fit⟩
theorem SetAt.drewN {w : World} {sb g cap n : Nat} {ws : List Nat} (h : SetAt w sb g cap n ws) (m : Nat) : SetAt (w.drewN m) sb g cap n ws := ⟨h.st, h.row, h.len, h.room, h.fit⟩
theorem grown_drew {w w' : World} {r : Option Nat} (h : w.grownBy w' r) : w.grownBy w'.drew r := ⟨h.os, h.tape, h.output, h.size, h.block⟩
theorem grown_refl (w : World) (r : Option Nat) : w.grownBy w r := ⟨rfl, rfl, rfl, Nat.le_refl _, fun _ _ _ => rfl⟩
theorem grown_trans {w w' w'' : World} {r : Option Nat} (h : w.grownBy w' r) (k : w'.grownBy w'' r) : w.grownBy w'' r :=
  ⟨k.os.trans h.os, k.tape.trans h.tape, k.output.trans h.output, Nat.le_trans h.size k.size, fun j hj hne => (k.block j (Nat.lt_of_lt_of_le hj h.size) hne).trans (h.block j hj hne)⟩

/-- What is none: nil, or a zero struct. -/
def NoSet (w : World) (v : Value) : Prop := v = .pointer none ∨ ∃ b, v = .pointer (some ⟨b, 0, none⟩) ∧ w.cell? ⟨b, 0, none⟩ = some (.bool false)

theorem usable_k {w : World} {sb g cap n : Nat} {ws : List Nat} (h : SetAt w sb g cap n ws) :
    Calls Tryd.prog 36 #[.pointer (some ⟨sb, 0, none⟩)] w fun e w' => e = .returned (.bool true) ∧ w = w' := by
  obtain ⟨c0, c1, c2⟩ := h.cells
  go_enter Tryd.func36, Tryd.ntmps36
  go_wp2
  go_ret
  exact ⟨rfl, rfl⟩
theorem usable_no {w : World} {v : Value} (h : NoSet w v) :
    Calls Tryd.prog 36 #[v] w fun e w' => e = .returned (.bool false) ∧ w = w' := by
  rcases h with rfl | ⟨b, rfl, hb⟩
  · go_enter Tryd.func36, Tryd.ntmps36
    go_wp2
    go_ret
    exact ⟨rfl, rfl⟩
  · go_enter Tryd.func36, Tryd.ntmps36
    go_wp2
    go_ret
    exact ⟨rfl, rfl⟩

/-- What takes tells. -/
def tk (n : Nat) (i : Int) : Int := if 0 ≤ i ∧ i < (n : Int) then 0 else 30
theorem takes_k {w : World} {sb g cap n : Nat} {ws : List Nat} (h : SetAt w sb g cap n ws) (i : Int) :
    Calls Tryd.prog 34 #[.pointer (some ⟨sb, 0, none⟩), .int .i64 i] w fun e w' => e = .returned (.int .i64 (tk n i)) ∧ w = w' := by
  obtain ⟨c0, c1, c2⟩ := h.cells
  have HU := hide (usable_k h)
  clear h
  unfold tk
  by_cases h0 : i < 0
  · rw [if_neg (by omega)]
    go_enter Tryd.func34, Tryd.ntmps34
    go_wp2_with (go_at_call 36; refine HU.out.mono ?_; rintro e w1 ⟨rfl, rfl⟩)
    go_ret
    exact ⟨rfl, rfl⟩
  · by_cases h1 : i < (n : Int)
    · rw [if_pos (by omega)]
      go_enter Tryd.func34, Tryd.ntmps34
      go_wp2_with (go_at_call 36; refine HU.out.mono ?_; rintro e w1 ⟨rfl, rfl⟩)
      go_ret
      exact ⟨rfl, rfl⟩
    · rw [if_neg (by omega)]
      go_enter Tryd.func34, Tryd.ntmps34
      go_wp2_with (go_at_call 36; refine HU.out.mono ?_; rintro e w1 ⟨rfl, rfl⟩)
      go_ret
      exact ⟨rfl, rfl⟩
theorem takes_no {w : World} {v : Value} (h : NoSet w v) (i : Int) :
    Calls Tryd.prog 34 #[v, .int .i64 i] w fun e w' => e = .returned (.int .i64 1) ∧ w = w' := by
  have HU := hide (usable_no h)
  clear h
  go_enter Tryd.func34, Tryd.ntmps34
  go_wp2_with (go_at_call 36; refine HU.out.mono ?_; rintro e w1 ⟨rfl, rfl⟩)
  go_ret
  exact ⟨rfl, rfl⟩

theorem wordsFor_k (n : Nat) (hn : n ≤ 4096) (w : World) :
    Calls Tryd.prog 12 #[.int .i64 (n : Int)] w fun e w' => e = .returned (.int .i64 (((n + 63) / 64 : Nat) : Int)) ∧ w = w' := by
  have e1 : (((n + 63) / 64 : Nat) : Int) = ((n : Int) + 63) / 64 := by omega
  rw [e1]
  go_enter Tryd.func12, Tryd.ntmps12
  go_wp2
  go_ret
  exact ⟨by go_num, rfl⟩

theorem bit_k (i : Nat) (hi : i < 4096) (w : World) :
    Calls Tryd.prog 35 #[.int .i64 (i : Int)] w fun e w' => e = .returned (.int .u64 ((2 ^ (i % 64) : Nat) : Int)) ∧ w = w' := by
  go_enter Tryd.func35, Tryd.ntmps35
  go_wp2
  go_ret
  have hp : (2 : Nat) ^ (i % 64) ≤ 2 ^ 63 := Nat.pow_le_pow_right (by decide) (by omega)
  have e1 : IntKind.u64.wrap (2 ^ (i % 64)) = ((2 ^ (i % 64) : Nat) : Int) := by
    rw [IntKind.wrap_u64]
    have : ((2 : Int) ^ (i % 64)) = ((2 ^ (i % 64) : Nat) : Int) := by simp
    rw [this]
    generalize (2 : Nat) ^ (i % 64) = x at *
    omega
  rw [e1]
  exact ⟨rfl, rfl⟩

theorem room_k {w : World} {sb g cap n : Nat} {ws : List Nat} (h : SetAt w sb g cap n ws) :
    Calls Tryd.prog 25 #[.pointer (some ⟨sb, 0, none⟩)] w fun e w' => e = .returned (.int .i64 (n : Int)) ∧ w = w' := by
  obtain ⟨c0, c1, c2⟩ := h.cells
  have HU := hide (usable_k h)
  clear h
  go_enter Tryd.func25, Tryd.ntmps25
  go_wp2_with (go_at_call 36; refine HU.out.mono ?_; rintro e w1 ⟨rfl, rfl⟩)
  go_ret
  exact ⟨rfl, rfl⟩
theorem room_no {w : World} {v : Value} (h : NoSet w v) :
    Calls Tryd.prog 25 #[v] w fun e w' => e = .returned (.int .i64 0) ∧ w = w' := by
  have HU := hide (usable_no h)
  clear h
  go_enter Tryd.func25, Tryd.ntmps25
  go_wp2_with (go_at_call 36; refine HU.out.mono ?_; rintro e w1 ⟨rfl, rfl⟩)
  go_ret
  exact ⟨rfl, rfl⟩

theorem new_no (i : Int) (h : i < 0 ∨ 4096 < i) (w : World) :
    Calls Tryd.prog 4 #[.int .i64 i] w fun e w' => e = .returned (.tuple #[.pointer none, .int .i64 30]) ∧ w = w' := by
  rcases h with h | h
  · go_enter Tryd.func4, Tryd.ntmps4
    go_wp2
    go_ret2
    exact ⟨rfl, rfl⟩
  · go_enter Tryd.func4, Tryd.ntmps4
    go_wp2
    go_ret2
    exact ⟨rfl, rfl⟩

theorem made_zero (n : Nat) : (madeCells #[Value.int .u64 0] n).toList = u64s (List.replicate n 0) := by
  apply List.ext_getElem
  · simp [madeCells, u64s]
  · intro j h1 h2
    simp [madeCells, u64s, Nat.mod_one]

set_option maxRecDepth 100000 in
theorem new_k (n : Nat) (hn : n ≤ 4096) (w : World) :
    Calls Tryd.prog 4 #[.int .i64 (n : Int)] w fun e w' => e = .returned (.tuple #[.pointer (some ⟨w.heap.size + 1, 0, none⟩), .int .i64 0]) ∧
      SetAt w' (w.heap.size + 1) w.heap.size ((n + 63) / 64) n (List.replicate ((n + 63) / 64) 0) ∧ Below w.heap.size w w' ∧ w'.heap.size = w.heap.size + 2 := by
  obtain ⟨i0, hi, hz0, hz1, hz2⟩ := info_parts infoWord
  obtain ⟨N, hN⟩ : ∃ N, (n + 63) / 64 = N := ⟨_, rfl⟩
  have hmk := fun w => run_make (P := Tryd.prog) w 43 56 i0 (.int .u64 0) Tryd.underlying43 hi hz0 .i64 .i64 (N : Int) (N : Int) (by omega) (by omega) (by rw [hz2]; omega) (by omega)
  rw [hz1] at hmk
  have HW := wordsFor_k n hn
  rw [hN] at HW ⊢
  go_enter Tryd.func4, Tryd.ntmps4
  go_wp2_with (go_at_call 12; refine (HW _).mono ?_; rintro e w1 ⟨rfl, rfl⟩)
  go_ret2
  refine ⟨rfl, ⟨?_, ?_, ?_, hn, ?_⟩, ?_, ?_⟩
  · rw [List.length_replicate]
    have := World.alloc_heap_new (w.alloc (.cells (madeCells #[.int .u64 0] N) 56)) (.cells #[.bool true, .int .i64 (n : Int), .slice (some ⟨w.heap.size, 0, none⟩) N N] 46)
    rw [World.size_alloc] at this
    exact this
  · have h1 := World.ownsRow_lit (base := 0) (e := 56) (size := 1) w (madeCells #[.int .u64 0] N) N (Nat.zero_le _) (by unfold maxLen; omega) (by simp [madeCells])
    rw [made_zero] at h1
    simpa using h1.alloc _
  · simp [hN]
  · intro x hx
    rw [(List.mem_replicate.1 hx).2]
    decide
  · exact ((Below.refl _ _).alloc (Nat.le_refl _) _).alloc (by simp) _
  · simp
end Go.Proofs.YtfagjejknnkhdaaDoor
