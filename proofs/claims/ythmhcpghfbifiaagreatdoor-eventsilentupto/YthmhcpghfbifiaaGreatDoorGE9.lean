/- Tuple, List, Set. -/
import Derived.Test.YthmhcpghfbifiaaGreatDoorZVGather
namespace Go.Proofs.YthmhcpghfbifiaaGreatDoor
open Go.RowKit

end Go.Proofs.YthmhcpghfbifiaaGreatDoor

/- distinct of no item. -/
namespace Go.Proofs.YthmhcpghfbifiaaGreatDoor
open Go.RowKit

set_option maxRecDepth 100000 in
set_option maxHeartbeats 1000000 in
theorem insNil (a : Option Addr) (c : Nat) (f : Value) (w : World) : Calls Tryz.prog 176 #[.slice a 0 c, .int .i64 0, .int .i64 0, f] w fun e w' => e = .returned (.tuple #[]) ∧ w = w' := by
  go_enter Tryz.func176, Tryz.ntmps176
  go_wp2
  go_loopw [8] (fun i wr => i = .int .i64 1 ∧ w = wr) (fun _ _ => 0)
  case atStart => exact ⟨rfl, rfl⟩
  case round =>
    obtain ⟨rfl, rfl⟩ := hrel
    go_wp2
    refine bodyPost_end (results_none rfl _ _ _) rfl ?_
    exact ⟨rfl, rfl⟩
set_option maxRecDepth 100000 in
set_option maxHeartbeats 1000000 in
theorem pdqNil (a : Option Addr) (c : Nat) (k : Int) (f : Value) (w : World) : Calls Tryz.prog 170 #[.slice a 0 c, .int .i64 0, .int .i64 0, .int .i64 k, f] w fun e w' => e = .returned (.tuple #[]) ∧ w = w' := by
  have HI := hide (fun U : World => insNil a c f U)
  go_enter Tryz.func170, Tryz.ntmps170
  go_wp2
  go_loopw [1, 2] (fun x y wr => x = .int .i64 0 ∧ y = .int .i64 0 ∧ w = wr) (fun _ _ _ => 0)
  case atStart => exact ⟨rfl, rfl, rfl⟩
  case round =>
    obtain ⟨rfl, rfl, rfl⟩ := hrel
    go_wp2_with (go_at_call 176; refine (HI.out _).mono ?_; clear HI; rintro e w2 ⟨rfl, rfl⟩)
    refine bodyPost_ret (results_none rfl _ _ _) rfl ?_
    exact ⟨rfl, rfl⟩
set_option maxRecDepth 100000 in
set_option maxHeartbeats 1000000 in
theorem sortNil (a : Option Addr) (c : Nat) (f : Value) (w : World) : Calls Tryz.prog 146 #[.slice a 0 c, f] w fun e w' => e = .returned (.tuple #[]) ∧ w = w' := by
  have HL := hide (fun U : World => Tryz.bits_Len 0 U (by decide) (by decide))
  have HP := hide (fun (k : Int) (U : World) => pdqNil a c k f U)
  go_enter Tryz.func146, Tryz.ntmps146
  go_wp2_with (first
    | (go_at_call 171; refine (HL.out _).mono ?_; clear HL; rintro e w2 ⟨rfl, rfl⟩)
    | (go_at_call 170; refine (HP.out _ _).mono ?_; clear HP; rintro e w3 ⟨rfl, rfl⟩))
  refine bodyPost_end (results_none rfl _ _ _) rfl ?_
  exact ⟨rfl, rfl⟩
set_option maxRecDepth 100000 in
set_option maxHeartbeats 1000000 in
theorem compactNil (a : Option Addr) (c : Nat) (f : Value) (w : World) : Calls Tryz.prog 147 #[.slice a 0 c, f] w fun e w' => e = .returned (.slice a 0 c) ∧ w = w' := by
  go_enter Tryz.func147, Tryz.ntmps147
  go_wp2
  go_ret
  exact ⟨rfl, rfl⟩
set_option maxRecDepth 100000 in
set_option maxHeartbeats 1000000 in
theorem cloneNil (a : Option Addr) (c : Nat) (w : World) : Calls Tryz.prog 145 #[.slice a 0 c] w fun e w' => ∃ a' c', e = .returned (.slice a' 0 c') ∧ Below w.heap.size w w' := by
  have hnil := fun w => Lib.run_eql_slice_nil (P := Tryz.prog) w 44 46 a 0 c 0 0 Tryz.underlying44
  cases a with
  | none =>
    go_enter Tryz.func145, Tryz.ntmps145
    go_wp2
    go_ret
    exact ⟨_, _, rfl, Below.refl _ _⟩
  | some ad =>
    go_enter Tryz.func145, Tryz.ntmps145
    go_wp2
    go_ret
    exact ⟨_, _, rfl, alloc_v (Below.refl _ _) _⟩
set_option maxRecDepth 100000 in
/-- Of no item none. -/
theorem distinct_nil (a : Option Addr) (c : Nat) (w : World) : Calls Tryz.prog 121 #[.slice a 0 c] w fun e w' => ∃ a' c', e = .returned (.slice a' 0 c') ∧ Below w.heap.size w w' := by
  have H1 := hide (cloneNil a c w)
  have H2 := hide (fun (a : Option Addr) (c : Nat) (f : Value) (U : World) => sortNil a c f U)
  have H3 := hide (fun (a : Option Addr) (c : Nat) (f : Value) (U : World) => compactNil a c f U)
  go_enter Tryz.func121, Tryz.ntmps121
  go_wp2_with (first
    | (go_at_call 145; refine H1.out.mono ?_; clear H1; rintro e w1 ⟨a1, c1, rfl, b1⟩)
    | (go_at_call 146; refine (H2.out _ _ _ _).mono ?_; clear H2; rintro e w2 ⟨rfl, rfl⟩)
    | (go_at_call 147; refine (H3.out _ _ _ _).mono ?_; clear H3; rintro e w3 ⟨rfl, rfl⟩))
  go_ret
  exact ⟨_, _, rfl, b1⟩
end Go.Proofs.YthmhcpghfbifiaaGreatDoor
