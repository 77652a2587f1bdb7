/- The texts that heads asks about, reckoned. -/
import Derived.Test.YthpkjehoogodkaaDoorZKJoin
import Derived.Test.YthpkjehoogodkaaDoorZTDecWalk
namespace Go.Proofs.YthpkjehoogodkaaDoor
open Go.RowKit

theorem sc_one : sc [120, 39, 32, 60, 61, 32, 49, 48, 32, 47, 47, 32, 121] 0 = ([(⟨1, [120, 39], 0⟩, 0), (⟨4, [60, 61], 0⟩, 3), (⟨2, [], 10⟩, 6), (Tkn.none, 13)], Option.none) := by kernel_rfl
theorem sc_two : sc [97, 32, 48, 48, 55] 0 = ([(⟨1, [97], 0⟩, 0)], some (22, 2)) := by kernel_rfl
theorem lc_two : lc [97, 32, 48, 48, 55] 2 = (1, 3) := by kernel_rfl
theorem okJ_three : okJ [⟨1, [97], 0⟩, ⟨4, [61, 61], 0⟩, ⟨3, [98], 0⟩] = true := by kernel_rfl
theorem jn_three : jn [⟨1, [97], 0⟩, ⟨4, [61, 61], 0⟩, ⟨3, [98], 0⟩] = [97, 32, 61, 61, 32, 35, 98] := by kernel_rfl
end Go.Proofs.YthpkjehoogodkaaDoor
