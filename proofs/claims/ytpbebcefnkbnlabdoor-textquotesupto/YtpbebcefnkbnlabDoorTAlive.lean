/- What must come, whatever else is so: alive answers true. -/
import Derived.Test.YtpbebcefnkbnlabDoorTNames
namespace Go.Proofs.YtpbebcefnkbnlabDoor
open Go.RowKit

theorem els_a : els [97, 206, 178, 255] = [⟨0, 1, 1, 97⟩, ⟨1, 1, 2, 946⟩, ⟨3, 1, 3, -1⟩] := by kernel_rfl
theorem lines_a : lines [97, 10, 10, 98] = [(1, [97]), (2, []), (3, [98])] := by kernel_rfl
theorem words_a : wds 0 0 false [32, 32, 105, 110, 118, 32, 112, 49, 32, 35, 120] = [⟨[105, 110, 118], 2, 3⟩, ⟨[112, 49], 6, 7⟩] := by kernel_rfl
theorem dec12 : Lib.itoa (-12) = [45, 49, 50] := by
  have h1 : Lib.decDigits 12 = [49, 50] := by
    rw [Lib.decDigits, dif_neg (by decide), Lib.decDigits, dif_pos (by decide)]
    rfl
  show 45 :: Lib.decDigits 12 = _
  rw [h1]
theorem dec0 : Lib.itoa 0 = [48] := by
  show Lib.decDigits 0 = _
  rw [Lib.decDigits, dif_pos (by decide)]
  rfl
theorem wrap_a : wrapd [45, 49, 50] = -12 := by kernel_rfl
theorem qt_a : qt [97, 10, 34, 206, 178] = [34, 97, 92, 110, 92, 34, 206, 178, 34] := by kernel_rfl
theorem une_a : une 0 (ins [34, 97, 92, 110, 92, 34, 206, 178, 34]) = [97, 10, 34, 206, 178] := by kernel_rfl
theorem pad_a : padT [206, 178] 3 = [206, 178, 32, 32] := by kernel_rfl
theorem name_a : nameE [206, 187, 49] = 0 := by kernel_rfl
theorem name_b : nameE [49, 97] = 21 := by kernel_rfl
theorem width_a : (ru [97, 206, 178, 10, 99]).length = 4 := by kernel_rfl
end Go.Proofs.YtpbebcefnkbnlabDoor
