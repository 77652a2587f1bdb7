/- How many arguments a function takes: by the program and by the reference. -/
import Derived.Test.YtgglommnipbagaaGreatDoorGACalls
import Derived.Test.YtgglommnipbagaaGreatDoorGSmr
import Derived.Test.YtgglommnipbagaaGreatDoorGMade
import Derived.Test.YtgglommnipbagaaGreatDoorZALet
namespace Go.Proofs.YtgglommnipbagaaGreatDoor
open Go.RowKit

/-- Both answer the same number for a name. -/
def ArBoth (nm : ByteArray) : Prop := ∃ r : Int, (∀ w, Calls Tryz.prog 36 #[.string nm] w fun e w' => e = .returned (.int .i64 r) ∧ Below w.heap.size w w') ∧ ∀ w, Calls Tryz.prog 37 #[.string nm] w fun e w' => e = .returned (.int .i64 r) ∧ Below w.heap.size w w'
theorem ar_0 : ArBoth ⟨#[115, 105, 122, 101]⟩ := by
  have hf : fndAt 0 (⟨#[115, 105, 122, 101]⟩ : ByteArray).toList = some 0 := by rw [ByteArray.toList_mk]; kernel_rfl
  refine ⟨1, fun w => arity_some ⟨#[115, 105, 122, 101]⟩ 0 ⟨#[115, 105, 122, 101]⟩ 192 0 0 (.func 127) hf (by kernel_rfl) w, fun w => ?_⟩
  clear hf
  go_enter Tryz.func37, Tryz.ntmps37
  go_wp2
  go_ret
  exact ⟨rfl, Below.refl _ _⟩
theorem ar_1 : ArBoth ⟨#[104, 101, 97, 100]⟩ := by
  have hf : fndAt 0 (⟨#[104, 101, 97, 100]⟩ : ByteArray).toList = some 1 := by rw [ByteArray.toList_mk]; kernel_rfl
  refine ⟨1, fun w => arity_some ⟨#[104, 101, 97, 100]⟩ 1 ⟨#[104, 101, 97, 100]⟩ 64 0 0 (.func 128) hf (by kernel_rfl) w, fun w => ?_⟩
  clear hf
  go_enter Tryz.func37, Tryz.ntmps37
  go_wp2
  go_ret
  exact ⟨rfl, Below.refl _ _⟩
theorem ar_2 : ArBoth ⟨#[108, 97, 115, 116]⟩ := by
  have hf : fndAt 0 (⟨#[108, 97, 115, 116]⟩ : ByteArray).toList = some 2 := by rw [ByteArray.toList_mk]; kernel_rfl
  refine ⟨1, fun w => arity_some ⟨#[108, 97, 115, 116]⟩ 2 ⟨#[108, 97, 115, 116]⟩ 64 0 0 (.func 129) hf (by kernel_rfl) w, fun w => ?_⟩
  clear hf
  go_enter Tryz.func37, Tryz.ntmps37
  go_wp2
  go_ret
  exact ⟨rfl, Below.refl _ _⟩
theorem ar_3 : ArBoth ⟨#[116, 97, 105, 108]⟩ := by
  have hf : fndAt 0 (⟨#[116, 97, 105, 108]⟩ : ByteArray).toList = some 3 := by rw [ByteArray.toList_mk]; kernel_rfl
  refine ⟨1, fun w => arity_some ⟨#[116, 97, 105, 108]⟩ 3 ⟨#[116, 97, 105, 108]⟩ 64 0 0 (.func 130) hf (by kernel_rfl) w, fun w => ?_⟩
  clear hf
  go_enter Tryz.func37, Tryz.ntmps37
  go_wp2
  go_ret
  exact ⟨rfl, Below.refl _ _⟩
theorem ar_4 : ArBoth ⟨#[97, 116]⟩ := by
  have hf : fndAt 0 (⟨#[97, 116]⟩ : ByteArray).toList = some 4 := by rw [ByteArray.toList_mk]; kernel_rfl
  refine ⟨2, fun w => arity_some ⟨#[97, 116]⟩ 4 ⟨#[97, 116]⟩ 64 4 0 (.func 131) hf (by kernel_rfl) w, fun w => ?_⟩
  clear hf
  go_enter Tryz.func37, Tryz.ntmps37
  go_wp2
  go_ret
  exact ⟨rfl, Below.refl _ _⟩
theorem ar_5 : ArBoth ⟨#[112, 117, 116]⟩ := by
  have hf : fndAt 0 (⟨#[112, 117, 116]⟩ : ByteArray).toList = some 5 := by rw [ByteArray.toList_mk]; kernel_rfl
  refine ⟨3, fun w => arity_some ⟨#[112, 117, 116]⟩ 5 ⟨#[112, 117, 116]⟩ 64 4 18446744073709551615 (.func 132) hf (by kernel_rfl) w, fun w => ?_⟩
  clear hf
  go_enter Tryz.func37, Tryz.ntmps37
  go_wp2
  go_ret
  exact ⟨rfl, Below.refl _ _⟩
theorem ar_6 : ArBoth ⟨#[112, 117, 115, 104]⟩ := by
  have hf : fndAt 0 (⟨#[112, 117, 115, 104]⟩ : ByteArray).toList = some 6 := by rw [ByteArray.toList_mk]; kernel_rfl
  refine ⟨2, fun w => arity_some ⟨#[112, 117, 115, 104]⟩ 6 ⟨#[112, 117, 115, 104]⟩ 64 18446744073709551615 0 (.func 133) hf (by kernel_rfl) w, fun w => ?_⟩
  clear hf
  go_enter Tryz.func37, Tryz.ntmps37
  go_wp2
  go_ret
  exact ⟨rfl, Below.refl _ _⟩
theorem ar_7 : ArBoth ⟨#[119, 105, 116, 104]⟩ := by
  have hf : fndAt 0 (⟨#[119, 105, 116, 104]⟩ : ByteArray).toList = some 7 := by rw [ByteArray.toList_mk]; kernel_rfl
  refine ⟨2, fun w => arity_some ⟨#[119, 105, 116, 104]⟩ 7 ⟨#[119, 105, 116, 104]⟩ 128 18446744073709551615 0 (.func 134) hf (by kernel_rfl) w, fun w => ?_⟩
  clear hf
  go_enter Tryz.func37, Tryz.ntmps37
  go_wp2
  go_ret
  exact ⟨rfl, Below.refl _ _⟩
theorem ar_8 : ArBoth ⟨#[119, 105, 116, 104, 111, 117, 116]⟩ := by
  have hf : fndAt 0 (⟨#[119, 105, 116, 104, 111, 117, 116]⟩ : ByteArray).toList = some 8 := by rw [ByteArray.toList_mk]; kernel_rfl
  refine ⟨2, fun w => arity_some ⟨#[119, 105, 116, 104, 111, 117, 116]⟩ 8 ⟨#[119, 105, 116, 104, 111, 117, 116]⟩ 128 18446744073709551615 0 (.func 135) hf (by kernel_rfl) w, fun w => ?_⟩
  clear hf
  go_enter Tryz.func37, Tryz.ntmps37
  go_wp2
  go_ret
  exact ⟨rfl, Below.refl _ _⟩
theorem ar_9 : ArBoth ⟨#[108, 105, 115, 116]⟩ := by
  have hf : fndAt 0 (⟨#[108, 105, 115, 116]⟩ : ByteArray).toList = some 9 := by rw [ByteArray.toList_mk]; kernel_rfl
  refine ⟨1, fun w => arity_some ⟨#[108, 105, 115, 116]⟩ 9 ⟨#[108, 105, 115, 116]⟩ 128 0 0 (.func 136) hf (by kernel_rfl) w, fun w => ?_⟩
  clear hf
  go_enter Tryz.func37, Tryz.ntmps37
  go_wp2
  go_ret
  exact ⟨rfl, Below.refl _ _⟩
theorem ar_10 : ArBoth ⟨#[115, 101, 116]⟩ := by
  have hf : fndAt 0 (⟨#[115, 101, 116]⟩ : ByteArray).toList = some 10 := by rw [ByteArray.toList_mk]; kernel_rfl
  refine ⟨1, fun w => arity_some ⟨#[115, 101, 116]⟩ 10 ⟨#[115, 101, 116]⟩ 64 0 0 (.func 137) hf (by kernel_rfl) w, fun w => ?_⟩
  clear hf
  go_enter Tryz.func37, Tryz.ntmps37
  go_wp2
  go_ret
  exact ⟨rfl, Below.refl _ _⟩
theorem ar_11 : ArBoth ⟨#[109, 105, 110]⟩ := by
  have hf : fndAt 0 (⟨#[109, 105, 110]⟩ : ByteArray).toList = some 11 := by rw [ByteArray.toList_mk]; kernel_rfl
  refine ⟨1, fun w => arity_some ⟨#[109, 105, 110]⟩ 11 ⟨#[109, 105, 110]⟩ 192 0 0 (.func 138) hf (by kernel_rfl) w, fun w => ?_⟩
  clear hf
  go_enter Tryz.func37, Tryz.ntmps37
  go_wp2
  go_ret
  exact ⟨rfl, Below.refl _ _⟩
theorem ar_12 : ArBoth ⟨#[109, 97, 120]⟩ := by
  have hf : fndAt 0 (⟨#[109, 97, 120]⟩ : ByteArray).toList = some 12 := by rw [ByteArray.toList_mk]; kernel_rfl
  refine ⟨1, fun w => arity_some ⟨#[109, 97, 120]⟩ 12 ⟨#[109, 97, 120]⟩ 192 0 0 (.func 139) hf (by kernel_rfl) w, fun w => ?_⟩
  clear hf
  go_enter Tryz.func37, Tryz.ntmps37
  go_wp2
  go_ret
  exact ⟨rfl, Below.refl _ _⟩
theorem ar_13 : ArBoth ⟨#[114, 97, 110, 103, 101]⟩ := by
  have hf : fndAt 0 (⟨#[114, 97, 110, 103, 101]⟩ : ByteArray).toList = some 13 := by rw [ByteArray.toList_mk]; kernel_rfl
  refine ⟨2, fun w => arity_some ⟨#[114, 97, 110, 103, 101]⟩ 13 ⟨#[114, 97, 110, 103, 101]⟩ 4 4 0 (.func 140) hf (by kernel_rfl) w, fun w => ?_⟩
  clear hf
  go_enter Tryz.func37, Tryz.ntmps37
  go_wp2
  go_ret
  exact ⟨rfl, Below.refl _ _⟩
theorem ar_14 : ArBoth ⟨#[115, 117, 98, 115, 101, 116, 115]⟩ := by
  have hf : fndAt 0 (⟨#[115, 117, 98, 115, 101, 116, 115]⟩ : ByteArray).toList = some 14 := by rw [ByteArray.toList_mk]; kernel_rfl
  refine ⟨1, fun w => arity_some ⟨#[115, 117, 98, 115, 101, 116, 115]⟩ 14 ⟨#[115, 117, 98, 115, 101, 116, 115]⟩ 128 0 0 (.func 141) hf (by kernel_rfl) w, fun w => ?_⟩
  clear hf
  go_enter Tryz.func37, Tryz.ntmps37
  go_wp2
  go_ret
  exact ⟨rfl, Below.refl _ _⟩
theorem ar_15 : ArBoth ⟨#[103, 97, 117, 115, 115]⟩ := by
  have hf : fndAt 0 (⟨#[103, 97, 117, 115, 115]⟩ : ByteArray).toList = some 15 := by rw [ByteArray.toList_mk]; kernel_rfl
  refine ⟨2, fun w => arity_some ⟨#[103, 97, 117, 115, 115]⟩ 15 ⟨#[103, 97, 117, 115, 115]⟩ 4 4 0 (.func 142) hf (by kernel_rfl) w, fun w => ?_⟩
  clear hf
  go_enter Tryz.func37, Tryz.ntmps37
  go_wp2
  go_ret
  exact ⟨rfl, Below.refl _ _⟩
theorem ar_16 : ArBoth ⟨#[114, 101]⟩ := by
  have hf : fndAt 0 (⟨#[114, 101]⟩ : ByteArray).toList = some 16 := by rw [ByteArray.toList_mk]; kernel_rfl
  refine ⟨1, fun w => arity_some ⟨#[114, 101]⟩ 16 ⟨#[114, 101]⟩ 8 0 0 (.func 143) hf (by kernel_rfl) w, fun w => ?_⟩
  clear hf
  go_enter Tryz.func37, Tryz.ntmps37
  go_wp2
  go_ret
  exact ⟨rfl, Below.refl _ _⟩
theorem ar_17 : ArBoth ⟨#[105, 109]⟩ := by
  have hf : fndAt 0 (⟨#[105, 109]⟩ : ByteArray).toList = some 17 := by rw [ByteArray.toList_mk]; kernel_rfl
  refine ⟨1, fun w => arity_some ⟨#[105, 109]⟩ 17 ⟨#[105, 109]⟩ 8 0 0 (.func 144) hf (by kernel_rfl) w, fun w => ?_⟩
  clear hf
  go_enter Tryz.func37, Tryz.ntmps37
  go_wp2
  go_ret
  exact ⟨rfl, Below.refl _ _⟩
theorem ar_18 : ArBoth ⟨#[99, 111, 110, 106]⟩ := by
  have hf : fndAt 0 (⟨#[99, 111, 110, 106]⟩ : ByteArray).toList = some 18 := by rw [ByteArray.toList_mk]; kernel_rfl
  refine ⟨1, fun w => arity_some ⟨#[99, 111, 110, 106]⟩ 18 ⟨#[99, 111, 110, 106]⟩ 8 0 0 (.func 145) hf (by kernel_rfl) w, fun w => ?_⟩
  clear hf
  go_enter Tryz.func37, Tryz.ntmps37
  go_wp2
  go_ret
  exact ⟨rfl, Below.refl _ _⟩
theorem ar_19 : ArBoth ⟨#[110, 111, 114, 109]⟩ := by
  have hf : fndAt 0 (⟨#[110, 111, 114, 109]⟩ : ByteArray).toList = some 19 := by rw [ByteArray.toList_mk]; kernel_rfl
  refine ⟨1, fun w => arity_some ⟨#[110, 111, 114, 109]⟩ 19 ⟨#[110, 111, 114, 109]⟩ 8 0 0 (.func 146) hf (by kernel_rfl) w, fun w => ?_⟩
  clear hf
  go_enter Tryz.func37, Tryz.ntmps37
  go_wp2
  go_ret
  exact ⟨rfl, Below.refl _ _⟩
theorem ar_20 : ArBoth ⟨#[116, 117, 114, 110]⟩ := by
  have hf : fndAt 0 (⟨#[116, 117, 114, 110]⟩ : ByteArray).toList = some 20 := by rw [ByteArray.toList_mk]; kernel_rfl
  refine ⟨1, fun w => arity_some ⟨#[116, 117, 114, 110]⟩ 20 ⟨#[116, 117, 114, 110]⟩ 8 0 0 (.func 147) hf (by kernel_rfl) w, fun w => ?_⟩
  clear hf
  go_enter Tryz.func37, Tryz.ntmps37
  go_wp2
  go_ret
  exact ⟨rfl, Below.refl _ _⟩
theorem name_of {nm : ByteArray} {a : Array UInt8} (h : (nm.toList == a.toList) = true) : nm = ⟨a⟩ := by
  obtain ⟨d⟩ := nm
  rw [ByteArray.toList_mk, beq_iff_eq] at h
  rw [Array.toList_inj.1 h]
theorem beq_turn {a b : List UInt8} (h : (a == b) = false) : (b == a) = false := by
  rw [beq_eq_false_iff_ne] at h ⊢
  exact fun e => h e.symm
theorem ar_none (nm : ByteArray) (h0 : (nm.toList == [115, 105, 122, 101]) = false) (h1 : (nm.toList == [104, 101, 97, 100]) = false) (h2 : (nm.toList == [108, 97, 115, 116]) = false) (h3 : (nm.toList == [116, 97, 105, 108]) = false) (h4 : (nm.toList == [97, 116]) = false) (h5 : (nm.toList == [112, 117, 116]) = false) (h6 : (nm.toList == [112, 117, 115, 104]) = false) (h7 : (nm.toList == [119, 105, 116, 104]) = false) (h8 : (nm.toList == [119, 105, 116, 104, 111, 117, 116]) = false) (h9 : (nm.toList == [108, 105, 115, 116]) = false) (h10 : (nm.toList == [115, 101, 116]) = false) (h11 : (nm.toList == [109, 105, 110]) = false) (h12 : (nm.toList == [109, 97, 120]) = false) (h13 : (nm.toList == [114, 97, 110, 103, 101]) = false) (h14 : (nm.toList == [115, 117, 98, 115, 101, 116, 115]) = false) (h15 : (nm.toList == [103, 97, 117, 115, 115]) = false) (h16 : (nm.toList == [114, 101]) = false) (h17 : (nm.toList == [105, 109]) = false) (h18 : (nm.toList == [99, 111, 110, 106]) = false) (h19 : (nm.toList == [110, 111, 114, 109]) = false) (h20 : (nm.toList == [116, 117, 114, 110]) = false) : ArBoth nm := by
  have hf : fndAt 0 nm.toList = none := by
    show fndL [[115, 105, 122, 101], [104, 101, 97, 100], [108, 97, 115, 116], [116, 97, 105, 108], [97, 116], [112, 117, 116], [112, 117, 115, 104], [119, 105, 116, 104], [119, 105, 116, 104, 111, 117, 116], [108, 105, 115, 116], [115, 101, 116], [109, 105, 110], [109, 97, 120], [114, 97, 110, 103, 101], [115, 117, 98, 115, 101, 116, 115], [103, 97, 117, 115, 115], [114, 101], [105, 109], [99, 111, 110, 106], [110, 111, 114, 109], [116, 117, 114, 110]] 0 nm.toList = none
    rw [fndL_cons, if_neg (by rw [beq_turn h0]; exact Bool.false_ne_true), fndL_cons, if_neg (by rw [beq_turn h1]; exact Bool.false_ne_true), fndL_cons, if_neg (by rw [beq_turn h2]; exact Bool.false_ne_true), fndL_cons, if_neg (by rw [beq_turn h3]; exact Bool.false_ne_true), fndL_cons, if_neg (by rw [beq_turn h4]; exact Bool.false_ne_true), fndL_cons, if_neg (by rw [beq_turn h5]; exact Bool.false_ne_true), fndL_cons, if_neg (by rw [beq_turn h6]; exact Bool.false_ne_true), fndL_cons, if_neg (by rw [beq_turn h7]; exact Bool.false_ne_true), fndL_cons, if_neg (by rw [beq_turn h8]; exact Bool.false_ne_true), fndL_cons, if_neg (by rw [beq_turn h9]; exact Bool.false_ne_true), fndL_cons, if_neg (by rw [beq_turn h10]; exact Bool.false_ne_true), fndL_cons, if_neg (by rw [beq_turn h11]; exact Bool.false_ne_true), fndL_cons, if_neg (by rw [beq_turn h12]; exact Bool.false_ne_true), fndL_cons, if_neg (by rw [beq_turn h13]; exact Bool.false_ne_true), fndL_cons, if_neg (by rw [beq_turn h14]; exact Bool.false_ne_true), fndL_cons, if_neg (by rw [beq_turn h15]; exact Bool.false_ne_true), fndL_cons, if_neg (by rw [beq_turn h16]; exact Bool.false_ne_true), fndL_cons, if_neg (by rw [beq_turn h17]; exact Bool.false_ne_true), fndL_cons, if_neg (by rw [beq_turn h18]; exact Bool.false_ne_true), fndL_cons, if_neg (by rw [beq_turn h19]; exact Bool.false_ne_true), fndL_cons, if_neg (by rw [beq_turn h20]; exact Bool.false_ne_true)]
    rfl
  refine ⟨-1, fun w => arity_none nm hf w, fun w => ?_⟩
  clear hf
  go_enter Tryz.func37, Tryz.ntmps37
  go_wp2
  go_ret
  exact ⟨rfl, Below.refl _ _⟩
theorem ar_both (nm : ByteArray) : ArBoth nm := by
  cases h0 : (nm.toList == [115, 105, 122, 101])
  rotate_left
  · rw [name_of (a := #[115, 105, 122, 101]) h0]; exact ar_0
  cases h1 : (nm.toList == [104, 101, 97, 100])
  rotate_left
  · rw [name_of (a := #[104, 101, 97, 100]) h1]; exact ar_1
  cases h2 : (nm.toList == [108, 97, 115, 116])
  rotate_left
  · rw [name_of (a := #[108, 97, 115, 116]) h2]; exact ar_2
  cases h3 : (nm.toList == [116, 97, 105, 108])
  rotate_left
  · rw [name_of (a := #[116, 97, 105, 108]) h3]; exact ar_3
  cases h4 : (nm.toList == [97, 116])
  rotate_left
  · rw [name_of (a := #[97, 116]) h4]; exact ar_4
  cases h5 : (nm.toList == [112, 117, 116])
  rotate_left
  · rw [name_of (a := #[112, 117, 116]) h5]; exact ar_5
  cases h6 : (nm.toList == [112, 117, 115, 104])
  rotate_left
  · rw [name_of (a := #[112, 117, 115, 104]) h6]; exact ar_6
  cases h7 : (nm.toList == [119, 105, 116, 104])
  rotate_left
  · rw [name_of (a := #[119, 105, 116, 104]) h7]; exact ar_7
  cases h8 : (nm.toList == [119, 105, 116, 104, 111, 117, 116])
  rotate_left
  · rw [name_of (a := #[119, 105, 116, 104, 111, 117, 116]) h8]; exact ar_8
  cases h9 : (nm.toList == [108, 105, 115, 116])
  rotate_left
  · rw [name_of (a := #[108, 105, 115, 116]) h9]; exact ar_9
  cases h10 : (nm.toList == [115, 101, 116])
  rotate_left
  · rw [name_of (a := #[115, 101, 116]) h10]; exact ar_10
  cases h11 : (nm.toList == [109, 105, 110])
  rotate_left
  · rw [name_of (a := #[109, 105, 110]) h11]; exact ar_11
  cases h12 : (nm.toList == [109, 97, 120])
  rotate_left
  · rw [name_of (a := #[109, 97, 120]) h12]; exact ar_12
  cases h13 : (nm.toList == [114, 97, 110, 103, 101])
  rotate_left
  · rw [name_of (a := #[114, 97, 110, 103, 101]) h13]; exact ar_13
  cases h14 : (nm.toList == [115, 117, 98, 115, 101, 116, 115])
  rotate_left
  · rw [name_of (a := #[115, 117, 98, 115, 101, 116, 115]) h14]; exact ar_14
  cases h15 : (nm.toList == [103, 97, 117, 115, 115])
  rotate_left
  · rw [name_of (a := #[103, 97, 117, 115, 115]) h15]; exact ar_15
  cases h16 : (nm.toList == [114, 101])
  rotate_left
  · rw [name_of (a := #[114, 101]) h16]; exact ar_16
  cases h17 : (nm.toList == [105, 109])
  rotate_left
  · rw [name_of (a := #[105, 109]) h17]; exact ar_17
  cases h18 : (nm.toList == [99, 111, 110, 106])
  rotate_left
  · rw [name_of (a := #[99, 111, 110, 106]) h18]; exact ar_18
  cases h19 : (nm.toList == [110, 111, 114, 109])
  rotate_left
  · rw [name_of (a := #[110, 111, 114, 109]) h19]; exact ar_19
  cases h20 : (nm.toList == [116, 117, 114, 110])
  rotate_left
  · rw [name_of (a := #[116, 117, 114, 110]) h20]; exact ar_20
  exact ar_none nm h0 h1 h2 h3 h4 h5 h6 h7 h8 h9 h10 h11 h12 h13 h14 h15 h16 h17 h18 h19 h20
end Go.Proofs.YtgglommnipbagaaGreatDoor

/- The names of all functions, by the program and by the reference; Field of both, in one word. -/
namespace Go.Proofs.YtgglommnipbagaaGreatDoor
open Go.RowKit

theorem infoStrA : (Tryz.prog.info? 9).map (fun i => (i.zero, i.size, i.bytes)) = some (some (.string ⟨#[]⟩), 1, 16) := by kernel_rfl
theorem strPush {w : World} {L n : Nat} {v : Value} {xs : List Value} (h : w.ownsRow L 9 1 v n xs) (hL : L ≤ w.heap.size) (hn : n + 1 ≤ 1000000000) (s : ByteArray) (ty : TypeId) :
    ∃ g cap w', (Builtin.append_ #[59, 59] ty #[v, .slice (some ⟨w.heap.size, 0, none⟩) 1 1]).run Tryz.prog (w.alloc (.cells #[.string s] 9)) = .ok (.slice (some ⟨g, 0, none⟩) (n + 1) cap) w' ∧ w'.ownsRow L 9 1 (.slice (some ⟨g, 0, none⟩) (n + 1) cap) (n + 1) (xs ++ [.string s]) ∧ Below L w w' := by
  obtain ⟨i0, hi, hz0, hz1, hz2⟩ := info_partsV infoStrA
  have bA : Below w.heap.size w (w.alloc (.cells #[.string s] 9)) := alloc_v (Below.refl _ _) _
  have e := World.alloc_heap_new w (.cells #[.string s] 9)
  have hA : (w.alloc (.cells #[.string s] 9)).ownsRow L 9 1 v n xs := h.kept (grown_of_below (r := none) bA) (by cases v.ownBlock <;> simp)
  obtain ⟨g, cap, w', hrun, A1, A2, A3, A4⟩ := run_append_lies (P := Tryz.prog) (w.alloc (.cells #[.string s] 9)) 59 ty L 9 i0 _ 1 16 Tryz.underlying59 hi hz0 hz1 hz2 rfl (by decide) v n xs hA ⟨w.heap.size, 0, none⟩ 1 1 [.string s] rfl (fun j u hj => by
      rw [Addr.add_lit, Nat.zero_add]
      exact cells_at e j u (by simpa using hj)) (fun u hu => by simp at hu; subst hu; rfl) (by omega) (by unfold maxLen; omega) (by omega) (by rw [World.size_alloc]; omega) (w.heap.size + 1) (by rw [World.size_alloc])
  exact ⟨g, cap, w', hrun, A1, (bA.mono hL).grown A2 (by rw [World.size_alloc]; omega) (fun k hk => (h.lt k hk).1)⟩
/-- The name of a function, by its place. -/
def nmAt (k : Nat) : ByteArray := ⟨⟨tabNames.getD k []⟩⟩
def rowN (k : Nat) : List Value := (List.range k).map (fun j => .string (nmAt j))
theorem rowN_succ (k : Nat) : rowN (k + 1) = rowN k ++ [.string (nmAt k)] := by simp [rowN, List.range_succ]
theorem rowN_len (k : Nat) : (rowN k).length = k := by simp [rowN]
theorem rowN_get {k j : Nat} (h : j < k) : (rowN k)[j]? = some (.string (nmAt j)) := by simp [rowN, h]
set_option maxRecDepth 100000 in
theorem idx_row (k : Nat) (hk : k < 21) : ∃ a b c f, ∀ w : World, (Instr.index 116 (.agg tabCells) (.int .i64 (k : Int))).run Tryz.prog w = .ok (.agg #[.string (nmAt k), .int .u64 a, .int .u64 b, .int .u64 c, .func f #[] #[]]) w := by
  have hcase : k = 0 ∨ k = 1 ∨ k = 2 ∨ k = 3 ∨ k = 4 ∨ k = 5 ∨ k = 6 ∨ k = 7 ∨ k = 8 ∨ k = 9 ∨ k = 10 ∨ k = 11 ∨ k = 12 ∨ k = 13 ∨ k = 14 ∨ k = 15 ∨ k = 16 ∨ k = 17 ∨ k = 18 ∨ k = 19 ∨ k = 20 := by omega
  rcases hcase with rfl | rfl | rfl | rfl | rfl | rfl | rfl | rfl | rfl | rfl | rfl | rfl | rfl | rfl | rfl | rfl | rfl | rfl | rfl | rfl | rfl
  · exact ⟨_, _, _, _, (rowIs_mk 0 [115, 105, 122, 101] 192 0 0 (.func 127) (by omega) (by kernel_rfl) (by kernel_rfl)).1⟩
  · exact ⟨_, _, _, _, (rowIs_mk 1 [104, 101, 97, 100] 64 0 0 (.func 128) (by omega) (by kernel_rfl) (by kernel_rfl)).1⟩
  · exact ⟨_, _, _, _, (rowIs_mk 2 [108, 97, 115, 116] 64 0 0 (.func 129) (by omega) (by kernel_rfl) (by kernel_rfl)).1⟩
  · exact ⟨_, _, _, _, (rowIs_mk 3 [116, 97, 105, 108] 64 0 0 (.func 130) (by omega) (by kernel_rfl) (by kernel_rfl)).1⟩
  · exact ⟨_, _, _, _, (rowIs_mk 4 [97, 116] 64 4 0 (.func 131) (by omega) (by kernel_rfl) (by kernel_rfl)).1⟩
  · exact ⟨_, _, _, _, (rowIs_mk 5 [112, 117, 116] 64 4 18446744073709551615 (.func 132) (by omega) (by kernel_rfl) (by kernel_rfl)).1⟩
  · exact ⟨_, _, _, _, (rowIs_mk 6 [112, 117, 115, 104] 64 18446744073709551615 0 (.func 133) (by omega) (by kernel_rfl) (by kernel_rfl)).1⟩
  · exact ⟨_, _, _, _, (rowIs_mk 7 [119, 105, 116, 104] 128 18446744073709551615 0 (.func 134) (by omega) (by kernel_rfl) (by kernel_rfl)).1⟩
  · exact ⟨_, _, _, _, (rowIs_mk 8 [119, 105, 116, 104, 111, 117, 116] 128 18446744073709551615 0 (.func 135) (by omega) (by kernel_rfl) (by kernel_rfl)).1⟩
  · exact ⟨_, _, _, _, (rowIs_mk 9 [108, 105, 115, 116] 128 0 0 (.func 136) (by omega) (by kernel_rfl) (by kernel_rfl)).1⟩
  · exact ⟨_, _, _, _, (rowIs_mk 10 [115, 101, 116] 64 0 0 (.func 137) (by omega) (by kernel_rfl) (by kernel_rfl)).1⟩
  · exact ⟨_, _, _, _, (rowIs_mk 11 [109, 105, 110] 192 0 0 (.func 138) (by omega) (by kernel_rfl) (by kernel_rfl)).1⟩
  · exact ⟨_, _, _, _, (rowIs_mk 12 [109, 97, 120] 192 0 0 (.func 139) (by omega) (by kernel_rfl) (by kernel_rfl)).1⟩
  · exact ⟨_, _, _, _, (rowIs_mk 13 [114, 97, 110, 103, 101] 4 4 0 (.func 140) (by omega) (by kernel_rfl) (by kernel_rfl)).1⟩
  · exact ⟨_, _, _, _, (rowIs_mk 14 [115, 117, 98, 115, 101, 116, 115] 128 0 0 (.func 141) (by omega) (by kernel_rfl) (by kernel_rfl)).1⟩
  · exact ⟨_, _, _, _, (rowIs_mk 15 [103, 97, 117, 115, 115] 4 4 0 (.func 142) (by omega) (by kernel_rfl) (by kernel_rfl)).1⟩
  · exact ⟨_, _, _, _, (rowIs_mk 16 [114, 101] 8 0 0 (.func 143) (by omega) (by kernel_rfl) (by kernel_rfl)).1⟩
  · exact ⟨_, _, _, _, (rowIs_mk 17 [105, 109] 8 0 0 (.func 144) (by omega) (by kernel_rfl) (by kernel_rfl)).1⟩
  · exact ⟨_, _, _, _, (rowIs_mk 18 [99, 111, 110, 106] 8 0 0 (.func 145) (by omega) (by kernel_rfl) (by kernel_rfl)).1⟩
  · exact ⟨_, _, _, _, (rowIs_mk 19 [110, 111, 114, 109] 8 0 0 (.func 146) (by omega) (by kernel_rfl) (by kernel_rfl)).1⟩
  · exact ⟨_, _, _, _, (rowIs_mk 20 [116, 117, 114, 110] 8 0 0 (.func 147) (by omega) (by kernel_rfl) (by kernel_rfl)).1⟩
set_option maxRecDepth 100000 in
set_option maxHeartbeats 1000000 in
theorem functions_k (w : World) : Calls Tryz.prog 34 #[] w fun e w' => ∃ g cap, e = .returned (.slice (some ⟨g, 0, none⟩) 21 cap) ∧ w'.ownsRow w.heap.size 9 1 (.slice (some ⟨g, 0, none⟩) 21 cap) 21 (rowN 21) ∧ Below w.heap.size w w' := by
  have HT := hide (table_k w)
  have HROW := hide idx_row
  generalize tabCells = tc at *
  go_enter Tryz.func34, Tryz.ntmps34
  go_wp2_with (go_at_call 90; refine HT.out.mono ?_; clear HT; rintro e w2 ⟨rfl, b2⟩; have B2 := hide b2; clear b2)
  go_loopw [1, 3, 5] (fun o _ i wr => ∃ k : Nat, k ≤ 21 ∧ i = .int .i64 k ∧ wr.ownsRow w.heap.size 9 1 o k (rowN k) ∧ (0 < k → ∃ g cap, o = .slice (some ⟨g, 0, none⟩) k cap) ∧ Below w.heap.size w wr) (fun _ _ i _ => 21 - (intOf i).toNat)
  case atStart => exact ⟨0, by omega, rfl, ⟨rfl, .inl ⟨rfl, rfl⟩⟩, fun h => by omega, B2.out⟩
  case round =>
    obtain ⟨k, hk, rfl, hO, hf, hbel⟩ := hrel
    by_cases hlt : k < 21
    · obtain ⟨a, b, c, f, hidx⟩ := HROW.out k hlt
      have bA : Below wr.heap.size wr (wr.alloc (.cells #[.string (nmAt k), .int .u64 a, .int .u64 b, .int .u64 c, .func f #[] #[]] 115)) := alloc_v (Below.refl _ _) _
      have hOA := hO.kept (grown_of_below (r := none) bA) (by cases Value.ownBlock _ <;> simp)
      obtain ⟨g, cap, w', hrun, O', b'⟩ := strPush hOA (by have := hbel.size; have := bA.size; omega) (by omega) (nmAt k) 59
      rw [← rowN_succ] at O'
      have HR := hide hrun
      have HP := hide (And.intro O' ((trans_v hbel bA).trans b'))
      have hk0 : (0 : Int) ≤ (k : Int) := by omega
      have hk1 : (k : Int) < 21 := by omega
      rw [World.size_alloc] at HR
      clear hrun O' b' hOA hO hf hbel bA
      generalize nmAt k = nm at *
      go_wp2_with (at_builtin; refine Lib.wpList_append_run _ rfl (.tmp 8) (.tmp 11) 59 59 rfl _ _ rfl rfl _ _ HR.out ?_)
      go_roundw
      case rel => exact ⟨k + 1, by omega, by go_num, HP.out.1, fun _ => ⟨_, _, rfl⟩, HP.out.2⟩
      case measure => simp [intOf]; omega
    · obtain rfl : k = 21 := by omega
      obtain ⟨g, cap, rfl⟩ := hf (by omega)
      have HO := hide hO
      clear hO hf
      go_wp2
      go_ret
      exact ⟨g, cap, rfl, HO.out, hbel⟩
set_option maxRecDepth 100000 in
theorem refFunctions_k (w : World) : Calls Tryz.prog 35 #[] w fun e w' => e = .returned (.slice (some ⟨w.heap.size, 0, none⟩) 21 21) ∧ (∃ cs, w'.heap[w.heap.size]? = some (.cells cs 9 (0, 0)) ∧ cs.toList = rowN 21) ∧ Below w.heap.size w w' := by
  go_enter Tryz.func35, Tryz.ntmps35
  go_wp2
  go_ret
  exact ⟨rfl, ⟨_, World.alloc_heap_new _ _, by kernel_rfl⟩, alloc_v (Below.refl _ _) _⟩
theorem deep_more : ∀ {n : Nat} {v : Vl}, deepLe n v → deepLe (n + 1) v
  | 0, _, h => h.elim
  | _ + 1, _, h => fun x hx => deep_more (h x hx)
theorem right_item {v x : Vl} (h : rightV v = true) (hx : x ∈ v.items) : rightV x = true := by
  rw [← right_doc] at h ⊢
  simp only [Bool.and_eq_true, decide_eq_true_eq] at h ⊢
  obtain ⟨h1, h2⟩ := ((cnt_is 16 v 0).1).1 h.1
  have hs := Vl.size_item hx
  exact ⟨((cnt_is 16 x 0).1).2 ⟨by omega, deep_more (h2 x hx)⟩, (form_parts h.2).2 x hx⟩
/-- What Field answers, and its error. -/
def fieldV (v : Vl) (i : Int) : Vl × Int := if rightV v = true then (if v.kind = 5 then (if h : 0 ≤ i ∧ i.toNat < v.items.length then (v.items[i.toNat]'h.2, 0) else (zeroV, 50)) else (zeroV, 51)) else (zeroV, 2)
theorem fieldP_k (v : Vl) (i : Int) (w : World) (n : Nat) (sl : Value) (hT : TabL w) (hok : v.ok) (hz : v.size ≤ 1000000000) (hs : ItemsAt w w.heap.size (n + 1) sl v.items) :
    Calls Tryz.prog 32 #[.agg (vcells v sl), .int .i64 i] w fun e w' => ∃ s', e = .returned (.tuple #[.agg (vcells (fieldV v i).1 s'), .int .i64 (fieldV v i).2]) ∧ ItemsS w' (fun b => w.heap.size ≤ b ∧ b < w'.heap.size) (n + 1) s' (fieldV v i).1.items ∧ ((fieldV v i).2 ≠ 0 → s' = .slice none 0 0) ∧ Below w.heap.size w w' := by
  have nil : ∀ w' : World, ItemsS w' (fun b => w.heap.size ≤ b ∧ b < w'.heap.size) (n + 1) (.slice none 0 0) zeroV.items := fun w' => ⟨none, 0, rfl, by simp, fun j h => by simp at h⟩
  unfold fieldV
  by_cases hr : rightV v = true
  · rw [if_pos hr]
    by_cases hk : v.kind = 5
    · rw [if_pos hk]
      by_cases hp : 0 ≤ i ∧ i.toNat < v.items.length
      · rw [dif_pos hp]
        refine (field_yes v i w n sl hT hok hz hk i.toNat hp.2 (by omega) hs hr).mono ?_
        rintro e w' ⟨s', rfl, h1, h2⟩
        exact ⟨s', rfl, h1.more, fun h => absurd rfl h, h2⟩
      · rw [dif_neg hp]
        refine (field_no v i w n sl hT hok hk (by omega) hs hr).mono ?_
        rintro e w' ⟨rfl, h2⟩
        exact ⟨_, rfl, nil w', fun _ => rfl, h2⟩
    · rw [if_neg hk]
      refine (field_sort v i w n sl hT hok hk hs hr).mono ?_
      rintro e w' ⟨rfl, h2⟩
      exact ⟨_, rfl, nil w', fun _ => rfl, h2⟩
  · rw [if_neg hr]
    refine (field_bad v i w n sl hT hok hs (by simpa using hr)).mono ?_
    rintro e w' ⟨rfl, h2⟩
    exact ⟨_, rfl, nil w', fun _ => rfl, h2⟩
theorem fieldR_k (v : Vl) (i : Int) (w : World) (n : Nat) (sl : Value) (hok : v.ok) (hz : v.size ≤ 1000000000) (hs : ItemsAt w w.heap.size (n + 1) sl v.items) :
    Calls Tryz.prog 33 #[.agg (vcells v sl), .int .i64 i] w fun e w' => ∃ s', e = .returned (.tuple #[.agg (vcells (fieldV v i).1 s'), .int .i64 (fieldV v i).2]) ∧ ItemsAt w' w'.heap.size (n + 1) s' (fieldV v i).1.items ∧ Below w.heap.size w w' := by
  have nil : ∀ w' : World, ItemsAt w' w'.heap.size (n + 1) (.slice none 0 0) zeroV.items := fun w' => ⟨none, 0, rfl, by simp [maxLen], fun j h => by simp at h⟩
  unfold fieldV
  by_cases hr : rightV v = true
  · rw [if_pos hr]
    by_cases hk : v.kind = 5
    · rw [if_pos hk]
      by_cases hp : 0 ≤ i ∧ i.toNat < v.items.length
      · rw [dif_pos hp]
        refine (refField_yes v i w n sl hok hz hk i.toNat hp.2 (by omega) hs hr).mono ?_
        rintro e w' ⟨s', rfl, h1, h2⟩
        exact ⟨s', rfl, h1.more, h2⟩
      · rw [dif_neg hp]
        refine (refField_no v i w n sl hok hk (by omega) hs hr).mono ?_
        rintro e w' ⟨rfl, h2⟩
        exact ⟨_, rfl, nil w', h2⟩
    · rw [if_neg hk]
      refine (refField_sort v i w n sl hok hk hs hr).mono ?_
      rintro e w' ⟨rfl, h2⟩
      exact ⟨_, rfl, nil w', h2⟩
  · rw [if_neg hr]
    refine (refField_bad v i w n sl hok hs (by simpa using hr)).mono ?_
    rintro e w' ⟨rfl, h2⟩
    exact ⟨_, rfl, nil w', h2⟩
/-- An answer that is an error, or a right value. -/
def GoodR (r : Vl × Int) : Prop := (r.2 ≠ 0 ∧ r.1 = zeroV) ∨ (r.2 = 0 ∧ rightV r.1 = true ∧ r.1.text.size ≤ 1048576)
theorem field_good (v : Vl) (i : Int) (hi : ∀ x ∈ v.items, x.text.size ≤ 1048576) : GoodR (fieldV v i) := by
  unfold fieldV
  split
  · rename_i hr
    split
    · split
      · rename_i h
        exact .inr ⟨rfl, right_item hr (List.getElem_mem h.2), hi _ (List.getElem_mem h.2)⟩
      · exact .inl ⟨by decide, rfl⟩
    · exact .inl ⟨by decide, rfl⟩
  · exact .inl ⟨by decide, rfl⟩
theorem alike5_good (r : Vl × Int) (hr : GoodR r) (w : World) (n m : Nat) (sa sb : Value) (he : r.2 ≠ 0 → sa = .slice none 0 0) (ha : ItemsAt w w.heap.size n sa r.1.items) (hb : ItemsAt w w.heap.size m sb r.1.items) :
    Calls Tryz.prog 28 #[.agg (vcells r.1 sa), .int .i64 r.2, .agg (vcells r.1 sb), .int .i64 r.2] w fun e w' => e = .returned (.bool true) ∧ Below w.heap.size w w' := by
  rcases hr with ⟨h1, h2⟩ | ⟨h1, h2, h3⟩
  · rw [he h1, h2]
    exact alike5_err r.2 h1 zeroV sb w
  · rw [h1]
    exact alike5_ok r.1 r.1 w n m sa sb h3 h3 ha hb h2 (by unfold cmpV; rw [if_pos h2, if_pos h2, ordV_self])
set_option maxRecDepth 100000 in
theorem same04_k (a : Vl) (w : World) (n m : Nat) (sa sb : Value) (ha : ItemsAt w w.heap.size n sa a.items) (hb : ItemsAt w w.heap.size m sb a.items) :
    Calls Tryz.prog 30 #[.agg (vcells a sa), .agg (vcells a sb)] w fun e w' => e = .returned (.bool true) ∧ Below w.heap.size w w' := by
  obtain ⟨W, hW⟩ : ∃ W, (w.alloc (.cells (vcells a sa) 25)).alloc (.cells (vcells a sb) 25) = W := ⟨_, rfl⟩
  have bW : Below w.heap.size w W := by rw [← hW]; exact two_below _ _ _
  have e1 : W.heap[w.heap.size]? = some (.cells (vcells a sa) 25 (0, 0)) := by rw [← hW]; exact two_first _ _ _
  have e2 : W.heap[w.heap.size + 1]? = some (.cells (vcells a sb) 25 (0, 0)) := by rw [← hW]; exact two_second _ _ _
  have x0 := cells_at e1 0 _ rfl
  have x1 := cells_at e1 1 _ rfl
  have x2 := cells_at e1 2 _ rfl
  have x3 := cells_at e1 3 _ rfl
  have x4 := cells_at e1 4 _ rfl
  have y0 := cells_at e2 0 _ rfl
  have y1 := cells_at e2 1 _ rfl
  have y2 := cells_at e2 2 _ rfl
  have y3 := cells_at e2 3 _ rfl
  have y4 := cells_at e2 4 _ rfl
  have HO := hide (refOrder_k n a a W W.heap.size m sa sb (Nat.le_refl _) ((ha.below bW).up bW.size) ((hb.below bW).up bW.size))
  rw [ordV_self] at HO
  obtain ⟨a1, c1, rfl, _⟩ := ha.len
  obtain ⟨a2, c2, rfl, _⟩ := hb.len
  clear ha hb e1 e2
  go_enter Tryz.func30, Tryz.ntmps30
  go_wp2_with (go_at_call 84; refine HO.out.mono ?_; clear HO; rintro e w2 ⟨rfl, b2⟩)
  go_ret
  exact ⟨rfl, trans_v bW b2⟩
end Go.Proofs.YtgglommnipbagaaGreatDoor
