/- The two operations that heads asks for. -/
import Derived.Test.YtooddjfkibbkeaaDoorZHWide
namespace Go.Proofs.YtooddjfkibbkeaaDoor
open Go.RowKit Go.Maps

def oneV (n : Int) : Vl := ⟨2, n, 0, ⟨#[]⟩, []⟩
def smallL : List Evn := [⟨1, [112], [113], [101, 110, 113], oneV 1, 0, 0, 0⟩, ⟨1, [114], [113], [100, 101, 113], oneV 0, 0, 0, 0⟩, ⟨2, [112], [], [], oneV 0, 0, 0, 0⟩, ⟨2, [114], [], [], oneV 1, 0, 0, 0⟩]
theorem right_one0 : rightV (oneV 0) = true := by kernel_rfl
theorem right_one1 : rightV (oneV 1) = true := by kernel_rfl
theorem sym_p : symB (bsN [112]) = true := by
  unfold symB
  rw [ByteArray.toList_eq]
  kernel_rfl
theorem sym_r : symB (bsN [114]) = true := by
  unfold symB
  rw [ByteArray.toList_eq]
  kernel_rfl
theorem sym_enq : symB (bsN [101, 110, 113]) = true := by
  unfold symB
  rw [ByteArray.toList_eq]
  kernel_rfl
theorem sym_deq : symB (bsN [100, 101, 113]) = true := by
  unfold symB
  rw [ByteArray.toList_eq]
  kernel_rfl
theorem any_q : anyB [113] = true := by kernel_rfl
theorem small_fine : Fine smallL smallL.length := by
  intro j hj _
  have h4 : j < 4 := hj
  rcases (by omega : j = 0 ∨ j = 1 ∨ j = 2 ∨ j = 3) with rfl | rfl | rfl | rfl
  · show faultE [] ⟨1, [112], [113], [101, 110, 113], oneV 1, 0, 0, 0⟩ = 0
    have : rightE ⟨1, [112], [113], [101, 110, 113], oneV 1, 0, 0, 0⟩ = true := by unfold rightE; simp [sym_p, any_q, sym_enq, right_one1]
    unfold faultE; simp [this]
  · show faultE [[112]] ⟨1, [114], [113], [100, 101, 113], oneV 0, 0, 0, 0⟩ = 0
    have : rightE ⟨1, [114], [113], [100, 101, 113], oneV 0, 0, 0, 0⟩ = true := by unfold rightE; simp [sym_r, any_q, sym_deq, right_one0]
    unfold faultE; simp [this]
  · show faultE [[114], [112]] ⟨2, [112], [], [], oneV 0, 0, 0, 0⟩ = 0
    have : rightE ⟨2, [112], [], [], oneV 0, 0, 0, 0⟩ = true := by unfold rightE; simp [sym_p, right_one0]
    unfold faultE; simp [this]
  · show faultE [[114]] ⟨2, [114], [], [], oneV 1, 0, 0, 0⟩ = 0
    have : rightE ⟨2, [114], [], [], oneV 1, 0, 0, 0⟩ = true := by unfold rightE; simp [sym_r, right_one1]
    unfold faultE; simp [this]
theorem small_no : NoLarge smallL := by
  intro j hj
  have h4 : j < 4 := hj
  rcases (by omega : j = 0 ∨ j = 1 ∨ j = 2 ∨ j = 3) with rfl | rfl | rfl | rfl <;> rfl
def callA : Cl := ⟨0, 0, [101, 110, 113], oneV 1, 0, 2, oneV 0⟩
def callB : Cl := ⟨1, 0, [100, 101, 113], oneV 0, 1, 3, oneV 1⟩
theorem small_g : gAt smallL smallL.length = ⟨[[112], [114]], [[113]], [callA, callB], []⟩ := by rfl
theorem two_fault : faultE (opensAt (smallL.drop 2) 0) (smallL.drop 2)[0] = 70 := by
  show faultE [] ⟨2, [112], [], [], oneV 0, 0, 0, 0⟩ = 70
  have : rightE ⟨2, [112], [], [], oneV 0, 0, 0, 0⟩ = true := by unfold rightE; simp [sym_p, right_one0]
  unfold faultE; simp [this]
theorem two_refused {k : Nat} {code : Int} (h : Refused (smallL.drop 2) k code) : k = 0 ∧ code = 70 := by
  have h1 : ∀ m, 0 < m → ¬ Fine (smallL.drop 2) m := fun m hm hf => by
    have := hf 0 (by decide) hm
    rw [two_fault] at this
    cases this
  rcases h with ⟨h2 | ⟨h3, h4, _, h5⟩, h0⟩ | ⟨h2, _⟩
  · exact absurd h2.1 h0
  · rcases Nat.eq_zero_or_pos k with rfl | hk
    · exact ⟨rfl, h4.trans two_fault⟩
    · exact absurd h5 (h1 k hk)
  · exact absurd h2 (h1 _ (by decide))
theorem two_not : ¬ Fine (smallL.drop 2) (smallL.drop 2).length := fun hf => by
  have := hf 0 (by decide) (by decide)
  rw [two_fault] at this
  cases this
/-- What the two operations tell. -/
theorem small_laid (s1 s2 s3 s4 : Value) : laidM [[112], [114]] [[113]] [hvOf (callA, s1, s2), hvOf (callB, s3, s4)] = some [(⟨1, [112], [113], [101, 110, 113], oneV 1, 0, 0, 0⟩, s1), (⟨1, [114], [113], [100, 101, 113], oneV 0, 0, 0, 0⟩, s3), (⟨2, [112], [], [], oneV 0, 0, 0, 0⟩, s2), (⟨2, [114], [], [], oneV 1, 0, 0, 0⟩, s4)] := by rfl
theorem small_agree (s1 s2 s3 s4 : Value) : AgreeM [[112], [114]] [[113]] [hvOf (callA, s1, s2), hvOf (callB, s3, s4)] smallL :=
  ⟨small_fine, small_no, by rw [small_g], by rw [small_g], by rw [small_g]; rfl⟩
theorem small_wid : (wid smallL smallL.length).2 = 2 := by rfl
theorem small_open (s1 s2 s3 s4 : Value) : opnTo [hvOf (callA, s1, s2), hvOf (callB, s3, s4)] 3 2 = [1] := by rfl
theorem small_idx : idxN [[112], [114]] [114] = 1 := by rfl
end Go.Proofs.YtooddjfkibbkeaaDoor
