/- Rising order, of like ones one alone: plain mathematics. -/
import Derived.Test.YtngnlofjjlkcmaaGreatDoorGTot
import Derived.Test.YtngnlofjjlkcmaaGreatDoorZVRow
namespace Go.Proofs.YtngnlofjjlkcmaaGreatDoor

def insV (x : Vl) : List Vl → List Vl
  | [] => [x]
  | y :: l => if ordV x y ≤ 0 then x :: y :: l else y :: insV x l
def srt : List Vl → List Vl
  | [] => []
  | x :: l => insV x (srt l)
theorem insV_perm (x : Vl) : ∀ l, (insV x l).Perm (x :: l)
  | [] => List.Perm.refl _
  | y :: l => by
    rw [insV]
    split
    · exact List.Perm.refl _
    · exact ((insV_perm x l).cons y).trans (List.Perm.swap x y l)
theorem srt_perm : ∀ l, (srt l).Perm l
  | [] => List.Perm.refl _
  | x :: l => (insV_perm x (srt l)).trans ((srt_perm l).cons x)
theorem ordV_le_trans {a b c : Vl} (h : ordV a b ≤ 0) (k : ordV b c ≤ 0) : ordV a c ≤ 0 := by
  by_cases e : ordV a b = 0
  · rw [ordV_zero e]; exact k
  · by_cases f : ordV b c = 0
    · rw [← ordV_zero f]; exact h
    · have := @ordV_trans a b c (by omega) (by omega)
      omega
theorem insV_pair (x : Vl) : ∀ {l : List Vl}, l.Pairwise (fun x y => ordV x y ≤ 0) → (insV x l).Pairwise (fun x y => ordV x y ≤ 0)
  | [], _ => by simp [insV]
  | y :: l, h => by
    rw [insV]
    split
    · rename_i hxy
      refine List.pairwise_cons.2 ⟨fun z hz => ?_, h⟩
      rcases List.mem_cons.1 hz with rfl | hz
      · exact hxy
      · exact ordV_le_trans hxy ((List.pairwise_cons.1 h).1 z hz)
    · rename_i hxy
      refine List.pairwise_cons.2 ⟨fun z hz => ?_, insV_pair x (List.pairwise_cons.1 h).2⟩
      rcases List.mem_cons.1 ((insV_perm x l).mem_iff.1 hz) with rfl | hz
      · rw [ordV_anti]; omega
      · exact (List.pairwise_cons.1 h).1 z hz
theorem srt_pair : ∀ l, (srt l).Pairwise (fun x y => ordV x y ≤ 0)
  | [] => by simp [srt]
  | x :: l => insV_pair x (srt_pair l)
theorem srt_only {s its : List Vl} (hp : s.Perm its) (hs : s.Pairwise (fun x y => ordV x y ≤ 0)) : s = srt its := by
  refine List.Perm.eq_of_pairwise (le := fun x y => ordV x y ≤ 0) (fun a b _ _ h k => ?_) hs (srt_pair its) (hp.trans (srt_perm its).symm)
  rw [ordV_anti] at k
  exact ordV_zero (by omega)
end Go.Proofs.YtngnlofjjlkcmaaGreatDoor
