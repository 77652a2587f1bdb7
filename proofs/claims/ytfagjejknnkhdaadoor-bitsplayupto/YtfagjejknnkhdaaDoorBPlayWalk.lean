/- BitsPlay: two sets, and every script of calls. -/
import Derived.Test.YtfagjejknnkhdaaDoorBDoesOr
import Derived.Test.YtfagjejknnkhdaaDoorBDoesAnd
import Derived.Test.YtfagjejknnkhdaaDoorBDoesWithout
import Derived.Test.YtfagjejknnkhdaaDoorBDoesMore
import Derived.Test.YtfagjejknnkhdaaDoorBDoesNone
import Derived.Test.YtfagjejknnkhdaaDoorBDoesWords
import Derived.Test.YtfagjejknnkhdaaDoorBSame
import Derived.Test.YtfagjejknnkhdaaDoorBRefNew
import Derived.Test.YtfagjejknnkhdaaDoorBTellsWalk
import Derived.Test.YtfagjejknnkhdaaDoorBCalls
namespace Go.Proofs.YtfagjejknnkhdaaDoor
open Go.RowKit

theorem does_any {L : Nat} {W : World} {sr tr : Nat} {s : Nat → Side} (h : Two L W sr tr s) (hL : L ≤ W.heap.size) (k o : Nat) (hk : k < 2) (ho : o < 2) (kind on x : Int) (ot : Bool) :
    Calls Tryd.prog 7 #[.slice (some ⟨sr, 0, none⟩) 2 2, .slice (some ⟨tr, 0, none⟩) 2 2, .agg #[.int .i64 kind, .int .i64 on, .int .i64 x, .bool ot], .int .i64 (k : Int), .int .i64 (o : Int)] W fun e W' => e = .returned (.bool true) ∧
      ∃ s', Two L W' sr tr s' ∧ (∀ j, (s' j).n = (s j).n) ∧ Below L W W' ∧ KeepC W W' := by
  by_cases hkd : kind < 1 ∨ 8 < kind
  · exact does_other h hL k o kind on x ot hkd
  · have : kind = 1 ∨ kind = 2 ∨ kind = 3 ∨ kind = 4 ∨ kind = 5 ∨ kind = 6 ∨ kind = 7 ∨ kind = 8 := by omega
    rcases this with rfl | rfl | rfl | rfl | rfl | rfl | rfl | rfl
    · exact does_put h hL k o hk on x ot
    · exact does_drop h hL k o hk on x ot
    · exact does_or h hL k o hk ho on x ot
    · exact does_and h hL k o hk ho on x ot
    · exact does_without h hL k o hk ho on x ot
    · exact does_copy h hL k o hk on x ot
    · exact does_words h hL k o hk on x ot
    · exact does_none h hL k o hk on x ot
/-- Within of both, whatever the rooms. -/
def winB (a b : Side) : Bool := decide (a.n = b.n) && inB a.ws b.ws
theorem within_any {W : World} {a b : Side} (h1 : a.At W) (h2 : b.At W) :
    Calls Tryd.prog 9 #[.pointer (some ⟨a.sb, 0, none⟩), .pointer (some ⟨b.sb, 0, none⟩)] W fun e w' => e = .returned (.bool (winB a b)) ∧ ∃ m, w' = W.drewN m := by
  unfold winB
  by_cases hn : a.n = b.n
  · have h2' := h2.set
    rw [← hn] at h2'
    rw [decide_eq_true hn, Bool.true_and]
    exact within_k h1.set h2'
  · rw [decide_eq_false hn, Bool.false_and]
    exact within_r h1.set h2.set hn
theorem refWithin_any {W : World} {a b : Side} (h1 : a.At W) (h2 : b.At W) :
    Calls Tryd.prog 10 #[.pointer (some ⟨a.pb, 0, none⟩), .pointer (some ⟨b.pb, 0, none⟩)] W fun e w' => e = .returned (.bool (winB a b)) ∧ ∃ m, w' = W.drewN m := by
  have e : winB a b = withinB a.bs b.bs := by
    unfold winB
    by_cases hn : a.n = b.n
    · rw [decide_eq_true hn, Bool.true_and, withinB_inB h1.rel h2.rel (by rw [h1.len, h2.len, hn])]
    · rw [decide_eq_false hn, Bool.false_and]
      unfold withinB
      rw [decide_eq_false (by rw [h1.len, h2.len]; exact hn), Bool.false_and]
  rw [e]
  exact refWithin_k h1.ref h2.ref
theorem same_any {W : World} {a b : Side} (h1 : a.At W) (h2 : b.At W) :
    Calls Tryd.prog 11 #[.pointer (some ⟨a.sb, 0, none⟩), .pointer (some ⟨b.sb, 0, none⟩)] W fun e w' => e = .returned (.bool (winB a b && winB b a)) ∧ ∃ m, w' = W.drewN m := by
  by_cases hn : a.n = b.n
  · have h2' := h2.set
    rw [← hn] at h2'
    have e : (winB a b && winB b a) = decide (a.ws = b.ws) := by
      rw [← same_within h1.rel h2.rel (by rw [h1.len, h2.len, hn]), withinB_inB h1.rel h2.rel (by rw [h1.len, h2.len, hn]), withinB_inB h2.rel h1.rel (by rw [h1.len, h2.len, hn])]
      unfold winB
      rw [decide_eq_true hn, decide_eq_true hn.symm, Bool.true_and, Bool.true_and]
    rw [e]
    exact same_k h1.set h2'
  · have e : (winB a b && winB b a) = false := by unfold winB; rw [decide_eq_false hn, Bool.false_and, Bool.false_and]
    rw [e]
    exact same_r h1.set h2.set hn
/-- tells of either pair. -/
theorem tells_two {L : Nat} {W : World} {sr tr : Nat} {s : Nat → Side} (h : Two L W sr tr s) (j : Nat) (hj : j < 2) (i : Int) (ht : Tab W) (hgt : 0 < L) :
    Calls Tryd.prog 8 #[.pointer (some ⟨(s j).sb, 0, none⟩), .pointer (some ⟨(s j).pb, 0, none⟩), .int .i64 i] W fun e w' => e = .returned (.bool true) ∧ Two L w' sr tr s ∧ W.grownBy w' (some (s j).g) := by
  have hA := h.each j hj
  refine (tells_k hA.set hA.ref hA.rel hA.len i ht (by have := (h.lo j hj).1; omega)).mono ?_
  rintro e w' ⟨rfl, s1, g1⟩
  refine ⟨rfl, ?_, g1⟩
  have a1 := RefAt.apart hA.set hA.ref
  have t := Two.turned h j hj g1 s1 (W2 := w') (grown_refl _ _) (hA.ref.kept g1 (by simpa using Ne.symm a1.1) (by simpa using Ne.symm a1.2.1)) hA.rel hA.len
  have e : upd s j { (s j) with ws := (s j).ws, bs := (s j).bs } = s := by
    funext i
    unfold upd
    split
    · rename_i e; rw [e]
    · rfl
  rw [e] at t
  exact t
end Go.Proofs.YtfagjejknnkhdaaDoor
