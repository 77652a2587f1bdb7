/- Several sets of one room, each with words of its own. -/
import Derived.Test.YtfagjejknnkhdaaDoorBJoin
namespace Go.Proofs.YtfagjejknnkhdaaDoor
open Go.RowKit

/-- One set: the block of its struct, that of its words, their room in memory, and the words. -/
abbrev One := Nat × Nat × Nat × List Nat
structure Lot (n : Nat) (W : World) (l : List One) : Prop where
  each : ∀ q ∈ l, SetAt W q.1 q.2.1 q.2.2.1 n q.2.2.2
  apart : (l.map fun q => q.2.1).Nodup

theorem Lot.get {n : Nat} {W : World} {l : List One} (h : Lot n W l) (i : Nat) {sb g cap : Nat} {ws : List Nat} (hi : l[i]? = some (sb, g, cap, ws)) : SetAt W sb g cap n ws :=
  h.each _ (List.mem_of_getElem? hi)
theorem Lot.below {n : Nat} {W W' : World} {l : List One} (h : Lot n W l) (hb : Below W.heap.size W W') : Lot n W' l :=
  ⟨fun q hq => (h.each q hq).below hb (h.each q hq).lt (h.each q hq).glt, h.apart⟩
theorem Lot.drewN {n : Nat} {W : World} {l : List One} (h : Lot n W l) (m : Nat) : Lot n (W.drewN m) l := ⟨fun q hq => (h.each q hq).drewN m, h.apart⟩
theorem Lot.add {n : Nat} {W W' : World} {l : List One} (h : Lot n W l) (hb : Below W.heap.size W W') {sb g cap : Nat} {ws : List Nat} (hs : SetAt W' sb g cap n ws) (hg : W.heap.size ≤ g) : Lot n W' (l ++ [(sb, g, cap, ws)]) := by
  refine ⟨fun q hq => ?_, ?_⟩
  · rcases List.mem_append.1 hq with hq | hq
    · exact (h.below hb).each q hq
    · rw [List.mem_singleton.1 hq]
      exact hs
  · rw [List.map_append, List.nodup_append]
    refine ⟨h.apart, by simp, ?_⟩
    intro a ha b hb' e
    obtain ⟨q, hq, rfl⟩ := List.mem_map.1 ha
    have := (h.each q hq).glt
    simp at hb'
    omega
theorem Lot.turn {n : Nat} {W W' : World} {l : List One} (h : Lot n W l) (i : Nat) {sb g cap : Nat} {ws ws' : List Nat} (hi : l[i]? = some (sb, g, cap, ws)) (hg : W.grownBy W' (some g)) (hs : SetAt W' sb g cap n ws') : Lot n W' (l.set i (sb, g, cap, ws')) := by
  have hi' := h.get i hi
  obtain ⟨hil, hie⟩ := List.getElem?_eq_some_iff.1 hi
  refine ⟨fun q hq => ?_, ?_⟩
  · obtain ⟨j, hj, rfl⟩ := List.mem_iff_getElem.1 hq
    rw [List.length_set] at hj
    rw [List.getElem_set]
    by_cases e : i = j
    · rw [if_pos e]
      exact hs
    · rw [if_neg e]
      have hj' := h.each _ (List.getElem_mem hj)
      refine hj'.kept hg (fun e' => hi'.apart hj' ?_) fun e' => ?_
      · exact (Option.some.inj e').symm
      · have h2 := (List.pairwise_iff_getElem.1 h.apart)
        have e2 : (l[j]).2.1 = (l[i]).2.1 := by rw [hie]; exact (Option.some.inj e').symm
        rcases Nat.lt_or_gt_of_ne e with h' | h'
        · exact h2 i j (by simpa using hil) (by simpa using hj) h' (by simpa using e2.symm)
        · exact h2 j i (by simpa using hj) (by simpa using hil) h' (by simpa using e2)
  · have : (l.set i (sb, g, cap, ws')).map (fun q => q.2.1) = l.map fun q => q.2.1 := by
      rw [List.map_set]
      apply List.ext_getElem
      · simp
      · intro j h1 h2
        rw [List.getElem_set]
        split
        · rename_i e
          subst e
          rw [List.getElem_map, hie]
        · rfl
    rw [this]
    exact h.apart
end Go.Proofs.YtfagjejknnkhdaaDoor
