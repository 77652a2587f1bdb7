/- The document's Join. -/
import Derived.Test.YtfagjejknnkhdaaDoorBRefTurn
namespace Go.Proofs.YtfagjejknnkhdaaDoor
open Go.RowKit

/-- A cell that is laid as it was. -/
theorem setCell_self {w : World} {a : Addr} {v : Value} (h : w.cell? a = some v) : w.setCell a v = w := by
  have hh : (w.setCell a v).heap = w.heap := by
    apply Array.ext_getElem?
    intro i
    by_cases hi : a.block = i
    · subst hi
      unfold World.cell? at h
      split at h
      · rename_i c e f hb
        have hs : a.spot.isSome = false := by
          cases hs : a.spot.isSome with
          | false => rfl
          | true => simp [hs] at h
        simp [hs] at h
        simp only [World.setCell, Array.getElem?_modify, if_true, hb, Option.map_some, hs]
        have e2 : c.setIfInBounds a.off v = c := by
          apply Array.ext_getElem?
          intro j
          rw [Array.getElem?_setIfInBounds]
          by_cases hj : a.off = j
          · subst hj
            rw [if_pos rfl, h, if_pos (Array.getElem?_eq_some_iff.1 h).1]
          · rw [if_neg hj]
        simp [e2]
      · simp at h
    · simp [World.setCell, Array.getElem?_modify, hi]
  show ({ w with heap := (w.setCell a v).heap } : World) = w
  rw [hh]
/-- What Join makes of two truths: 1 or, 2 and, 3 without. -/
def joinO (kind : Nat) (x y : Bool) : Bool := if kind = 1 then x || y else if kind = 2 then x && y else x && !y
/-- The truths when the first k are joined. -/
def joinTo (kind : Nat) (bs cs : List Bool) (k : Nat) : List Bool := (List.range bs.length).map fun i => if i < k then joinO kind (bs.getD i false) (cs.getD i false) else bs.getD i false
def joinB (kind : Nat) (bs cs : List Bool) : List Bool := (List.range bs.length).map fun i => joinO kind (bs.getD i false) (cs.getD i false)
theorem joinTo_len (kind : Nat) (bs cs : List Bool) (k : Nat) : (joinTo kind bs cs k).length = bs.length := by simp [joinTo]
theorem joinB_len (kind : Nat) (bs cs : List Bool) : (joinB kind bs cs).length = bs.length := by simp [joinB]
theorem joinTo_zero (kind : Nat) (bs cs : List Bool) : joinTo kind bs cs 0 = bs := by
  apply List.ext_getElem
  · simp [joinTo]
  · intro i h1 h2
    simp [joinTo, h2]
theorem joinTo_get (kind : Nat) (bs cs : List Bool) (k : Nat) (h : k < bs.length) : (joinTo kind bs cs k)[k]'(by rw [joinTo_len]; exact h) = bs[k] := by simp [joinTo, h]
theorem joinTo_step (kind : Nat) (bs cs : List Bool) (k : Nat) (h : k < bs.length) (h2 : k < cs.length) : (joinTo kind bs cs k).set k (joinO kind bs[k] cs[k]) = joinTo kind bs cs (k + 1) := by
  apply List.ext_getElem
  · simp [joinTo]
  · intro i h1 h3
    rw [List.getElem_set]
    by_cases e : k = i
    · subst e
      simp [joinTo, h, h2]
    · rw [if_neg e]
      have : (i < k + 1) = (i < k) := by simp; omega
      simp [joinTo, this]
theorem joinTo_end (kind : Nat) (bs cs : List Bool) : joinTo kind bs cs bs.length = joinB kind bs cs := by
  apply List.ext_getElem
  · simp [joinTo, joinB]
  · intro i h1 h2
    have hi : i < bs.length := by simpa [joinTo] using h1
    simp [joinTo, joinB, hi]
set_option maxRecDepth 100000 in
set_option maxHeartbeats 1000000 in
theorem refJoin_no {w : World} {pb gb cap qb hb cap2 : Nat} {bs cs : List Bool} (kind : Int) (h1 : RefAt w pb gb cap bs) (h2 : RefAt w qb hb cap2 cs) (hl : bs.length ≠ cs.length) :
    Calls Tryd.prog 20 #[.pointer (some ⟨pb, 0, none⟩), .int .i64 kind, .pointer (some ⟨qb, 0, none⟩)] w fun e w' => e = .returned (.int .i64 30) ∧ ∃ m, w' = w.drewN m := by
  obtain ⟨c0, c1⟩ := h1.cells
  obtain ⟨d0, d1⟩ := h2.cells
  have hr := h1.room
  have hr2 := h2.room
  have hne : ((cs.length : Int) != (bs.length : Int)) = true := by simp; omega
  clear h1 h2 hl
  go_enter Tryd.func20, Tryd.ntmps20
  go_wp2
  go_quiet (fail)
  go_wp2
  go_ret
  exact ⟨rfl, _, rfl⟩
end Go.Proofs.YtfagjejknnkhdaaDoor
