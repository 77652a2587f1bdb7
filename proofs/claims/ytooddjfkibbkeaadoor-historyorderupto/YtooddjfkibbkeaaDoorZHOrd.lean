/- What precedes is an interval order. -/
import Derived.Test.YtooddjfkibbkeaaDoorZHBefore
namespace Go.Proofs.YtooddjfkibbkeaaDoor
open Go.RowKit Go.Maps

theorem bef_iff (x y : Cl) : befB x y = true ↔ 0 ≤ x.res ∧ x.res < (y.inv : Int) := by unfold befB; simp
/-- The facts of the statement, of the operations of a history. -/
theorem bef_self {O : List (List UInt8)} {k : Nat} {g : Gs} (h : Good O k g) (x : Nat) (hx : x < g.calls.length) : befB g.calls[x] g.calls[x] = false := by
  rw [Bool.eq_false_iff]
  intro e
  have e := (bef_iff _ _).1 e
  have := h.plc x hx
  omega
theorem bef_anti {O : List (List UInt8)} {k : Nat} {g : Gs} (h : Good O k g) (x y : Nat) (hx : x < g.calls.length) (hy : y < g.calls.length) (e : befB g.calls[x] g.calls[y] = true) : befB g.calls[y] g.calls[x] = false := by
  rw [Bool.eq_false_iff]
  intro e2
  have e := (bef_iff _ _).1 e
  have e2 := (bef_iff _ _).1 e2
  have := h.plc x hx
  have := h.plc y hy
  omega
theorem bef_trans {O : List (List UInt8)} {k : Nat} {g : Gs} (h : Good O k g) (x y z : Nat) (hx : x < g.calls.length) (hy : y < g.calls.length) (hz : z < g.calls.length) (e : befB g.calls[x] g.calls[y] = true) (e2 : befB g.calls[y] g.calls[z] = true) : befB g.calls[x] g.calls[z] = true := by
  have e := (bef_iff _ _).1 e
  have e2 := (bef_iff _ _).1 e2
  have := h.plc y hy
  exact (bef_iff _ _).2 (by omega)
theorem bef_four {O : List (List UInt8)} {k : Nat} {g : Gs} (_h : Good O k g) (x y z u : Nat) (hx : x < g.calls.length) (hy : y < g.calls.length) (hz : z < g.calls.length) (hu : u < g.calls.length) (e : befB g.calls[x] g.calls[y] = true) (e2 : befB g.calls[z] g.calls[u] = true) (e3 : befB g.calls[x] g.calls[u] = false) : befB g.calls[z] g.calls[y] = true := by
  have e := (bef_iff _ _).1 e
  have e2 := (bef_iff _ _).1 e2
  rw [Bool.eq_false_iff] at e3
  have e3 : ¬ (0 ≤ g.calls[x].res ∧ g.calls[x].res < (g.calls[u].inv : Int)) := fun h => e3 ((bef_iff _ _).2 h)
  exact (bef_iff _ _).2 (by omega)
theorem bef_seq {O : List (List UInt8)} {k : Nat} {g : Gs} (h : Good O k g) (x y : Nat) (hx : x < g.calls.length) (hy : y < g.calls.length) (hxy : x < y) (e : g.calls[x].proc = g.calls[y].proc) : befB g.calls[x] g.calls[y] = true :=
  (bef_iff _ _).2 (h.seq x y hx hy hxy e)
end Go.Proofs.YtooddjfkibbkeaaDoor
