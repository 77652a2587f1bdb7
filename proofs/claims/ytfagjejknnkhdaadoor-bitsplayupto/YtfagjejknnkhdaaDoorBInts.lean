/- ints answers true of rows that are the same. -/
import Derived.Test.YtfagjejknnkhdaaDoorBSet
namespace Go.Proofs.YtfagjejknnkhdaaDoor
open Go.RowKit

/-- A row of ints, cell by cell. -/
def CellsI (w : World) (a : Option Addr) (l : List Int) : Prop := ∀ j (h : j < l.length), ∃ b off, a = some ⟨b, off, none⟩ ∧ w.cell? ⟨b, off + j, none⟩ = some (.int .i64 l[j])
theorem CellsI.below {w w' : World} {a : Option Addr} {l : List Int} (h : CellsI w a l) (hb : Below w.heap.size w w') : CellsI w' a l := fun j hj => by
  obtain ⟨b, off, e, hc⟩ := h j hj
  exact ⟨b, off, e, (hb.cell (World.block_lt_of_cell? w _ hc)).trans hc⟩

set_option maxRecDepth 100000 in
set_option maxHeartbeats 1000000 in
theorem ints_yes {w : World} {a b : Option Addr} {ca cb : Nat} {l : List Int} (h1 : CellsI w a l) (h2 : CellsI w b l) (hl : l.length ≤ 1099511627776) :
    Calls Tryd.prog 27 #[.slice a l.length ca, .slice b l.length cb] w fun e w' => e = .returned (.bool true) ∧ ∃ m, w' = w.drewN m := by
  have H1 := hide h1
  have H2 := hide h2
  clear h1 h2
  have hnl : ((l.length : Int) != (l.length : Int)) = false := by simp
  go_enter Tryd.func27, Tryd.ntmps27
  go_wp2
  go_loopw [5] (fun i wr => ∃ k nd : Nat, k ≤ l.length ∧ i = .int .i64 k ∧ wr = w.drewN nd) (fun i _ => l.length - (intOf i).toNat)
  case atStart => exact ⟨0, 0, Nat.zero_le _, rfl, rfl⟩
  case round =>
    obtain ⟨k, nd, hk, rfl, rfl⟩ := hrel
    clear hnl
    by_cases hlt : k < l.length
    · obtain ⟨b1, o1, rfl, e1⟩ := H1.out k hlt
      obtain ⟨b2, o2, rfl, e2⟩ := H2.out k hlt
      have p0 : (0 : Int) ≤ (k : Int) := by omega
      have p1 : (k : Int) < (l.length : Int) := by omega
      have hb : ((l[k] : Int) != l[k]) = false := by simp
      clear H1 H2
      generalize l[k] = x at *
      go_wp2
      go_quiet (fail)
      go_wp2
      go_roundw
      case rel => exact ⟨k + 1, _, by omega, by go_num, by first | rfl | trivial⟩
      case measure => simp [intOf]; omega
    · go_wp2
      go_ret
      exact ⟨rfl, _, rfl⟩
end Go.Proofs.YtfagjejknnkhdaaDoor
