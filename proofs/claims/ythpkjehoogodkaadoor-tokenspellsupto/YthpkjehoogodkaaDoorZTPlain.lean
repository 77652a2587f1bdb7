/- What text.Plain answers. -/
import Derived.Test.YthpkjehoogodkaaDoorGAt
namespace Go.Proofs.YthpkjehoogodkaaDoor
open Go.RowKit
attribute [local go_sem] Oper.semAt_some

/-- The first broken rune's spot, gone to from the rune that begins at k. -/
def plR : Nat → Nat → Nat → List (Int × Nat) → Option (Nat × Nat × Nat)
  | _, _, _, [] => none
  | k, line, col, (r, n) :: t => if r = -1 then some (k, line, col) else plR (k + n) (bLine line r) (bCol col r) t
def plV (x : Option (Nat × Nat × Nat)) : Array Value := match x with
  | none => #[.int .i64 0, .int .i64 0, .int .i64 0]
  | some (k, line, col) => #[.int .i64 k, .int .i64 line, .int .i64 col]

theorem results_cell_cell {P : Program} {fn : Func} {p p2 : Tmp} {ty ty2 : TypeId} (h : fn.results = #[.cell p ty, .cell p2 ty2]) (tmps : Array Value) (w : World) (g : Nat) (t : TypeId) (cs : Array Value) (fr : Nat × Nat) (d : TypeDesc)
    (hp : tmps.getD p undef = .pointer (some ⟨g, 0, none⟩)) (hg : w.heap[g]? = some (.cells cs t fr))
    (hu : P.underlying ty = some d) (hd : (match d with | .struct _ | .array _ _ => true | _ => false) = true) (hi : (P.info? ty).map (·.size) = some cs.size)
    (a2 : Addr) (v2 : Value) (hp2 : tmps.getD p2 undef = .pointer (some a2)) (hu2 : P.underlying ty2 = some .bool) (hc2 : w.cell? a2 = some v2) :
    (results fn tmps).run P w = .ok (.tuple #[.agg cs, v2]) w := by
  have hp' : tmps[p]?.getD undef = .pointer (some ⟨g, 0, none⟩) := by simpa using hp
  have hp2' : tmps[p2]?.getD undef = .pointer (some a2) := by simpa using hp2
  have hl2 : (loadVar ty2 a2).run P w = .ok v2 w := by simp [go_sem, isAgg, run_underlying hu2, hc2]
  simp [results, h, hp', hp2', asAddr, run_loadVar_row w g t ty cs fr d hg hu hd hi, hl2]

end Go.Proofs.YthpkjehoogodkaaDoor
