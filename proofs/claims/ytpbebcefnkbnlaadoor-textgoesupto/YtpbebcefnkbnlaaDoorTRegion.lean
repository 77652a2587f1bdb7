/- Regions that draw their order, whose operations only read and whose callees may make memory of their own: walked once, in the order of the text. -/
import Derived.Test.YtpbebcefnkbnlaaDoorTRefCells
import Derived.BigQuiet
namespace Go.Proofs.YtpbebcefnkbnlaaDoor
open Go.RowKit

/-- A world that has grown out of another, and left what was there as it was. -/
structure Wb (w : World) where
  val : World
  below : Below w.heap.size w val

theorem Wb.any (w : World) : Nonempty (Wb w) := ⟨⟨w, Below.refl _ _⟩⟩
theorem below_draw (w : World) : Below w.heap.size w { w with drawn := w.drawn + 1 } := ⟨rfl, rfl, rfl, Nat.le_refl _, fun _ _ => rfl⟩
theorem wp_region_below {P : Program} {id : Nat} {Q : Exit → Act → World → Prop} {a : Act} {w : World} {l : List Oper} (hm : P.follows .mixedOrders = true) (hB : Region.lexB .any l.toArray = true)
    (h : wpQuiet P l.toArray (fun w' => ∃ q : Wb w, w' = q.val) (fun a' => ∀ w', (∃ q : Wb w, w' = q.val) → Q .normal a' w') l a) : (Code.region id l.toArray true).wp P Q a w :=
  wp_region_quiet (C := fun w' => ∃ q : Wb w, w' = q.val) hm hB ⟨⟨_, below_draw w⟩, rfl⟩ (by simpa using h)
theorem Wb.cell {w : World} (q : Wb w) {a : Addr} {v : Value} (h : w.cell? a = some v) : q.val.cell? a = some v := keepCell h q.below
/-- A callee that makes memory of its own, met in such a world. -/
theorem Wb.calls {w : World} {P : Program} {f : FuncId} {args : Array Value} (q : Wb w) {v : Value} (h : Calls P f args q.val fun e w' => e = .returned v ∧ Below q.val.heap.size q.val w') : Calls P f args q.val fun e w'' => e = .returned v ∧ ∃ q' : Wb w, w'' = q'.val :=
  h.mono fun _ w' ⟨he, hb⟩ => ⟨he, ⟨w', q.below.trans (hb.mono q.below.size)⟩, rfl⟩
end Go.Proofs.YtpbebcefnkbnlaaDoor
