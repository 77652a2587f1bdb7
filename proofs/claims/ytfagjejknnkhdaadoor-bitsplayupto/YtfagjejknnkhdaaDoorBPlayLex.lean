/- The order of the text is one that the great region of BitsPlay allows. -/
import Derived.Test.YtfagjejknnkhdaaDoorBPlayWalk
import Derived.BigQuiet
namespace Go.Proofs.YtfagjejknnkhdaaDoor
open Go.RowKit

/-- The operations of a region of a body. -/
def regOps (id : Nat) : Code → Option (Array Oper)
  | .region i ops _ => if i = id then some ops else none
  | .seq a b => (match regOps id a with | some x => some x | none => regOps id b)
  | .cond _ a b => (match regOps id a with | some x => some x | none => regOps id b)
  | .block _ a => regOps id a
  | .loop a => regOps id a
  | .scope a => regOps id a
  | _ => none
theorem lex_of {c : Option Code} {id : Nat} {ops : Array Oper} (h : (c.bind (regOps id)).map (Region.lexB .any) = some true) (e : c.bind (regOps id) = some ops) : Region.lexB .any ops = true := by
  rw [e] at h
  simpa using h
theorem lex22 : (Tryd.f3.body.bind (regOps 22)).map (Region.lexB .any) = some true := by kernel_rfl
end Go.Proofs.YtfagjejknnkhdaaDoor
