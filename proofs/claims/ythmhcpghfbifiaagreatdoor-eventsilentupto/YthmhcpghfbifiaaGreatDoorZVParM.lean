/- Texts of values: tokens, and the way down: plain mathematics. -/
import Derived.Test.YthmhcpghfbifiaaGreatDoorGSetM
import Derived.Test.YthmhcpghfbifiaaGreatDoorGE6
import Derived.Test.YthmhcpghfbifiaaGreatDoorGToken
import Derived.Test.YthmhcpghfbifiaaGreatDoorGFld
import Derived.Test.YthmhcpghfbifiaaGreatDoorGE2
namespace Go.Proofs.YthmhcpghfbifiaaGreatDoor
open Go.RowKit

/-- Items up to the closing mark, behind those that there are; g reads one. -/
def moreM (s : List UInt8) (g : Tk → Nat → Except (Int × Nat) (Vl × Tk × Nat)) (c : Int) : Nat → List Vl → Tk → Nat → Except (Int × Nat) (List Vl × Tk × Nat)
  | 0, _, t, _ => .error (42, t.off)
  | n + 1, its, t, q => match g t q with
    | .error e => .error e
    | .ok (v, t', q') => if t'.kind = c then .ok (its ++ [v], stepM s t', q') else if t'.kind = 44 then moreM s g c n (its ++ [v]) (stepM s t') q' else .error (41, t'.off)
def itemsM (s : List UInt8) (g : Tk → Nat → Except (Int × Nat) (Vl × Tk × Nat)) (c : Int) (t : Tk) (q : Nat) : Except (Int × Nat) (List Vl × Tk × Nat) :=
  if t.kind = c then .ok ([], stepM s t, q) else moreM s g c (4097 - q) [] t q
def tupleM (s : List UInt8) (g : Tk → Nat → Except (Int × Nat) (Vl × Tk × Nat)) (t : Tk) (q : Nat) : Except (Int × Nat) (List Vl × Tk × Nat) :=
  if t.kind = 41 then .ok ([], stepM s t, q) else match g t q with
    | .error e => .error e
    | .ok (v, t', q') => if t'.kind = 44 then (if (stepM s t').kind = 41 then .ok ([v], stepM s (stepM s t'), q') else moreM s g 41 (4097 - q') [v] (stepM s t') q') else .error (41, t'.off)
def nameM (t : Tk) : Except (Int × Nat) Vl :=
  if t.text.toList = [116, 114, 117, 101] then .ok ⟨1, 1, 0, ⟨#[]⟩, []⟩ else if t.text.toList = [102, 97, 108, 115, 101] then .ok ⟨1, 0, 0, ⟨#[]⟩, []⟩
  else if symB t.text then .ok ⟨4, 0, 0, t.text, []⟩ else .error (21, t.off)
def gaussM (t : Tk) : Except (Int × Nat) Vl :=
  let l := t.text.data.toList
  let n := numSz l
  let a := l.take n
  let b := (l.take (l.length - 1)).drop (n + 1)
  if numE a ≠ 0 then .error (22, t.off) else if numE b ≠ 0 then .error (22, t.off)
  else if l[n]? = some 45 then (if numV b = 0 then .error (22, t.off) else if gaussB (numV a) (wrap64 (-(numV b))) then .ok ⟨3, numV a, wrap64 (-(numV b)), ⟨#[]⟩, []⟩ else .error (42, t.off))
  else if gaussB (numV a) (numV b) then .ok ⟨3, numV a, numV b, ⟨#[]⟩, []⟩ else .error (42, t.off)
/-- A value that begins with the token t, with so many parts begun; n: how many levels there are still. -/
def valM (s : List UInt8) : Nat → Tk → Nat → Except (Int × Nat) (Vl × Tk × Nat)
  | 0, t, _ => if begins t.kind then .error (42, t.off) else .error (41, t.off)
  | n + 1, t, q => if begins t.kind then (if 4096 < q + 1 then .error (42, t.off) else
      if t.kind = 40 then (match tupleM s (valM s n) (stepM s t) (q + 1) with | .error e => .error e | .ok (l, r) => .ok (⟨5, 0, 0, ⟨#[]⟩, l⟩, r))
      else if t.kind = 91 then (match itemsM s (valM s n) 93 (stepM s t) (q + 1) with | .error e => .error e | .ok (l, r) => .ok (⟨6, 0, 0, ⟨#[]⟩, l⟩, r))
      else if t.kind = 123 then (match itemsM s (valM s n) 125 (stepM s t) (q + 1) with | .error e => .error e | .ok (l, r) => .ok (⟨7, 0, 0, ⟨#[]⟩, setV l⟩, r))
      else if t.kind = 97 then (match nameM t with | .error e => .error e | .ok v => .ok (v, stepM s t, q + 1))
      else if t.kind = 105 then (match gaussM t with | .error e => .error e | .ok v => .ok (v, stepM s t, q + 1))
      else if numE t.text.data.toList ≠ 0 then .error (22, t.off) else .ok (⟨2, numV t.text.data.toList, 0, ⟨#[]⟩, []⟩, stepM s t, q + 1))
    else .error (41, t.off)
/-- A text as a value. -/
def parM (s : List UInt8) : Except (Int × Nat) Vl := match valM s 16 (cutM s 0) 0 with
  | .error e => .error e
  | .ok (v, t, _) => if t.kind = -1 then .ok v else .error (41, t.off)
end Go.Proofs.YthmhcpghfbifiaaGreatDoor
