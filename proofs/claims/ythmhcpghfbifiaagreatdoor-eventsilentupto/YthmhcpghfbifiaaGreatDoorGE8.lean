/- The decoder of events: sure, and how it lies. -/
import Derived.Test.YthmhcpghfbifiaaGreatDoorGE2
import Derived.Test.YthmhcpghfbifiaaGreatDoorGVDcA
import Derived.Test.YthmhcpghfbifiaaGreatDoorGHBase
namespace Go.Proofs.YthmhcpghfbifiaaGreatDoor
open Go.RowKit

/-- The panic by which the decoder of events gives up. -/
abbrev gaveUp6 : Ending := .panicked [{ v := .iface 24 (.int .i64 61), recovered := false }]
theorem sure8_6 (x : Int) (w : World) : Calls Tryz.prog 61 #[.int .u8 x, .int .i64 0] w fun e w' => e = .returned (.int .u8 x) ∧ w = w' := by
  go_enter Tryz.func61, Tryz.ntmps61
  go_wp2
  go_ret
  exact ⟨rfl, rfl⟩
theorem sureU_6 (x : Int) (w : World) : Calls Tryz.prog 37 #[.int .u64 x, .int .i64 0] w fun e w' => e = .returned (.int .u64 x) ∧ w = w' := by
  go_enter Tryz.func37, Tryz.ntmps37
  go_wp2
  go_ret
  exact ⟨rfl, rfl⟩
theorem sureS_6 (x : ByteArray) (w : World) : Calls Tryz.prog 63 #[.string x, .int .i64 0] w fun e w' => e = .returned (.string x) ∧ w = w' := by
  go_enter Tryz.func63, Tryz.ntmps63
  go_wp2
  go_ret
  exact ⟨rfl, rfl⟩
theorem sure8_6no (x e : Int) (he : ¬ e = 0) (w : World) : Calls Tryz.prog 61 #[.int .u8 x, .int .i64 e] w fun o w' => o = gaveUp6 ∧ w = w' := by
  have hb : (e != 0) = true := by simp [he]
  go_enter Tryz.func61, Tryz.ntmps61
  go_wp2
  exact ⟨rfl, rfl, rfl⟩
theorem sureU_6no (x e : Int) (he : ¬ e = 0) (w : World) : Calls Tryz.prog 37 #[.int .u64 x, .int .i64 e] w fun o w' => o = gaveUp6 ∧ w = w' := by
  have hb : (e != 0) = true := by simp [he]
  go_enter Tryz.func37, Tryz.ntmps37
  go_wp2
  exact ⟨rfl, rfl, rfl⟩
theorem sureS_6no (x : ByteArray) (e : Int) (he : ¬ e = 0) (w : World) : Calls Tryz.prog 63 #[.string x, .int .i64 e] w fun o w' => o = gaveUp6 ∧ w = w' := by
  have hb : (e != 0) = true := by simp [he]
  go_enter Tryz.func63, Tryz.ntmps63
  go_wp2
  exact ⟨rfl, rfl, rfl⟩
theorem sureV_6 (k i m : Int) (t : ByteArray) (a : Option Addr) (n c : Nat) (w : World) : Calls Tryz.prog 81 #[.agg #[.int .i64 k, .int .i64 i, .int .i64 m, .string t, .slice a n c], .int .i64 0] w fun e w' => e = .returned (.agg #[.int .i64 k, .int .i64 i, .int .i64 m, .string t, .slice a n c]) ∧ Below w.heap.size w w' := by
  go_enter Tryz.func81, Tryz.ntmps81
  go_wp2
  have e2 := World.alloc_heap_new (w.alloc (.cells #[.int .i64 k, .int .i64 i, .int .i64 m, .string t, .slice a n c] 46)) (.cells #[.int .i64 k, .int .i64 i, .int .i64 m, .string t, .slice a n c] 46)
  rw [World.size_alloc] at e2
  exact bodyPost_ret (results_cell_row rfl _ _ (w.heap.size + 1) _ _ _ _ rfl e2 Tryz.underlying46 rfl infoVal5) rfl ⟨rfl, alloc_v (alloc_v (Below.refl _ _) _) _⟩
theorem sureV_6no (e : Int) (he : ¬ e = 0) (w : World) : Calls Tryz.prog 81 #[.agg zcells, .int .i64 e] w fun o w' => o = gaveUp6 ∧ Below w.heap.size w w' := by
  have hb : (e != 0) = true := by simp [he]
  go_enter Tryz.func81, Tryz.ntmps81
  go_wp2
  exact ⟨rfl, rfl, alloc_v (alloc_v (Below.refl _ _) _) _⟩
theorem below_drew {k : Nat} {w U : World} (h : Below k w U) : Below k w U.drew := ⟨h.os, h.tape, h.output, h.size, h.block⟩
/-- A decoder of the bytes l, of which r are left. -/
structure EDAt (w : World) (db rb lo B : Nat) (sl : Value) (l r : List UInt8) : Prop where
  blk : w.heap[db]? = some (.cells #[sl, .pointer (some ⟨rb, 0, none⟩)] 85 (0, 0))
  bytes : BytesIn w 0 B sl l
  rd : Rd w rb lo r
  at' : ∃ p, p ≤ l.length ∧ r = l.drop p
  hB : B ≤ lo
  hlo : lo ≤ rb
  hrb : rb < db
theorem EDAt.kept {w w' : World} {db rb lo B : Nat} {sl : Value} {l r r' : List UInt8} (h : EDAt w db rb lo B sl l r) (hg : w.grownBy w' (some rb)) (hr : Rd w' rb lo r') (hp : ∃ p, p ≤ l.length ∧ r' = l.drop p) : EDAt w' db rb lo B sl l r' := by
  have hdb : db < w.heap.size := (Array.getElem?_eq_some_iff.1 h.blk).1
  have h1 := h.hB
  have h2 := h.hlo
  have h3 := h.hrb
  exact ⟨(hg.block db hdb (by simp; omega)).trans h.blk, h.bytes.mono (fun b o _ hb => World.cell?_of_block (hg.block b (by omega) (by simp; omega))) (Nat.le_refl _) (Nat.le_refl _), hr, hp, h1, h2, h3⟩
end Go.Proofs.YthmhcpghfbifiaaGreatDoor

/- Events out of bytes: plain mathematics. -/
namespace Go.Proofs.YthmhcpghfbifiaaGreatDoor
open Go.RowKit

/-- The value that bytes begin with, if it is right; what is left. -/
def decVal6 (l : List UInt8) : Option (Vl × Nat) := match decM l 4097 0 0 with
  | none => none
  | some (v, p, _) => if rightV v = true then some (v, p) else none
/-- The event that bytes begin with, but for its value. -/
def decHead6 : List UInt8 → Option (Evn × List UInt8)
  | [] => none
  | k :: r => if textErr r = 0 then
      if k.toNat = 1 then
        if textErr (textRest r) = 0 then
          if textErr (textRest (textRest r)) = 0 then some (⟨1, textOf r, textOf (textRest r), textOf (textRest (textRest r)), ⟨0, 0, 0, ⟨#[]⟩, []⟩, 0, 0, 0⟩, textRest (textRest (textRest r))) else none
        else none
      else some (⟨k.toNat, textOf r, [], [], ⟨0, 0, 0, ⟨#[]⟩, []⟩, 0, 0, 0⟩, textRest r)
    else none
def decEv6 (l : List UInt8) : Option (Evn × List UInt8) := match decHead6 l with
  | none => none
  | some (e, r) => if framedB e = true then match decVal6 r with
    | none => none
    | some (v, p) => some (⟨e.kind, e.proc, e.obj, e.op, v, 0, 0, 0⟩, r.drop p)
    else none
def decEvs6 : Nat → List UInt8 → Option (List Evn × List UInt8)
  | 0, l => some ([], l)
  | n + 1, l => match decEv6 l with
    | none => none
    | some (e, r) => match decEvs6 n r with
      | none => none
      | some (es, r') => some (e :: es, r')
/-- All that bytes say, if they say events and nothing else. -/
def decL6 (b : List UInt8) : Option (List Evn) := if (front b).2.2 = 0 then match decEvs6 (front b).1 (b.drop (front b).2.1) with
  | none => none
  | some (es, r) => if r.length = 0 then some es else none
  else none
end Go.Proofs.YthmhcpghfbifiaaGreatDoor
