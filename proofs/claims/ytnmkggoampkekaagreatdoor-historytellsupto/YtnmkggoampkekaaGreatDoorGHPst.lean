/- Operations made by hand, how they lie in memory, and the events that they tell. -/
import Derived.Test.YtnmkggoampkekaaGreatDoorGHRun
import Derived.Laws.MakeOwn
import Derived.Deep.QuietTactic
namespace Go.Proofs.YtnmkggoampkekaaGreatDoor
open Go.RowKit Go.Maps

/-- An operation, whatever its numbers are. -/
structure Ch where
  proc : Int
  obj : Int
  op : List UInt8
  arg : Vl
  inv : Int
  res : Int
  reply : Vl
def chOf (c : Cl) : Ch := ⟨c.proc, c.obj, c.op, c.arg, c.inv, c.res, c.reply⟩
/-- With where the items of its argument and of its reply lie. -/
abbrev HV := Ch × Value × Value
def hvOf (x : CV) : HV := (chOf x.1, x.2.1, x.2.2)
abbrev hvArr (x : HV) : Array Value := #[.int .i64 x.1.proc, .int .i64 x.1.obj, .string (bsN x.1.op), .int .i64 x.1.arg.kind, .int .i64 x.1.arg.int, .int .i64 x.1.arg.im, .string x.1.arg.text, x.2.1, .int .i64 x.1.inv, .int .i64 x.1.res, .int .i64 x.1.reply.kind, .int .i64 x.1.reply.int, .int .i64 x.1.reply.im, .string x.1.reply.text, x.2.2]
theorem hvArr_of (x : CV) : (hvArr (hvOf x)).toList = clOf x := rfl
/-- Names in memory. -/
def NamesAt (w : World) (B : Nat) (sl : Value) (l : List (List UInt8)) : Prop := ∃ a c, sl = .slice a l.length c ∧ l.length ≤ 1000000000 ∧ ∀ j (h : j < l.length), ∃ b off, a = some ⟨b, off, none⟩ ∧ b < B ∧ w.cell? ⟨b, off + j, none⟩ = some (.string (bsN l[j]))
theorem NamesAt.kept {w w' : World} {B : Nat} {sl : Value} {l : List (List UInt8)} (h : NamesAt w B sl l) (hk : ∀ b o, b < B → w'.cell? ⟨b, o, none⟩ = w.cell? ⟨b, o, none⟩) : NamesAt w' B sl l := by
  obtain ⟨a, c, e, hl, hc⟩ := h
  refine ⟨a, c, e, hl, fun j hj => ?_⟩
  obtain ⟨b, off, e, hb, h0⟩ := hc j hj
  exact ⟨b, off, e, hb, (hk _ _ hb).trans h0⟩
theorem NamesAt.below {w w' : World} {B : Nat} {sl : Value} {l : List (List UInt8)} (h : NamesAt w B sl l) (hb : Below B w w') : NamesAt w' B sl l := h.kept fun b o hB => hb.cell (p := ⟨b, o, none⟩) hB
theorem NamesAt.up {w : World} {B B' : Nat} {sl : Value} {l : List (List UInt8)} (h : NamesAt w B sl l) (hB : B ≤ B') : NamesAt w B' sl l := by
  obtain ⟨a, c, e, hl, hc⟩ := h
  refine ⟨a, c, e, hl, fun j hj => ?_⟩
  obtain ⟨b, off, e, hb, h0⟩ := hc j hj
  exact ⟨b, off, e, by omega, h0⟩
theorem NamesAt.len {w : World} {B : Nat} {sl : Value} {l : List (List UInt8)} (h : NamesAt w B sl l) : ∃ a c, sl = .slice a l.length c ∧ l.length ≤ 1000000000 := by
  obtain ⟨a, c, e, hl, _⟩ := h
  exact ⟨a, c, e, hl⟩
theorem NamesAt.item {w : World} {B : Nat} {a : Option Addr} {m c : Nat} {l : List (List UInt8)} (h : NamesAt w B (.slice a m c) l) (j : Nat) (hj : j < l.length) : ∃ b off, a = some ⟨b, off, none⟩ ∧ b < B ∧ w.cell? ⟨b, off + j, none⟩ = some (.string (bsN l[j])) := by
  obtain ⟨a', c', e, _, hc⟩ := h
  cases e
  exact hc j hj
theorem NamesAt.row {w : World} {L : Nat} {v : Value} {l : List (List UInt8)} (h : w.ownsRow L 9 1 v l.length (strs l)) (hl : l.length ≤ 1000000000) : NamesAt w w.heap.size v l := by
  rcases Nat.eq_zero_or_pos l.length with h0 | h0
  · obtain ⟨a, c, e⟩ := rowLen h
    exact ⟨a, c, e, hl, fun j hj => by omega⟩
  · obtain ⟨g, cap, rfl, hL, hg⟩ := h.form h0
    refine ⟨_, _, rfl, hl, fun j hj => ⟨g, 0, rfl, hg, ?_⟩⟩
    rw [Nat.zero_add, h.cellAt j (by omega)]
    simp [strs, hj]
/-- Operations in memory. -/
def HvsAt (w : World) (B : Nat) (sl : Value) (l : List HV) : Prop := ∃ a c, sl = .slice a l.length c ∧ l.length ≤ 1000000000 ∧ ∀ j (h : j < l.length), ∃ b off, a = some ⟨b, off, none⟩ ∧ b < B ∧ ∀ (i : Nat) (v : Value), (hvArr l[j])[i]? = some v → w.cell? ⟨b, off + j * 15 + i, none⟩ = some v
theorem HvsAt.kept {w w' : World} {B : Nat} {sl : Value} {l : List HV} (h : HvsAt w B sl l) (hk : ∀ b o, b < B → w'.cell? ⟨b, o, none⟩ = w.cell? ⟨b, o, none⟩) : HvsAt w' B sl l := by
  obtain ⟨a, c, e, hl, hc⟩ := h
  refine ⟨a, c, e, hl, fun j hj => ?_⟩
  obtain ⟨b, off, e, hb, h0⟩ := hc j hj
  exact ⟨b, off, e, hb, fun i v hv => (hk _ _ hb).trans (h0 i v hv)⟩
theorem HvsAt.below {w w' : World} {B : Nat} {sl : Value} {l : List HV} (h : HvsAt w B sl l) (hb : Below B w w') : HvsAt w' B sl l := h.kept fun b o hB => hb.cell (p := ⟨b, o, none⟩) hB
theorem HvsAt.up {w : World} {B B' : Nat} {sl : Value} {l : List HV} (h : HvsAt w B sl l) (hB : B ≤ B') : HvsAt w B' sl l := by
  obtain ⟨a, c, e, hl, hc⟩ := h
  refine ⟨a, c, e, hl, fun j hj => ?_⟩
  obtain ⟨b, off, e, hb, h0⟩ := hc j hj
  exact ⟨b, off, e, by omega, h0⟩
theorem HvsAt.len {w : World} {B : Nat} {sl : Value} {l : List HV} (h : HvsAt w B sl l) : ∃ a c, sl = .slice a l.length c ∧ l.length ≤ 1000000000 := by
  obtain ⟨a, c, e, hl, _⟩ := h
  exact ⟨a, c, e, hl⟩
theorem HvsAt.item {w : World} {B : Nat} {a : Option Addr} {m c : Nat} {l : List HV} (h : HvsAt w B (.slice a m c) l) (j : Nat) (hj : j < l.length) : ∃ b off, a = some ⟨b, off, none⟩ ∧ b < B ∧
    w.cell? ⟨b, off + j * 15, none⟩ = some (.int .i64 l[j].1.proc) ∧ w.cell? ⟨b, off + j * 15 + 1, none⟩ = some (.int .i64 l[j].1.obj) ∧ w.cell? ⟨b, off + j * 15 + 2, none⟩ = some (.string (bsN l[j].1.op)) ∧
    w.cell? ⟨b, off + j * 15 + 3, none⟩ = some (.int .i64 l[j].1.arg.kind) ∧ w.cell? ⟨b, off + j * 15 + 4, none⟩ = some (.int .i64 l[j].1.arg.int) ∧ w.cell? ⟨b, off + j * 15 + 5, none⟩ = some (.int .i64 l[j].1.arg.im) ∧ w.cell? ⟨b, off + j * 15 + 6, none⟩ = some (.string l[j].1.arg.text) ∧ w.cell? ⟨b, off + j * 15 + 7, none⟩ = some l[j].2.1 ∧
    w.cell? ⟨b, off + j * 15 + 8, none⟩ = some (.int .i64 l[j].1.inv) ∧ w.cell? ⟨b, off + j * 15 + 9, none⟩ = some (.int .i64 l[j].1.res) ∧
    w.cell? ⟨b, off + j * 15 + 10, none⟩ = some (.int .i64 l[j].1.reply.kind) ∧ w.cell? ⟨b, off + j * 15 + 11, none⟩ = some (.int .i64 l[j].1.reply.int) ∧ w.cell? ⟨b, off + j * 15 + 12, none⟩ = some (.int .i64 l[j].1.reply.im) ∧ w.cell? ⟨b, off + j * 15 + 13, none⟩ = some (.string l[j].1.reply.text) ∧ w.cell? ⟨b, off + j * 15 + 14, none⟩ = some l[j].2.2 := by
  obtain ⟨a', c', e, _, hc⟩ := h
  cases e
  obtain ⟨b, off, e, hb, h0⟩ := hc j hj
  exact ⟨b, off, e, hb, h0 0 _ rfl, h0 1 _ rfl, h0 2 _ rfl, h0 3 _ rfl, h0 4 _ rfl, h0 5 _ rfl, h0 6 _ rfl, h0 7 _ rfl, h0 8 _ rfl, h0 9 _ rfl, h0 10 _ rfl, h0 11 _ rfl, h0 12 _ rfl, h0 13 _ rfl, h0 14 _ rfl⟩
theorem HvsAt.row {w : World} {L : Nat} {v : Value} {rs : List CV} (h : w.ownsRow L 69 15 v rs.length (crow rs)) (hl : rs.length ≤ 1000000000) : HvsAt w w.heap.size v (rs.map hvOf) := by
  have hlm : (rs.map hvOf).length = rs.length := List.length_map _
  rcases Nat.eq_zero_or_pos rs.length with h0 | h0
  · obtain ⟨a, c, e⟩ := rowLen h
    exact ⟨a, c, by rw [hlm]; exact e, by omega, fun j hj => by omega⟩
  · obtain ⟨g, cap, rfl, hL, hg⟩ := h.form h0
    refine ⟨_, _, by rw [hlm], by omega, fun j hj => ⟨g, 0, rfl, hg, fun i v hv => ?_⟩⟩
    have hj' : j < rs.length := by omega
    have hi : i < 15 := by
      have := (Array.getElem?_eq_some_iff.1 hv).1
      exact this
    rw [Nat.zero_add, h.cellAt (j * 15 + i) (by have := Nat.mul_le_mul_right 15 (show j + 1 ≤ rs.length by omega); omega), crow_get rs j hj' i hi, ← hvArr_of, ← hv]
    simp
/-- Operations made by hand, all of it below B. -/
def HvOk (w : World) (B n : Nat) (x : HV) : Prop := ItemsAt w B n x.2.1 x.1.arg.items ∧ ItemsAt w B n x.2.2 x.1.reply.items ∧ x.1.arg.ok ∧ x.1.reply.ok ∧ x.1.arg.size ≤ 1000000000 ∧ x.1.reply.size ≤ 1000000000 ∧ x.1.op.length ≤ 1048576
structure HPast (w : World) (B n : Nat) (v0 v1 v2 : Value) (P O : List (List UInt8)) (cs : List HV) : Prop where
  pr : NamesAt w B v0 P
  ob : NamesAt w B v1 O
  cl : HvsAt w B v2 cs
  its : ∀ x ∈ cs, HvOk w B n x
  nmp : ∀ s ∈ P, s.length ≤ 1048576
  nmo : ∀ s ∈ O, s.length ≤ 1048576
theorem HPast.below {w w' : World} {B n : Nat} {v0 v1 v2 : Value} {P O : List (List UInt8)} {cs : List HV} (h : HPast w B n v0 v1 v2 P O cs) (hb : Below B w w') : HPast w' B n v0 v1 v2 P O cs :=
  ⟨h.pr.below hb, h.ob.below hb, h.cl.below hb, fun x hx => ⟨(h.its x hx).1.below hb, (h.its x hx).2.1.below hb, (h.its x hx).2.2⟩, h.nmp, h.nmo⟩
theorem HPast.up {w : World} {B B' n : Nat} {v0 v1 v2 : Value} {P O : List (List UInt8)} {cs : List HV} (h : HPast w B n v0 v1 v2 P O cs) (hB : B ≤ B') : HPast w B' n v0 v1 v2 P O cs :=
  ⟨h.pr.up hB, h.ob.up hB, h.cl.up hB, fun x hx => ⟨(h.its x hx).1.up hB, (h.its x hx).2.1.up hB, (h.its x hx).2.2⟩, h.nmp, h.nmo⟩

/-- An event with where its value's items lie. -/
abbrev EV := Evn × Value
def evOf (x : EV) : List Value := (evCells x.1 x.2).toList
def erow (l : List EV) : List Value := l.flatMap evOf
theorem evOf_len (x : EV) : (evOf x).length = 12 := rfl
theorem erow_len (l : List EV) : (erow l).length = l.length * 12 := by
  induction l with
  | nil => rfl
  | cons x l ih => rw [erow, List.flatMap_cons, List.length_append, evOf_len]; change 12 + (erow l).length = _; rw [ih, List.length_cons]; omega
theorem erow_split (l : List EV) (j : Nat) (h : j < l.length) : erow l = erow (l.take j) ++ (evOf l[j] ++ erow (l.drop (j + 1))) := by
  have e : l = l.take j ++ l[j] :: l.drop (j + 1) := by rw [← List.drop_eq_getElem_cons h, List.take_append_drop]
  have : erow l = erow (l.take j ++ l[j] :: l.drop (j + 1)) := by rw [← e]
  rw [this]
  unfold erow
  rw [List.flatMap_append, List.flatMap_cons]
theorem erow_get (l : List EV) (j : Nat) (h : j < l.length) (i : Nat) (hi : i < 12) : (erow l)[j * 12 + i]? = (evOf l[j])[i]? := by
  have e1 : (erow (l.take j)).length = j * 12 := by rw [erow_len, List.length_take]; congr 1; omega
  rw [erow_split l j h, List.getElem?_append_right (by omega), e1, Nat.add_sub_cancel_left, List.getElem?_append_left (by rw [evOf_len]; omega)]
/-- An event is laid at a place. -/
theorem erow_set (l : List EV) (j : Nat) (h : j < l.length) (x : EV) : erow (l.set j x) = erow (l.take j) ++ (evOf x ++ erow (l.drop (j + 1))) := by
  have h' : j < (l.set j x).length := by simpa using h
  rw [erow_split _ j h', List.getElem_set_self]
  congr 1
  · congr 1
    rw [List.take_set_of_le (Nat.le_refl _)]
  · congr 2
    rw [List.drop_set_of_lt (Nat.lt_succ_self _)]
def zeroE : Evn := ⟨0, [], [], [], zeroVl, 0, 0, 0⟩
def zeroEV : EV := (zeroE, .slice none 0 0)
theorem erow_zero (n : Nat) : (madeCells (evCells zeroE (.slice none 0 0)) (n * 12)).toList = erow (List.replicate n zeroEV) := by
  apply List.ext_getElem?
  intro k
  by_cases hk : k < n * 12
  · have e : k = (k / 12) * 12 + k % 12 := by omega
    have h1 : k / 12 < n := by omega
    rw [e, erow_get _ (k / 12) (by simpa using h1) (k % 12) (Nat.mod_lt _ (by omega)), ← e]
    simp only [List.getElem_replicate]
    have h12 : k % 12 < 12 := Nat.mod_lt _ (by omega)
    have : (madeCells (evCells zeroE (.slice none 0 0)) (n * 12)).toList[k]? = some ((evCells zeroE (.slice none 0 0))[k % 12]!) := by
      simp [madeCells, hk]
    rw [this]
    have hs : (evOf zeroEV)[k % 12]? = (evCells zeroE (.slice none 0 0))[k % 12]? := by simp [evOf, zeroEV]
    rw [hs, getElem!_pos _ _ (by exact h12), getElem?_pos _ _ (by exact h12)]
  · rw [List.getElem?_eq_none (by rw [Array.length_toList, size_madeCells]; omega), List.getElem?_eq_none (by rw [erow_len, List.length_replicate]; omega)]

def zeroB (v : Vl) : Bool := decide (v.kind = 0) && (decide (v.int = 0) && (decide (v.im = 0) && (decide (v.text.size = 0) && decide (v.items.length = 0))))
/-- How many events operations have. -/
def placesN (cs : List HV) (k : Nat) : Nat := cs.length + ((cs.take k).filter (fun x => x.1.res != -1)).length
def placesM (cs : List HV) : Nat := placesN cs cs.length
def layM (E : List EV) (i : Int) (x : EV) : Option (List EV) := if 0 ≤ i ∧ i < E.length then some (E.set i.toNat x) else none
def invEv (P O : List (List UInt8)) (c : Ch) : Evn := ⟨1, P.getD c.proc.toNat [], O.getD c.obj.toNat [], c.op, c.arg, 0, 0, 0⟩
def resEv (P : List (List UInt8)) (c : Ch) : Evn := ⟨2, P.getD c.proc.toNat [], [], [], c.reply, 0, 0, 0⟩
def stepL (P O : List (List UInt8)) (E : List EV) (x : HV) : Option (List EV) :=
  if 0 ≤ x.1.proc ∧ x.1.proc < P.length ∧ 0 ≤ x.1.obj ∧ x.1.obj < O.length then
    match layM E x.1.inv (invEv P O x.1, x.2.1) with
    | none => none
    | some E1 => if x.1.res = -1 ∧ zeroB x.1.reply = true then some E1 else layM E1 x.1.res (resEv P x.1, x.2.2)
  else none
def laidN (P O : List (List UInt8)) (cs : List HV) : Nat → Option (List EV)
  | 0 => some (List.replicate (placesM cs) zeroEV)
  | k + 1 => match laidN P O cs k with
    | none => none
    | some E => if h : k < cs.length then stepL P O E cs[k] else some E
def laidM (P O : List (List UInt8)) (cs : List HV) : Option (List EV) := laidN P O cs cs.length
theorem placesN_succ (cs : List HV) (k : Nat) (h : k < cs.length) : placesN cs (k + 1) = placesN cs k + if cs[k].1.res = -1 then 0 else 1 := by
  unfold placesN
  rw [List.take_succ_eq_append_getElem h, List.filter_append, List.length_append]
  by_cases e : cs[k].1.res = -1
  · simp [e]
  · simp [e]; omega
theorem placesN_le (cs : List HV) (k : Nat) : placesN cs k ≤ cs.length + cs.length := by
  unfold placesN
  have h1 := List.length_filter_le (fun x : HV => x.1.res != -1) (cs.take k)
  have h2 := List.length_take_le k cs
  have h3 : (cs.take k).length ≤ cs.length := by rw [List.length_take]; omega
  omega
theorem layM_len {E E' : List EV} {i : Int} {x : EV} (h : layM E i x = some E') : E'.length = E.length := by
  unfold layM at h
  split at h
  · simp only [Option.some.injEq] at h; rw [← h, List.length_set]
  · cases h
theorem stepL_len {P O : List (List UInt8)} {E E' : List EV} {x : HV} (h : stepL P O E x = some E') : E'.length = E.length := by
  unfold stepL at h
  split at h
  · split at h
    · cases h
    · rename_i E1 h1
      split at h
      · simp only [Option.some.injEq] at h; rw [← h]; exact layM_len h1
      · exact (layM_len h).trans (layM_len h1)
  · cases h
/-- All events of a row have good values. -/
def EvsGood (w : World) (B n : Nat) (E : List EV) : Prop := ∀ x ∈ E, ItemsAt w B n x.2 x.1.val.items ∧ EvOk x.1 ∧ x.1.val.size ≤ 1000000000
theorem EvsGood.below {w w' : World} {B n : Nat} {E : List EV} (h : EvsGood w B n E) (hb : Below B w w') : EvsGood w' B n E := fun x hx => ⟨(h x hx).1.below hb, (h x hx).2⟩
theorem layM_good {w : World} {B n : Nat} {E E' : List EV} {i : Int} {x : EV} (h : layM E i x = some E') (hE : EvsGood w B n E) (hx : ItemsAt w B n x.2 x.1.val.items ∧ EvOk x.1 ∧ x.1.val.size ≤ 1000000000) : EvsGood w B n E' := by
  unfold layM at h
  split at h
  · simp only [Option.some.injEq] at h
    subst h
    intro y hy
    rcases List.mem_or_eq_of_mem_set hy with h1 | h1
    · exact hE y h1
    · subst h1; exact hx
  · cases h
theorem zero_ok : zeroVl.ok := by refine ⟨by show 0 ≤ 1048576; omega, ?_, ?_⟩ <;> (show (-9223372036854775808 : Int) ≤ 0 ∧ (0 : Int) ≤ 9223372036854775807; omega)
theorem good_zero (w : World) (B n k : Nat) : EvsGood w B (n + 1) (List.replicate k zeroEV) := fun x hx => by
  obtain rfl := List.eq_of_mem_replicate hx
  exact ⟨⟨none, 0, rfl, by simp [zeroEV, zeroE, zeroVl], fun j h => absurd h (by simp [zeroEV, zeroE, zeroVl])⟩, ⟨by simp [zeroEV, zeroE], by simp [zeroEV, zeroE], by simp [zeroEV, zeroE], zero_ok⟩, by show zeroVl.size ≤ _; rw [Vl.size_eq]; simp [zeroVl]⟩
theorem getD_len {l : List (List UInt8)} (h : ∀ s ∈ l, s.length ≤ 1048576) (i : Nat) : (l.getD i []).length ≤ 1048576 := by
  rw [List.getD_eq_getElem?_getD]
  cases e : l[i]? with
  | none => simp
  | some s => exact h s (List.mem_of_getElem? e)
theorem stepL_good {w : World} {B n : Nat} {P O : List (List UInt8)} {E E' : List EV} {x : HV} (h : stepL P O E x = some E') (hE : EvsGood w B n E) (hx : HvOk w B n x) (hP : ∀ s ∈ P, s.length ≤ 1048576) (hO : ∀ s ∈ O, s.length ≤ 1048576) : EvsGood w B n E' := by
  obtain ⟨h1, h2, h3, h4, h5, h6, h7⟩ := hx
  unfold stepL at h
  split at h
  · split at h
    · cases h
    · rename_i E1 he
      have g1 := layM_good he hE ⟨h1, ⟨getD_len hP _, getD_len hO _, h7, h3⟩, h5⟩
      split at h
      · simp only [Option.some.injEq] at h; rw [← h]; exact g1
      · exact layM_good h g1 ⟨h2, ⟨getD_len hP _, by simp [resEv], by simp [resEv], h4⟩, h6⟩
  · cases h
/-- What is laid is events. -/
theorem evs_of_row {w : World} {L g cap B n : Nat} {E : List EV} (h : w.ownsRow L 61 12 (.slice (some ⟨g, 0, none⟩) E.length cap) E.length (erow E)) (hl : E.length ≤ 1000000000) (hE : EvsGood w B n E) (hB : B ≤ w.heap.size) : EvsAt w w.heap.size n (.slice (some ⟨g, 0, none⟩) E.length cap) (E.map (·.1)) := by
  have hlm : (E.map (·.1)).length = E.length := List.length_map _
  refine ⟨_, _, by rw [hlm], by omega, fun j hj => ?_⟩
  have hj' : j < E.length := by omega
  have hm : E[j] ∈ E := List.getElem_mem _
  have hz := hE _ hm
  refine ⟨g, 0, E[j].2, rfl, (h.lt g rfl).2, fun i v hv => ?_, ?_, ?_, ?_⟩
  · have hi : i < 12 := by
      have := (Array.getElem?_eq_some_iff.1 hv).1
      exact this
    rw [Nat.zero_add, h.cellAt (j * 12 + i) (by have := Nat.mul_le_mul_right 12 (show j + 1 ≤ E.length by omega); omega), erow_get E j hj' i hi, ← hv]
    simp [evOf]
  · rw [List.getElem_map]; exact hz.1.up hB
  · rw [List.getElem_map]; exact hz.2.1
  · rw [List.getElem_map]; exact hz.2.2
end Go.Proofs.YtnmkggoampkekaaGreatDoor

/- numbers, zero, places, lay. -/
namespace Go.Proofs.YtnmkggoampkekaaGreatDoor
open Go.RowKit Go.Maps

def numB (i : Int) (m : Nat) : Bool := decide (0 ≤ i) && decide (i < (m : Int))
set_option maxRecDepth 100000 in
theorem numbers_k (i : Int) (a : Option Addr) (m c : Nat) (w : World) : Calls Tryz.prog 41 #[.int .i64 i, .slice a m c] w fun e w' => e = .returned (.bool (numB i m)) ∧ w = w' := by
  by_cases h0 : 0 ≤ i
  · have e0 : numB i m = decide (i < (m : Int)) := by simp [numB, h0]
    rw [e0]
    go_enter Tryz.func41, Tryz.ntmps41
    go_wp2
    go_ret
    exact ⟨by simp, rfl⟩
  · have e0 : numB i m = false := by simp [numB, h0]
    rw [e0]
    go_enter Tryz.func41, Tryz.ntmps41
    go_wp2
    go_ret
    exact ⟨by simp, rfl⟩
set_option maxRecDepth 100000 in
set_option maxHeartbeats 1000000 in
theorem zero_k (v : Vl) (a : Option Addr) (c : Nat) (w : World) : Calls Tryz.prog 43 #[.agg #[.int .i64 v.kind, .int .i64 v.int, .int .i64 v.im, .string v.text, .slice a v.items.length c]] w fun e w' => e = .returned (.bool (zeroB v)) ∧ Below w.heap.size w w' := by
  obtain ⟨kd, it, im, tx, its⟩ := v
  unfold zeroB
  dsimp only
  generalize its.length = m
  by_cases h0 : kd = 0
  · subst h0
    by_cases h1 : it = 0
    · subst h1
      by_cases h2 : im = 0
      · subst h2
        by_cases h3 : tx = ⟨#[]⟩
        · subst h3
          rcases Nat.eq_zero_or_pos m with hm | hm
          · subst hm
            go_enter Tryz.func43, Tryz.ntmps43
            go_wp2
            go_ret
            exact ⟨by simp; rfl, alloc_v (Below.refl _ _) _⟩
          · have hm1 : ¬ (m = 0) := by omega
            have hm2 : ¬ ((m : Int) = 0) := by omega
            go_enter Tryz.func43, Tryz.ntmps43
            go_wp2
            go_ret
            exact ⟨by simp [hm1], alloc_v (Below.refl _ _) _⟩
        · have h4 : ¬ (tx.size = 0) := fun h => h3 (by cases tx with | mk d => cases d with | mk l => cases l with | nil => rfl | cons x l => cases h)
          have h5 : ¬ (tx.toList = []) := fun h => h4 (by rw [ByteArray.toList_eq] at h; show tx.data.size = 0; rw [← Array.length_toList, h]; rfl)
          go_enter Tryz.func43, Tryz.ntmps43
          go_wp2
          go_ret
          exact ⟨by simp [h4], alloc_v (Below.refl _ _) _⟩
      · go_enter Tryz.func43, Tryz.ntmps43
        go_wp2
        go_ret
        exact ⟨by simp [h2], alloc_v (Below.refl _ _) _⟩
    · go_enter Tryz.func43, Tryz.ntmps43
      go_wp2
      go_ret
      exact ⟨by simp [h1], alloc_v (Below.refl _ _) _⟩
  · go_enter Tryz.func43, Tryz.ntmps43
    go_wp2
    go_ret
    exact ⟨by simp [h0], alloc_v (Below.refl _ _) _⟩
set_option maxRecDepth 100000 in
set_option maxHeartbeats 2000000 in
theorem places_k (w : World) (v0 v1 v2 : Value) (hv0 : ∃ a m c, v0 = .slice a m c) (hv1 : ∃ a m c, v1 = .slice a m c) (cs : List HV) (hs : ∀ x ∈ cs, (∃ a m c, x.2.1 = .slice a m c) ∧ ∃ a m c, x.2.2 = .slice a m c) (hc : HvsAt w w.heap.size v2 cs) :
    Calls Tryz.prog 25 #[.agg #[v0, v1, v2]] w fun e w' => e = .returned (.int .i64 (placesM cs : Nat)) ∧ Below w.heap.size w w' := by
  obtain ⟨a0, m0, c0, rfl⟩ := hv0
  obtain ⟨a1, m1, c1, rfl⟩ := hv1
  obtain ⟨a2, c2, rfl, hlen⟩ := hc.len
  have bW : Below w.heap.size w (w.alloc (.cells #[.slice a0 m0 c0, .slice a1 m1 c1, .slice a2 cs.length c2] 25)) := alloc_v (Below.refl _ _) _
  have HC := hide hc
  clear hc
  go_enter Tryz.func25, Tryz.ntmps25
  go_wp2
  go_loopw [3, 5, 12] (fun n _ i wr => ∃ k : Nat, k ≤ cs.length ∧ n = .int .i64 (placesN cs k : Nat) ∧ i = .int .i64 k ∧ Below w.heap.size w wr) (fun _ _ i _ => cs.length - (intOf i).toNat)
  case atStart => exact ⟨0, Nat.zero_le _, by simp [placesN], rfl, bW⟩
  case round =>
    obtain ⟨k, hk, rfl, rfl, hb⟩ := hrel
    have hpl := placesN_le cs k
    by_cases hlt : k < cs.length
    · obtain ⟨b3, o3, rfl, g3, p0, p1, p2, p3, p4, p5, p6, p7, p8, p9, p10, p11, p12, p13, p14⟩ := (HC.out.below hb).item k hlt
      have hps := placesN_succ cs k hlt
      obtain ⟨⟨s1, s2, s3, es⟩, ⟨t1, t2, t3, et⟩⟩ := hs _ (List.getElem_mem hlt)
      rw [es] at p7
      rw [et] at p14
      clear es et
      have hsz := hb.size
      have l3 : b3 < wr.heap.size := by omega
      have k0 : (0 : Int) ≤ (k : Int) := by omega
      have k1 : (k : Int) < (cs.length : Int) := by omega
      have HB := hide hb
      clear hb g3
      generalize cs[k] = x at *
      generalize hpn : placesN cs k = q at *
      by_cases hr : x.1.res = -1
      · have hrb : (x.1.res != -1) = false := by simp [hr]
        go_wp2
        go_roundw
        case rel => exact ⟨k + 1, by omega, by rw [hps, if_pos hr]; rfl, by go_num, alloc_v HB.out _⟩
        case measure => simp [intOf]; omega
      · have hrb : (x.1.res != -1) = true := by simp [hr]
        go_wp2
        go_roundw
        case rel => exact ⟨k + 1, by omega, by rw [hps, if_neg hr]; go_num, by go_num, alloc_v HB.out _⟩
        case measure => simp [intOf]; omega
    · have he : k = cs.length := by omega
      subst he
      go_wp2
      go_ret
      exact ⟨rfl, hb⟩
/-- An event is stored at its place. -/
theorem erow_put {w : World} {L g cap m : Nat} {E : List EV} (hr : w.ownsRow L 61 12 (.slice (some ⟨g, 0, none⟩) m cap) m (erow E)) (k : Nat) (hk : k < E.length) (x : EV) :
    ((((((((((((w.setCell ⟨g, k * 12, none⟩ (.int .i64 x.1.kind)).setCell ⟨g, k * 12 + 1, none⟩ (.string (bsN x.1.proc))).setCell ⟨g, k * 12 + 2, none⟩ (.string (bsN x.1.obj))).setCell ⟨g, k * 12 + 3, none⟩ (.string (bsN x.1.op))).setCell ⟨g, k * 12 + 4, none⟩ (.int .i64 x.1.val.kind)).setCell ⟨g, k * 12 + 5, none⟩ (.int .i64 x.1.val.int)).setCell ⟨g, k * 12 + 6, none⟩ (.int .i64 x.1.val.im)).setCell ⟨g, k * 12 + 7, none⟩ (.string x.1.val.text)).setCell ⟨g, k * 12 + 8, none⟩ x.2).setCell ⟨g, k * 12 + 9, none⟩ (.int .i64 x.1.off)).setCell ⟨g, k * 12 + 10, none⟩ (.int .i64 x.1.line)).setCell ⟨g, k * 12 + 11, none⟩ (.int .i64 x.1.col)).ownsRow L 61 12 (.slice (some ⟨g, 0, none⟩) m cap) m (erow (E.set k x)) ∧
    Keeps (fun y => y = g) w ((((((((((((w.setCell ⟨g, k * 12, none⟩ (.int .i64 x.1.kind)).setCell ⟨g, k * 12 + 1, none⟩ (.string (bsN x.1.proc))).setCell ⟨g, k * 12 + 2, none⟩ (.string (bsN x.1.obj))).setCell ⟨g, k * 12 + 3, none⟩ (.string (bsN x.1.op))).setCell ⟨g, k * 12 + 4, none⟩ (.int .i64 x.1.val.kind)).setCell ⟨g, k * 12 + 5, none⟩ (.int .i64 x.1.val.int)).setCell ⟨g, k * 12 + 6, none⟩ (.int .i64 x.1.val.im)).setCell ⟨g, k * 12 + 7, none⟩ (.string x.1.val.text)).setCell ⟨g, k * 12 + 8, none⟩ x.2).setCell ⟨g, k * 12 + 9, none⟩ (.int .i64 x.1.off)).setCell ⟨g, k * 12 + 10, none⟩ (.int .i64 x.1.line)).setCell ⟨g, k * 12 + 11, none⟩ (.int .i64 x.1.col)) := by
  have s0 := hr.stored (k * 12) (.int .i64 x.1.kind)
  have s1 := s0.1.stored (k * 12 + 1) (.string (bsN x.1.proc))
  have s2 := s1.1.stored (k * 12 + 2) (.string (bsN x.1.obj))
  have s3 := s2.1.stored (k * 12 + 3) (.string (bsN x.1.op))
  have s4 := s3.1.stored (k * 12 + 4) (.int .i64 x.1.val.kind)
  have s5 := s4.1.stored (k * 12 + 5) (.int .i64 x.1.val.int)
  have s6 := s5.1.stored (k * 12 + 6) (.int .i64 x.1.val.im)
  have s7 := s6.1.stored (k * 12 + 7) (.string x.1.val.text)
  have s8 := s7.1.stored (k * 12 + 8) x.2
  have s9 := s8.1.stored (k * 12 + 9) (.int .i64 x.1.off)
  have s10 := s9.1.stored (k * 12 + 10) (.int .i64 x.1.line)
  have s11 := s10.1.stored (k * 12 + 11) (.int .i64 x.1.col)
  have e1 : (erow (E.take k)).length = k * 12 := by rw [erow_len, List.length_take]; congr 1; omega
  have one : ∀ (A M D : List Value) (i : Nat) (v : Value), A.length = k * 12 → i < M.length → (A ++ (M ++ D)).set (k * 12 + i) v = A ++ (M.set i v ++ D) := fun A M D i v hA hi => by
    rw [List.set_append_right _ _ (by omega), hA, Nat.add_sub_cancel_left, List.set_append_left _ _ hi]
  have hfin : ((((((((((((erow E).set (k * 12) (.int .i64 x.1.kind)).set (k * 12 + 1) (.string (bsN x.1.proc))).set (k * 12 + 2) (.string (bsN x.1.obj))).set (k * 12 + 3) (.string (bsN x.1.op))).set (k * 12 + 4) (.int .i64 x.1.val.kind)).set (k * 12 + 5) (.int .i64 x.1.val.int)).set (k * 12 + 6) (.int .i64 x.1.val.im)).set (k * 12 + 7) (.string x.1.val.text)).set (k * 12 + 8) x.2).set (k * 12 + 9) (.int .i64 x.1.off)).set (k * 12 + 10) (.int .i64 x.1.line)).set (k * 12 + 11) (.int .i64 x.1.col) = erow (E.set k x) := by
    rw [erow_split E k hk, erow_set E k hk x]
    have z : (erow (E.take k) ++ (evOf E[k] ++ erow (E.drop (k + 1)))).set (k * 12) (.int .i64 x.1.kind) = erow (E.take k) ++ ((evOf E[k]).set 0 (.int .i64 x.1.kind) ++ erow (E.drop (k + 1))) := one (erow (E.take k)) (evOf E[k]) (erow (E.drop (k + 1))) 0 (.int .i64 x.1.kind) e1 (by rw [evOf_len]; omega)
    rw [z]
    rw [one _ _ _ 1 _ e1 (by simp [evOf_len]), one _ _ _ 2 _ e1 (by simp [evOf_len]), one _ _ _ 3 _ e1 (by simp [evOf_len]), one _ _ _ 4 _ e1 (by simp [evOf_len]), one _ _ _ 5 _ e1 (by simp [evOf_len]), one _ _ _ 6 _ e1 (by simp [evOf_len]), one _ _ _ 7 _ e1 (by simp [evOf_len]), one _ _ _ 8 _ e1 (by simp [evOf_len]), one _ _ _ 9 _ e1 (by simp [evOf_len]), one _ _ _ 10 _ e1 (by simp [evOf_len]), one _ _ _ 11 _ e1 (by simp [evOf_len])]
    rfl
  have s12 := s11.1
  rw [hfin] at s12
  refine ⟨s12, ?_⟩
  have kk : ∀ {u v : World} {o : Nat} {y : Value}, Keeps (fun z => z = g) u v → Keeps (fun z => z = g) u (v.setCell ⟨g, o, none⟩ y) := fun {u v o y} h => h.trans (Keeps.set v g o y) (fun _ _ h => h)
  exact kk (kk (kk (kk (kk (kk (kk (kk (kk (kk (kk (Keeps.set w g _ _)))))))))))
set_option maxRecDepth 100000 in
set_option maxHeartbeats 2000000 in
theorem lay_k (w : World) (L g cap : Nat) (E : List EV) (hr : w.ownsRow L 61 12 (.slice (some ⟨g, 0, none⟩) E.length cap) E.length (erow E)) (i : Int) (x : EV) (hx : ∃ a m c, x.2 = .slice a m c) (_hE : E.length ≤ 1000000000) :
    Calls Tryz.prog 42 #[.slice (some ⟨g, 0, none⟩) E.length cap, .int .i64 i, .agg (evCells x.1 x.2)] w fun e w' => (match layM E i x with | none => e = .returned (.bool false) ∧ w'.ownsRow L 61 12 (.slice (some ⟨g, 0, none⟩) E.length cap) E.length (erow E) | some E' => e = .returned (.bool true) ∧ w'.ownsRow L 61 12 (.slice (some ⟨g, 0, none⟩) E.length cap) E.length (erow E')) ∧ Keeps (fun y => y = g) w w' := by
  obtain ⟨W, hW⟩ : ∃ W, w.alloc (.cells (evCells x.1 x.2) 61) = W := ⟨_, rfl⟩
  have bW : Below w.heap.size w W := by rw [← hW]; exact alloc_v (Below.refl _ _) _
  have e1 : W.heap[w.heap.size]? = some (.cells (evCells x.1 x.2) 61 (0, 0)) := by rw [← hW]; exact World.alloc_heap_new w _
  have kW := Keeps.below (M := fun y => y = g) bW
  have rW := (Keeps.below (M := fun _ => False) bW).row hr (fun _ _ h => h)
  obtain ⟨e, xs⟩ := x
  obtain ⟨xa, xm, xc, hxs⟩ := hx
  dsimp only at hxs
  subst hxs
  dsimp only at hW e1
  unfold layM
  by_cases hc : 0 ≤ i ∧ i < (E.length : Int)
  · rw [if_pos hc]
    obtain ⟨h0, h1⟩ := hc
    obtain ⟨k, rfl⟩ : ∃ k : Nat, i = (k : Int) := ⟨i.toNat, by omega⟩
    rw [Int.toNat_natCast]
    have hk : k < E.length := by omega
    have hn0 : ¬ ((k : Int) < 0) := by omega
    have hn1 : ¬ ((E.length : Int) ≤ (k : Int)) := by omega
    have hcell : ∀ j, j < 12 → ∃ v, W.cell? ⟨g, k * 12 + j, none⟩ = some v := fun j hj => by
      rw [rW.cellAt (k * 12 + j) (by have := Nat.mul_le_mul_right 12 (show k + 1 ≤ E.length by omega); omega), erow_get E k hk j hj]
      exact ⟨_, List.getElem?_eq_getElem (by rw [evOf_len]; exact hj)⟩
    have hfz : ∀ j, W.frozen? ⟨g, k * 12 + j, none⟩ = false := fun j => rW.frozenAt _
    obtain ⟨y0, d0⟩ := hcell 0 (by omega)
    obtain ⟨y1, d1⟩ := hcell 1 (by omega)
    obtain ⟨y2, d2⟩ := hcell 2 (by omega)
    obtain ⟨y3, d3⟩ := hcell 3 (by omega)
    obtain ⟨y4, d4⟩ := hcell 4 (by omega)
    obtain ⟨y5, d5⟩ := hcell 5 (by omega)
    obtain ⟨y6, d6⟩ := hcell 6 (by omega)
    obtain ⟨y7, d7⟩ := hcell 7 (by omega)
    obtain ⟨y8, d8⟩ := hcell 8 (by omega)
    obtain ⟨y9, d9⟩ := hcell 9 (by omega)
    obtain ⟨y10, d10⟩ := hcell 10 (by omega)
    obtain ⟨y11, d11⟩ := hcell 11 (by omega)
    rw [Nat.add_zero] at d0
    have z0 := hfz 0
    have z1 := hfz 1
    have z2 := hfz 2
    have z3 := hfz 3
    have z4 := hfz 4
    have z5 := hfz 5
    have z6 := hfz 6
    have z7 := hfz 7
    have z8 := hfz 8
    have z9 := hfz 9
    have z10 := hfz 10
    have z11 := hfz 11
    rw [Nat.add_zero] at z0
    have c0 := cells_at e1 0 _ rfl
    have c1 := cells_at e1 1 _ rfl
    have c2 := cells_at e1 2 _ rfl
    have c3 := cells_at e1 3 _ rfl
    have c4 := cells_at e1 4 _ rfl
    have c5 := cells_at e1 5 _ rfl
    have c6 := cells_at e1 6 _ rfl
    have c7 := cells_at e1 7 _ rfl
    have c8 := cells_at e1 8 _ rfl
    have c9 := cells_at e1 9 _ rfl
    have c10 := cells_at e1 10 _ rfl
    have c11 := cells_at e1 11 _ rfl
    have HR := hide rW
    have HKW := hide kW
    clear hcell hfz rW hr kW e1
    go_enter Tryz.func42, Tryz.ntmps42
    go_wp2
    go_ret
    obtain ⟨r1, k1⟩ := erow_put HR.out k hk (e, .slice xa xm xc)
    exact ⟨⟨rfl, r1⟩, HKW.out.trans k1 (fun _ _ h => h)⟩
  · rw [if_neg hc]
    by_cases h0 : i < 0
    · go_enter Tryz.func42, Tryz.ntmps42
      go_wp2
      go_ret
      exact ⟨⟨rfl, rW⟩, kW⟩
    · have h1 : (E.length : Int) ≤ i := by omega
      go_enter Tryz.func42, Tryz.ntmps42
      go_wp2
      go_ret
      exact ⟨⟨rfl, rW⟩, kW⟩
end Go.Proofs.YtnmkggoampkekaaGreatDoor
