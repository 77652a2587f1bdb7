/- The value at the beginning of bytes: plain mathematics. -/
import Derived.Test.YthmhcpghfbifiaaGreatDoorGVals
import Derived.Test.YthmhcpghfbifiaaGreatDoorGOctet
import Derived.Test.YthmhcpghfbifiaaGreatDoorGE2
import Derived.WalkLawsBesides
import Derived.Deep.RegionHeld3
namespace Go.Proofs.YthmhcpghfbifiaaGreatDoor

/-- A part but for its items; how many these are; what is left. -/
def headM : List UInt8 → Option (Vl × Nat × List UInt8)
  | [] => none
  | k :: r =>
    if k.toNat = 1 then match r with
      | [] => none
      | x :: l => some (⟨1, x.toNat, 0, ⟨#[]⟩, []⟩, 0, l)
    else if k.toNat = 2 then if (front r).2.2 = 0 then some (⟨2, unz (front r).1, 0, ⟨#[]⟩, []⟩, 0, r.drop (front r).2.1) else none
    else if k.toNat = 3 then if (front r).2.2 = 0 then if (front (r.drop (front r).2.1)).2.2 = 0 then
        some (⟨3, unz (front r).1, unz (front (r.drop (front r).2.1)).1, ⟨#[]⟩, []⟩, 0, (r.drop (front r).2.1).drop (front (r.drop (front r).2.1)).2.1) else none else none
    else if k.toNat = 4 then if textErr r = 0 then some (⟨4, 0, 0, bytesOf (textOf r), []⟩, 0, textRest r) else none
    else if k.toNat = 5 ∨ k.toNat = 6 ∨ k.toNat = 7 then if (front r).2.2 = 0 then some (⟨k.toNat, 0, 0, ⟨#[]⟩, []⟩, (front r).1, r.drop (front r).2.1) else none
    else some (⟨k.toNat, 0, 0, ⟨#[]⟩, []⟩, 0, r)
/-- What of the bytes from a place on a head may see. -/
def seen (l : List UInt8) (p : Nat) : List UInt8 := (l.drop p).take 139
/-- So many items, one behind the other; g reads one, at a place, with so many parts begun. -/
def itsM (g : Nat → Nat → Option (Vl × Nat × Nat)) : Nat → Nat → Nat → Option (List Vl × Nat × Nat)
  | 0, p, q => some ([], p, q)
  | n + 1, p, q => match g p q with
    | none => none
    | some (x, p', q') => match itsM g n p' q' with
      | none => none
      | some (xs, r) => some (x :: xs, r)
/-- A value at a place, with so many parts begun; n bounds how deep. -/
def decM (l : List UInt8) : Nat → Nat → Nat → Option (Vl × Nat × Nat)
  | 0, _, _ => none
  | n + 1, p, q => if 4096 < q + 1 then none else match headM (seen l p) with
    | none => none
    | some (v, k, r) => match itsM (decM l n) k (p + ((seen l p).length - r.length)) (q + 1) with
      | none => none
      | some (xs, t) => some (⟨v.kind, v.int, v.im, v.text, xs⟩, t)
end Go.Proofs.YthmhcpghfbifiaaGreatDoor

/- sure, and the decoder's head. -/
namespace Go.Proofs.YthmhcpghfbifiaaGreatDoor
open Go.RowKit

/-- The panic by which a decoder gives up. -/
abbrev gaveUp : Ending := .panicked [{ v := .iface 24 (.int .i64 41), recovered := false }]
theorem sure8 (x : Int) (w : World) : Calls Tryz.prog 159 #[.int .u8 x, .int .i64 0] w fun e w' => e = .returned (.int .u8 x) ∧ w = w' := by
  go_enter Tryz.func159, Tryz.ntmps159
  go_wp2
  go_ret
  exact ⟨rfl, rfl⟩
theorem sure64 (x : Int) (w : World) : Calls Tryz.prog 160 #[.int .i64 x, .int .i64 0] w fun e w' => e = .returned (.int .i64 x) ∧ w = w' := by
  go_enter Tryz.func160, Tryz.ntmps160
  go_wp2
  go_ret
  exact ⟨rfl, rfl⟩
theorem sureU (x : Int) (w : World) : Calls Tryz.prog 163 #[.int .u64 x, .int .i64 0] w fun e w' => e = .returned (.int .u64 x) ∧ w = w' := by
  go_enter Tryz.func163, Tryz.ntmps163
  go_wp2
  go_ret
  exact ⟨rfl, rfl⟩
theorem sureS (x : ByteArray) (w : World) : Calls Tryz.prog 162 #[.string x, .int .i64 0] w fun e w' => e = .returned (.string x) ∧ w = w' := by
  go_enter Tryz.func162, Tryz.ntmps162
  go_wp2
  go_ret
  exact ⟨rfl, rfl⟩
theorem sure8_no (x e : Int) (he : ¬ e = 0) (w : World) : Calls Tryz.prog 159 #[.int .u8 x, .int .i64 e] w fun o w' => o = gaveUp ∧ w = w' := by
  have hb : (e != 0) = true := by simp [he]
  go_enter Tryz.func159, Tryz.ntmps159
  go_wp2
  exact ⟨rfl, rfl, rfl⟩
theorem sure64_no (x e : Int) (he : ¬ e = 0) (w : World) : Calls Tryz.prog 160 #[.int .i64 x, .int .i64 e] w fun o w' => o = gaveUp ∧ w = w' := by
  have hb : (e != 0) = true := by simp [he]
  go_enter Tryz.func160, Tryz.ntmps160
  go_wp2
  exact ⟨rfl, rfl, rfl⟩
theorem sureU_no (x e : Int) (he : ¬ e = 0) (w : World) : Calls Tryz.prog 163 #[.int .u64 x, .int .i64 e] w fun o w' => o = gaveUp ∧ w = w' := by
  have hb : (e != 0) = true := by simp [he]
  go_enter Tryz.func163, Tryz.ntmps163
  go_wp2
  exact ⟨rfl, rfl, rfl⟩
theorem sureS_no (x : ByteArray) (e : Int) (he : ¬ e = 0) (w : World) : Calls Tryz.prog 162 #[.string x, .int .i64 e] w fun o w' => o = gaveUp ∧ w = w' := by
  have hb : (e != 0) = true := by simp [he]
  go_enter Tryz.func162, Tryz.ntmps162
  go_wp2
  exact ⟨rfl, rfl, rfl⟩
/-- A decoder: its bytes, its place, the parts that it has begun. -/
def DecAt (w : World) (db : Nat) (sl : Value) (p q : Nat) : Prop := w.heap[db]? = some (.cells #[sl, .int .i64 p, .int .i64 q] 166 (0, 0))
theorem seen_is (l : List UInt8) (p : Nat) (hp : p ≤ l.length) : seen l p = (l.take (min (p + 139) l.length)).drop p := by
  unfold seen
  rw [List.drop_take]
  by_cases h : p + 139 ≤ l.length
  · rw [Nat.min_eq_left h, show p + 139 - p = 139 by omega]
  · rw [Nat.min_eq_right (by omega), List.take_of_length_le (by simp; omega), List.take_of_length_le (by simp)]
set_option maxRecDepth 100000 in
theorem seen_slice (w : World) (B : Nat) (a : Option Addr) (c : Nat) (l : List UInt8) (p : Nat) (hp : p ≤ l.length) (_hl : l.length ≤ 1000000000000) (h : BytesIn w 0 B (.slice a l.length c) l) :
    ∃ a' c', (∀ w' : World, (Instr.slice 23 (.slice a l.length c) (some (.int .i64 p)) (some (.int .i64 (min ((p : Int) + 139) ((l.length : Nat) : Int)))) none).run Tryz.prog w' = .ok (.slice a' (seen l p).length c') w') ∧ BytesIn w 0 B (.slice a' (seen l p).length c') (seen l p) := by
  have hm : (min ((p : Int) + 139) ((l.length : Nat) : Int)) = ((min (p + 139) l.length : Nat) : Int) := by
    omega
  rw [hm]
  obtain ⟨a0, c0, e0, h1, h2, h3⟩ := id h
  simp only [Value.slice.injEq, true_and] at e0
  obtain ⟨rfl, rfl⟩ := e0
  have hd := (h.take (n := min (p + 139) l.length) (by omega))
  have hlen : (l.take (min (p + 139) l.length)).length = min (p + 139) l.length := by simp
  have hd' : BytesIn w 0 B (.slice a (l.take (min (p + 139) l.length)).length c) (l.take (min (p + 139) l.length)) := by rw [hlen]; exact hd
  have hdd := hd'.drop (n := p) (by rw [hlen]; omega)
  rw [← seen_is l p hp] at hdd
  have hsl : (seen l p).length = min (p + 139) l.length - p := by rw [seen_is l p hp, List.length_drop, hlen]
  refine ⟨if c = p then a else a.map fun x => x.add (p * 1), c - p, fun w' => ?_, ?_⟩
  · rw [run_slice_lh (P := Tryz.prog) w' 23 a l.length c Tryz.underlying23 .i64 .i64 p _ (by omega) (by omega) (by omega), hsl, Int.toNat_natCast, Int.toNat_natCast]
    rfl
  · rw [hsl]
    rw [hlen] at hdd
    exact hdd
end Go.Proofs.YthmhcpghfbifiaaGreatDoor

/- The decoder's head, by kinds. -/
namespace Go.Proofs.YthmhcpghfbifiaaGreatDoor
open Go.RowKit

/-- Within head: the result's block, the decoder, the value, the reader with what is left. -/
structure HSt (w0 : World) (db rb lo rs vb : Nat) (D V : Array Value) (l : List UInt8) (X : World) : Prop where
  hrs : X.heap[rs]? = some (.cells zcells 46 (0, 0))
  hdb : X.heap[db]? = some (.cells D 166 (0, 0))
  hvb : X.heap[vb]? = some (.cells V 46 (0, 0))
  hrd : Rd X rb lo l
  hbe : Below w0.heap.size w0 X
  o1 : db < w0.heap.size
  o2 : rs = w0.heap.size
  o3 : rs < lo
  o4 : lo ≤ rb
  o5 : rb < vb
theorem HSt.read {w0 : World} {db rb lo rs vb : Nat} {D V : Array Value} {l l' : List UInt8} {X X' : World} (h : HSt w0 db rb lo rs vb D V l X) (hg : X.grownBy X' (some rb)) (hr : Rd X' rb lo l') : HSt w0 db rb lo rs vb D V l' X' := by
  have h1 := h.o1; have h2 := h.o2; have h3 := h.o3; have h4 := h.o4; have h5 := h.o5
  have lt : ∀ {k o}, X.heap[k]? = some o → k < X.heap.size := fun e => (Array.getElem?_eq_some_iff.1 e).1
  exact ⟨(hg.block _ (lt h.hrs) (by simp; omega)).trans h.hrs, (hg.block _ (lt h.hdb) (by simp; omega)).trans h.hdb, (hg.block _ (lt h.hvb) (by simp; omega)).trans h.hvb, hr,
    ⟨hg.os.trans h.hbe.os, hg.tape.trans h.hbe.tape, hg.output.trans h.hbe.output, Nat.le_trans h.hbe.size hg.size, fun k hk => (hg.block k (by have := h.hbe.size; omega) (by simp; omega)).trans (h.hbe.block k hk)⟩, h1, h2, h3, h4, h5⟩
theorem HSt.set {w0 : World} {db rb lo rs vb : Nat} {D V : Array Value} {l : List UInt8} {X : World} (h : HSt w0 db rb lo rs vb D V l X) (i : Nat) (v : Value) : HSt w0 db rb lo rs vb D (V.setIfInBounds i v) l (X.setCell ⟨vb, i, none⟩ v) := by
  have h1 := h.o1; have h2 := h.o2; have h3 := h.o3; have h4 := h.o4; have h5 := h.o5
  exact ⟨(Below.heap_setCell _ _ _ _ (by show rs ≠ vb; omega)).trans h.hrs, (Below.heap_setCell _ _ _ _ (by show db ≠ vb; omega)).trans h.hdb, heap_setCell_same _ _ i _ _ v h.hvb,
    h.hrd.kept (fun k _ hk => Below.heap_setCell _ _ _ _ (by show k ≠ vb; omega)) h4, h.hbe.setCell (by show w0.heap.size ≤ vb; omega) _, h1, h2, h3, h4, h5⟩
theorem HSt.start {w0 w2 : World} {db rb lo rs : Nat} {D : Array Value} {l : List UInt8} (V : Array Value) (a : w2.heap[rs]? = some (.cells zcells 46 (0, 0))) (b : w2.heap[db]? = some (.cells D 166 (0, 0))) (c : Rd w2 rb lo l) (d : Below w0.heap.size w0 w2)
    (h1 : db < w0.heap.size) (h2 : rs = w0.heap.size) (h3 : rs < lo) (h4 : lo ≤ rb) (h5 : rb < w2.heap.size) : HSt w0 db rb lo rs w2.heap.size D V l (w2.alloc (.cells V 46)) := by
  have lt : ∀ {k o}, w2.heap[k]? = some o → k < w2.heap.size := fun e => (Array.getElem?_eq_some_iff.1 e).1
  exact ⟨(Below.heap_alloc _ _ _ (lt a)).trans a, (Below.heap_alloc _ _ _ (lt b)).trans b, World.alloc_heap_new w2 _, c.kept (fun k _ hk => Below.heap_alloc _ _ _ (by omega)) h4, alloc_v d _, h1, h2, h3, h4, h5⟩
theorem HSt.below {w0 : World} {db rb lo rs vb : Nat} {D V : Array Value} {l : List UInt8} {X X' : World} (h : HSt w0 db rb lo rs vb D V l X) (hb : Below X.heap.size X X') : HSt w0 db rb lo rs vb D V l X' := by
  have lt : ∀ {k o}, X.heap[k]? = some o → k < X.heap.size := fun e => (Array.getElem?_eq_some_iff.1 e).1
  exact ⟨(hb.block _ (lt h.hrs)).trans h.hrs, (hb.block _ (lt h.hdb)).trans h.hdb, (hb.block _ (lt h.hvb)).trans h.hvb, h.hrd.kept (fun k _ hk => hb.block k (by have := lt h.hvb; have := h.o5; omega)) h.o4, trans_v h.hbe hb, h.o1, h.o2, h.o3, h.o4, h.o5⟩
theorem grown_set1 (W : World) (b i : Nat) (v : Value) : W.grownBy (W.setCell ⟨b, i, none⟩ v) (some b) :=
  ⟨rfl, rfl, rfl, by simp [World.setCell], fun k _ hk => Below.heap_setCell _ _ _ _ (fun e => hk (by rw [e]))⟩
theorem grown_far {w W : World} {r : Option Nat} (h : w.grownBy W r) {b : Nat} (hb : w.heap.size ≤ b) {i : Nat} {v : Value} : w.grownBy (W.setCell ⟨b, i, none⟩ v) r :=
  ⟨h.os, h.tape, h.output, by simpa [World.setCell] using h.size, fun k hk hne => (Below.heap_setCell _ _ _ _ (by show k ≠ b; omega)).trans (h.block k hk hne)⟩
/-- What is behind: the decoder's place set, the value in the result. -/
theorem HSt.done {w0 : World} {db rb lo rs vb : Nat} {s0 p q p' : Value} {l : List UInt8} {k i m : Int} {t : ByteArray} {s : Value} {V : Array Value} {X : World} (h : HSt w0 db rb lo rs vb #[s0, p, q] V l X) :
    ((((((X.setCell ⟨db, 1, none⟩ p').setCell ⟨rs, 0, none⟩ (.int .i64 k)).setCell ⟨rs, 1, none⟩ (.int .i64 i)).setCell ⟨rs, 2, none⟩ (.int .i64 m)).setCell ⟨rs, 3, none⟩ (.string t)).setCell ⟨rs, 4, none⟩ s).heap[rs]? = some (.cells #[.int .i64 k, .int .i64 i, .int .i64 m, .string t, s] 46 (0, 0)) ∧
    ((((((X.setCell ⟨db, 1, none⟩ p').setCell ⟨rs, 0, none⟩ (.int .i64 k)).setCell ⟨rs, 1, none⟩ (.int .i64 i)).setCell ⟨rs, 2, none⟩ (.int .i64 m)).setCell ⟨rs, 3, none⟩ (.string t)).setCell ⟨rs, 4, none⟩ s).heap[db]? = some (.cells #[s0, p', q] 166 (0, 0)) ∧
    w0.grownBy ((((((X.setCell ⟨db, 1, none⟩ p').setCell ⟨rs, 0, none⟩ (.int .i64 k)).setCell ⟨rs, 1, none⟩ (.int .i64 i)).setCell ⟨rs, 2, none⟩ (.int .i64 m)).setCell ⟨rs, 3, none⟩ (.string t)).setCell ⟨rs, 4, none⟩ s) (some db) := by
  have h1 := h.o1; have h2 := h.o2
  have d1 := heap_setCell_same _ _ 1 _ _ p' h.hdb
  have r1 := (Below.heap_setCell X ⟨db, 1, none⟩ p' rs (by show rs ≠ db; omega)).trans h.hrs
  have st := stored (X.setCell ⟨db, 1, none⟩ p') (X.setCell ⟨db, 1, none⟩ p') k i m t s zcells rs
  have g2 := heap_setCell_same _ _ 0 _ _ (.int .i64 k) r1
  have g3 := heap_setCell_same _ _ 1 _ _ (.int .i64 i) g2
  have g4 := heap_setCell_same _ _ 2 _ _ (.int .i64 m) g3
  have g5 := heap_setCell_same _ _ 3 _ _ (.string t) g4
  have g6 := heap_setCell_same _ _ 4 _ _ s g5
  have nd : db ≠ rs := by omega
  refine ⟨g6, ?_, ?_⟩
  · rw [Below.heap_setCell _ _ _ _ nd, Below.heap_setCell _ _ _ _ nd, Below.heap_setCell _ _ _ _ nd, Below.heap_setCell _ _ _ _ nd, Below.heap_setCell _ _ _ _ nd]
    exact d1
  · have g0 : w0.grownBy (X.setCell ⟨db, 1, none⟩ p') (some db) := grown_more (grown_of_below h.hbe) (grown_set1 X db 1 p')
    exact grown_far (grown_far (grown_far (grown_far (grown_far g0 (by omega)) (by omega)) (by omega)) (by omega)) (by omega)
theorem left_b (w : World) (rb lo : Nat) (l : List UInt8) (h : Rd w rb lo l) :
    Calls Tryz.prog 80 #[.pointer (some ⟨rb, 0, none⟩)] w fun e w' => e = .returned (.int .i64 l.length) ∧ Below w.heap.size w w' :=
  (rLeft w rb lo l h).mono fun _ _ h => ⟨h.1, h.2 ▸ Below.refl _ _⟩
theorem grown_below2 {W w1 w2 : World} {rb : Nat} (b : Below W.heap.size W w1) (g : w1.grownBy w2 (some rb)) (h : W.heap.size ≤ rb) : Below W.heap.size W w2 :=
  ⟨g.os.trans b.os, g.tape.trans b.tape, g.output.trans b.output, Nat.le_trans b.size g.size, fun k hk => (g.block k (by have := b.size; omega) (by simp; omega)).trans (b.block k hk)⟩
theorem HSt.anyv {w0 : World} {db rb lo rs vb : Nat} {D V : Array Value} {l : List UInt8} {X : World} (_ : HSt w0 db rb lo rs vb D V l X) : Nonempty (Wv X) := Wv.any X
set_option maxRecDepth 100000 in
set_option maxHeartbeats 4000000 in
theorem head_other (w : World) (db B : Nat) (sl : Value) (l : List UInt8) (p q : Nat) (hD : DecAt w db sl p q) (hB : BytesIn w 0 B sl l) (hb : B ≤ db) (hp : p ≤ l.length) (hl : l.length ≤ 1000000000000) (k : UInt8) (r : List UInt8) (hs : seen l p = k :: r) (hk : k.toNat = 0 ∨ 7 < k.toNat) :
    Calls Tryz.prog 136 #[.pointer (some ⟨db, 0, none⟩)] w fun e w' => e = .returned (.tuple #[.agg (vcells ⟨k.toNat, 0, 0, ⟨#[]⟩, []⟩ (.slice none 0 0)), .int .u64 0]) ∧ DecAt w' db sl (p + ((seen l p).length - (r).length)) q ∧ w.grownBy w' (some db) := by
  obtain ⟨a, c, rfl, hlc, hcm, _⟩ := id hB
  obtain ⟨a1, c1, hsl, hbs⟩ := seen_slice w B a c l p hp hl hB
  have hdb : db < w.heap.size := (Array.getElem?_eq_some_iff.1 hD).1
  obtain ⟨W, hW⟩ : ∃ W, w.alloc (.cells zcells 46) = W := ⟨_, rfl⟩
  have bW : Below w.heap.size w W := by rw [← hW]; exact alloc_v (Below.refl _ _) _
  have e1 : W.heap[w.heap.size]? = some (.cells zcells 46 (0, 0)) := by rw [← hW]; exact World.alloc_heap_new w _
  have zW : W.heap.size = w.heap.size + 1 := by rw [← hW]; simp
  have e2 : W.heap[db]? = some (.cells #[.slice a l.length c, .int .i64 p, .int .i64 q] 166 (0, 0)) := (bW.block _ hdb).trans hD
  have x0 := cells_at e2 0 _ rfl
  have x1 := cells_at e2 1 _ rfl
  have hadd : IntKind.i64.wrap ((p : Int) + 139) = (p : Int) + 139 := by rw [IntKind.wrap_i64]; omega
  have HE1 := hide e1
  have HE2 := hide e2
  have HBS := hide (hbs.mono (w' := W) (fun b o _ hb' => bW.cell (p := ⟨b, o, none⟩) (by show b < _; omega)) (Nat.le_refl _) (Nat.le_refl _)).plain
  have hsz : (seen l p).length ≤ 139 := by unfold seen; simp; omega
  rw [hs] at HBS hsl hsz
  have HLN := hide (show (k :: r).length ≤ 140737488355328 by omega)
  have HR : Hid (r.length + 1 ≤ 139) := hsz
  obtain ⟨m, hm⟩ : ∃ m, (k :: r).length = m := ⟨_, rfl⟩
  have HM : Hid (m = r.length + 1) := hm.symm
  have HSL : Hid ((seen l p).length = m) := by show (seen l p).length = m; rw [hs]; exact hm
  rw [hm] at HBS hsl hsz
  have hkl := k.toNat_lt
  obtain ⟨x, hx⟩ : ∃ x : Int, (k.toNat : Int) = x := ⟨_, rfl⟩
  have hwx : wrap64 x = x := by unfold wrap64; omega
  have n1 : (x == 1) = false := beq_eq_false_iff_ne.2 (by omega)
  have n2 : (x == 2) = false := beq_eq_false_iff_ne.2 (by omega)
  have n3 : (x == 3) = false := beq_eq_false_iff_ne.2 (by omega)
  have n4 : (x == 4) = false := beq_eq_false_iff_ne.2 (by omega)
  have n5 : (x == 5) = false := beq_eq_false_iff_ne.2 (by omega)
  have n6 : (x == 6) = false := beq_eq_false_iff_ne.2 (by omega)
  have n7 : (x == 7) = false := beq_eq_false_iff_ne.2 (by omega)
  rw [hx]
  have HX := hide hx
  clear hx hk hkl
  clear e1 e2 hB hD hbs hm hs
  go_enter Tryz.func136, Tryz.ntmps136
  go_wp2
  clear hW
  go_quiet (fail)
  clear hsl x0 x1 hadd
  go_wp2_with (first
    | (go_at_call 36; refine (newReader_any (W.drewN nq) (.slice a1 m c1) (k :: r) HBS.out HLN.out).mono ?_; clear HBS HLN; rintro e w1 ⟨rb, rfl, r1, r2, r3, r4⟩; have R1 := hide (show w.heap.size + 1 ≤ rb ∧ rb < w1.heap.size ∧ Rd w1 rb (w.heap.size + 1) (k :: r) ∧ Below W.heap.size W w1 from ⟨(by rw [← zW]; exact r1), (by omega), (by rw [← zW]; exact r3), ⟨r4.os, r4.tape, r4.output, r4.size, r4.block⟩⟩); clear r1 r2 r3 r4)
    | (go_at_call 62; refine (rU8_some _ rb _ k r R1.out.2.2.1).mono ?_; rintro e w2 ⟨rfl, r2, g2⟩; rw [HX.out]; have b2 := grown_below2 R1.out.2.2.2 g2 (by have := R1.out.1; omega); have S := hide (HSt.start (w0 := w) (vcells ⟨x, 0, 0, ⟨#[]⟩, []⟩ (.slice none 0 0)) ((b2.block _ (by omega)).trans HE1.out) ((b2.block _ (by omega)).trans HE2.out) r2 (trans_v bW b2) hdb rfl (Nat.lt_succ_self _) R1.out.1 (by have := R1.out.2.1; have := g2.size; omega)); have nvd := hide (show db < w2.heap.size by have := b2.size; omega); have nvr := hide (show w.heap.size < w2.heap.size by have := b2.size; omega); clear r2 g2 b2 R1)
    | (go_at_call 159; refine (sure8 _ _).mono ?_; rintro e w3 ⟨rfl, rfl⟩))
  have hany := S.out.anyv
  have u1 := fun q : Wv _ => q.cell (cells_at S.out.hdb 1 _ rfl)
  have HLF := hide (fun q : Wv _ => left_b q.val rb _ _ (S.out.below q.below).hrd)
  obtain ⟨n, hn⟩ : ∃ n, (r).length = n := ⟨_, rfl⟩
  rw [hn] at HLF
  have hnm : n < m := by
    have h1 := HM.out
    have h2 : (r).length ≤ r.length := Nat.le_refl _
    omega
  have HN := hide hn
  clear hn
  have hm9 : m ≤ 139 := by have h1 := HM.out; have h2 := HR.out; omega
  have hsub : IntKind.i64.wrap ((m : Int) - (n : Int)) = ((m - n : Nat) : Int) := by rw [IntKind.wrap_i64]; omega
  have hadd2 : IntKind.i64.wrap ((p : Int) + ((m - n : Nat) : Int)) = ((p + (m - n) : Nat) : Int) := by rw [IntKind.wrap_i64]; omega
  generalize hd : m - n = d at *
  generalize hpd : p + d = pd at *
  have HPD := hide hpd
  have HDD := hide hd
  clear hpd hd hnm hm9
  refine wp_region_grown_tail 12 (by kernel_rfl) (by kernel_rfl) ?_
  simp only [List.take_succ_cons, List.take_zero, List.drop_succ_cons, List.drop_zero]
  repeat (go_big_quiet_step ((go_at_call 80; exact Wv.calls _ (HLF.out _))))
  refine wpQuiet_nil ?_
  intro w9 hw'
  obtain ⟨qq, rfl⟩ := hw'
  have S2 := hide (S.out.below qq.below)
  have d1 := cells_at S2.out.hdb 1 _ rfl
  have dz1 := frozen_at S2.out.hdb 1
  have v0 := cells_at S2.out.hvb 0 _ rfl
  have v1 := cells_at S2.out.hvb 1 _ rfl
  have v2 := cells_at S2.out.hvb 2 _ rfl
  have v3 := cells_at S2.out.hvb 3 _ rfl
  have v4 := cells_at S2.out.hvb 4 _ rfl
  have r0 := cells_at S2.out.hrs 0 _ rfl
  have rz0 := frozen_at S2.out.hrs 0
  have r1 := cells_at S2.out.hrs 1 _ rfl
  have rz1 := frozen_at S2.out.hrs 1
  have r2 := cells_at S2.out.hrs 2 _ rfl
  have rz2 := frozen_at S2.out.hrs 2
  have r3 := cells_at S2.out.hrs 3 _ rfl
  have rz3 := frozen_at S2.out.hrs 3
  have r4 := cells_at S2.out.hrs 4 _ rfl
  have rz4 := frozen_at S2.out.hrs 4
  have ne1 : w2.heap.size ≠ db := by have := nvd.out; omega
  have ne2 : w2.heap.size ≠ w.heap.size := by have := nvr.out; omega
  have ne3 : w.heap.size ≠ db := by omega
  clear hany u1 HLF hsub hadd2
  go_wp2
  have D := HSt.done (p' := .int .i64 pd) (k := x) (i := 0) (m := 0) (t := ⟨#[]⟩) (s := .slice none 0 0) S2.out
  refine bodyPost_ret (results_struct_tmp rfl _ _ w.heap.size _ _ _ _ rfl D.1 Tryz.underlying46 rfl infoVal5) rfl ?_
  refine ⟨rfl, ?_, D.2.2⟩
  rw [HSL.out, HN.out, HDD.out, HPD.out]
  exact D.2.1
theorem textRest_le (l : List UInt8) : (textRest l).length ≤ l.length := by
  unfold textRest
  split
  · rw [List.length_drop]; omega
  · exact Nat.le_refl _
set_option maxRecDepth 100000 in
set_option maxHeartbeats 4000000 in
theorem head_bool (w : World) (db B : Nat) (sl : Value) (l : List UInt8) (p q : Nat) (hD : DecAt w db sl p q) (hB : BytesIn w 0 B sl l) (hb : B ≤ db) (hp : p ≤ l.length) (hl : l.length ≤ 1000000000000) (k : UInt8) (r : List UInt8) (hs : seen l p = k :: r) (hk : k.toNat = 1) (y : UInt8) (r2 : List UInt8) (hr : r = y :: r2) :
    Calls Tryz.prog 136 #[.pointer (some ⟨db, 0, none⟩)] w fun e w' => e = .returned (.tuple #[.agg (vcells ⟨1, y.toNat, 0, ⟨#[]⟩, []⟩ (.slice none 0 0)), .int .u64 0]) ∧ DecAt w' db sl (p + ((seen l p).length - (r2).length)) q ∧ w.grownBy w' (some db) := by
  obtain ⟨a, c, rfl, hlc, hcm, _⟩ := id hB
  obtain ⟨a1, c1, hsl, hbs⟩ := seen_slice w B a c l p hp hl hB
  have hdb : db < w.heap.size := (Array.getElem?_eq_some_iff.1 hD).1
  obtain ⟨W, hW⟩ : ∃ W, w.alloc (.cells zcells 46) = W := ⟨_, rfl⟩
  have bW : Below w.heap.size w W := by rw [← hW]; exact alloc_v (Below.refl _ _) _
  have e1 : W.heap[w.heap.size]? = some (.cells zcells 46 (0, 0)) := by rw [← hW]; exact World.alloc_heap_new w _
  have zW : W.heap.size = w.heap.size + 1 := by rw [← hW]; simp
  have e2 : W.heap[db]? = some (.cells #[.slice a l.length c, .int .i64 p, .int .i64 q] 166 (0, 0)) := (bW.block _ hdb).trans hD
  have x0 := cells_at e2 0 _ rfl
  have x1 := cells_at e2 1 _ rfl
  have hadd : IntKind.i64.wrap ((p : Int) + 139) = (p : Int) + 139 := by rw [IntKind.wrap_i64]; omega
  have HE1 := hide e1
  have HE2 := hide e2
  have HBS := hide (hbs.mono (w' := W) (fun b o _ hb' => bW.cell (p := ⟨b, o, none⟩) (by show b < _; omega)) (Nat.le_refl _) (Nat.le_refl _)).plain
  have hsz : (seen l p).length ≤ 139 := by unfold seen; simp; omega
  rw [hs] at HBS hsl hsz
  have HLN := hide (show (k :: r).length ≤ 140737488355328 by omega)
  have HR : Hid (r.length + 1 ≤ 139) := hsz
  obtain ⟨m, hm⟩ : ∃ m, (k :: r).length = m := ⟨_, rfl⟩
  have HM : Hid (m = r.length + 1) := hm.symm
  have HSL : Hid ((seen l p).length = m) := by show (seen l p).length = m; rw [hs]; exact hm
  rw [hm] at HBS hsl hsz
  have HX : Hid ((k.toNat : Int) = 1) := by show (k.toNat : Int) = 1; omega
  clear hk
  have hyl := y.toNat_lt
  obtain ⟨z, hz⟩ : ∃ z : Int, (y.toNat : Int) = z := ⟨_, rfl⟩
  have hwz : wrap64 z = z := by unfold wrap64; omega
  rw [hz]
  have HZ := hide hz
  have HRR := hide hr
  clear hz hr hyl
  clear e1 e2 hB hD hbs hm hs
  go_enter Tryz.func136, Tryz.ntmps136
  go_wp2
  clear hW
  go_quiet (fail)
  clear hsl x0 x1 hadd
  go_wp2_with (first
    | (go_at_call 36; refine (newReader_any (W.drewN nq) (.slice a1 m c1) (k :: r) HBS.out HLN.out).mono ?_; clear HBS HLN; rintro e w1 ⟨rb, rfl, r1, r2, r3, r4⟩; have R1 := hide (show w.heap.size + 1 ≤ rb ∧ rb < w1.heap.size ∧ Rd w1 rb (w.heap.size + 1) (k :: r) ∧ Below W.heap.size W w1 from ⟨(by rw [← zW]; exact r1), (by omega), (by rw [← zW]; exact r3), ⟨r4.os, r4.tape, r4.output, r4.size, r4.block⟩⟩); clear r1 r2 r3 r4)
    | (go_at_call 62; refine (rU8_some _ rb _ k r R1.out.2.2.1).mono ?_; rintro e w2 ⟨rfl, r2, g2⟩; rw [HX.out]; have b2 := grown_below2 R1.out.2.2.2 g2 (by have := R1.out.1; omega); have S := hide (HSt.start (w0 := w) (vcells ⟨1, 0, 0, ⟨#[]⟩, []⟩ (.slice none 0 0)) ((b2.block _ (by omega)).trans HE1.out) ((b2.block _ (by omega)).trans HE2.out) r2 (trans_v bW b2) hdb rfl (Nat.lt_succ_self _) R1.out.1 (by have := R1.out.2.1; have := g2.size; omega)); have nvd := hide (show db < w2.heap.size by have := b2.size; omega); have nvr := hide (show w.heap.size < w2.heap.size by have := b2.size; omega); clear r2 g2 b2 R1)
    | (go_at_call 159; refine (sure8 _ _).mono ?_; rintro e w3 ⟨rfl, rfl⟩)
    | (go_at_call 62; refine (rU8_some _ rb _ y r2 (by rw [← HRR.out]; exact S.out.hrd)).mono ?_; rintro e w4 ⟨rfl, r4, g4⟩; rw [HZ.out]; have S4 := hide (S.out.read g4 r4); have y1 := cells_at S4.out.hvb 1 _ rfl; have q1 := frozen_at S4.out.hvb 1; clear r4 g4 S))
  have S := hide (S4.out.set 1 (.int .i64 z))
  have hany := S.out.anyv
  have u1 := fun q : Wv _ => q.cell (cells_at S.out.hdb 1 _ rfl)
  have HLF := hide (fun q : Wv _ => left_b q.val rb _ _ (S.out.below q.below).hrd)
  obtain ⟨n, hn⟩ : ∃ n, (r2).length = n := ⟨_, rfl⟩
  rw [hn] at HLF
  have hnm : n < m := by
    have h1 := HM.out
    have h2 : (r2).length ≤ r.length := by rw [HRR.out]; simp
    omega
  have HN := hide hn
  clear hn
  have hm9 : m ≤ 139 := by have h1 := HM.out; have h2 := HR.out; omega
  have hsub : IntKind.i64.wrap ((m : Int) - (n : Int)) = ((m - n : Nat) : Int) := by rw [IntKind.wrap_i64]; omega
  have hadd2 : IntKind.i64.wrap ((p : Int) + ((m - n : Nat) : Int)) = ((p + (m - n) : Nat) : Int) := by rw [IntKind.wrap_i64]; omega
  generalize hd : m - n = d at *
  generalize hpd : p + d = pd at *
  have HPD := hide hpd
  have HDD := hide hd
  clear hpd hd hnm hm9
  refine wp_region_grown_tail 12 (by kernel_rfl) (by kernel_rfl) ?_
  simp only [List.take_succ_cons, List.take_zero, List.drop_succ_cons, List.drop_zero]
  repeat (go_big_quiet_step ((go_at_call 80; exact Wv.calls _ (HLF.out _))))
  refine wpQuiet_nil ?_
  intro w9 hw'
  obtain ⟨qq, rfl⟩ := hw'
  have S2 := hide (S.out.below qq.below)
  have d1 := cells_at S2.out.hdb 1 _ rfl
  have dz1 := frozen_at S2.out.hdb 1
  have v0 := cells_at S2.out.hvb 0 _ rfl
  have v1 := cells_at S2.out.hvb 1 _ rfl
  have v2 := cells_at S2.out.hvb 2 _ rfl
  have v3 := cells_at S2.out.hvb 3 _ rfl
  have v4 := cells_at S2.out.hvb 4 _ rfl
  have r0 := cells_at S2.out.hrs 0 _ rfl
  have rz0 := frozen_at S2.out.hrs 0
  have r1 := cells_at S2.out.hrs 1 _ rfl
  have rz1 := frozen_at S2.out.hrs 1
  have r2 := cells_at S2.out.hrs 2 _ rfl
  have rz2 := frozen_at S2.out.hrs 2
  have r3 := cells_at S2.out.hrs 3 _ rfl
  have rz3 := frozen_at S2.out.hrs 3
  have r4 := cells_at S2.out.hrs 4 _ rfl
  have rz4 := frozen_at S2.out.hrs 4
  have ne1 : w2.heap.size ≠ db := by have := nvd.out; omega
  have ne2 : w2.heap.size ≠ w.heap.size := by have := nvr.out; omega
  have ne3 : w.heap.size ≠ db := by omega
  clear hany u1 HLF hsub hadd2
  go_wp2
  have D := HSt.done (p' := .int .i64 pd) (k := 1) (i := z) (m := 0) (t := ⟨#[]⟩) (s := .slice none 0 0) S2.out
  refine bodyPost_ret (results_struct_tmp rfl _ _ w.heap.size _ _ _ _ rfl D.1 Tryz.underlying46 rfl infoVal5) rfl ?_
  refine ⟨rfl, ?_, D.2.2⟩
  rw [HSL.out, HN.out, HDD.out, HPD.out]
  exact D.2.1
set_option maxRecDepth 100000 in
set_option maxHeartbeats 4000000 in
theorem head_int (w : World) (db B : Nat) (sl : Value) (l : List UInt8) (p q : Nat) (hD : DecAt w db sl p q) (hB : BytesIn w 0 B sl l) (hb : B ≤ db) (hp : p ≤ l.length) (hl : l.length ≤ 1000000000000) (k : UInt8) (r : List UInt8) (hs : seen l p = k :: r) (hk : k.toNat = 2) (hf : (front r).2.2 = 0) :
    Calls Tryz.prog 136 #[.pointer (some ⟨db, 0, none⟩)] w fun e w' => e = .returned (.tuple #[.agg (vcells ⟨2, unz (front r).1, 0, ⟨#[]⟩, []⟩ (.slice none 0 0)), .int .u64 0]) ∧ DecAt w' db sl (p + ((seen l p).length - (r.drop (front r).2.1).length)) q ∧ w.grownBy w' (some db) := by
  obtain ⟨a, c, rfl, hlc, hcm, _⟩ := id hB
  obtain ⟨a1, c1, hsl, hbs⟩ := seen_slice w B a c l p hp hl hB
  have hdb : db < w.heap.size := (Array.getElem?_eq_some_iff.1 hD).1
  obtain ⟨W, hW⟩ : ∃ W, w.alloc (.cells zcells 46) = W := ⟨_, rfl⟩
  have bW : Below w.heap.size w W := by rw [← hW]; exact alloc_v (Below.refl _ _) _
  have e1 : W.heap[w.heap.size]? = some (.cells zcells 46 (0, 0)) := by rw [← hW]; exact World.alloc_heap_new w _
  have zW : W.heap.size = w.heap.size + 1 := by rw [← hW]; simp
  have e2 : W.heap[db]? = some (.cells #[.slice a l.length c, .int .i64 p, .int .i64 q] 166 (0, 0)) := (bW.block _ hdb).trans hD
  have x0 := cells_at e2 0 _ rfl
  have x1 := cells_at e2 1 _ rfl
  have hadd : IntKind.i64.wrap ((p : Int) + 139) = (p : Int) + 139 := by rw [IntKind.wrap_i64]; omega
  have HE1 := hide e1
  have HE2 := hide e2
  have HBS := hide (hbs.mono (w' := W) (fun b o _ hb' => bW.cell (p := ⟨b, o, none⟩) (by show b < _; omega)) (Nat.le_refl _) (Nat.le_refl _)).plain
  have hsz : (seen l p).length ≤ 139 := by unfold seen; simp; omega
  rw [hs] at HBS hsl hsz
  have HLN := hide (show (k :: r).length ≤ 140737488355328 by omega)
  have HR : Hid (r.length + 1 ≤ 139) := hsz
  obtain ⟨m, hm⟩ : ∃ m, (k :: r).length = m := ⟨_, rfl⟩
  have HM : Hid (m = r.length + 1) := hm.symm
  have HSL : Hid ((seen l p).length = m) := by show (seen l p).length = m; rw [hs]; exact hm
  rw [hm] at HBS hsl hsz
  have HX : Hid ((k.toNat : Int) = 2) := by show (k.toNat : Int) = 2; omega
  clear hk
  obtain ⟨z, hz⟩ : ∃ z : Int, unz (front r).1 = z := ⟨_, rfl⟩
  rw [hz]
  have HZ := hide hz
  have HF := hide hf
  clear hz hf
  clear e1 e2 hB hD hbs hm hs
  go_enter Tryz.func136, Tryz.ntmps136
  go_wp2
  clear hW
  go_quiet (fail)
  clear hsl x0 x1 hadd
  go_wp2_with (first
    | (go_at_call 36; refine (newReader_any (W.drewN nq) (.slice a1 m c1) (k :: r) HBS.out HLN.out).mono ?_; clear HBS HLN; rintro e w1 ⟨rb, rfl, r1, r2, r3, r4⟩; have R1 := hide (show w.heap.size + 1 ≤ rb ∧ rb < w1.heap.size ∧ Rd w1 rb (w.heap.size + 1) (k :: r) ∧ Below W.heap.size W w1 from ⟨(by rw [← zW]; exact r1), (by omega), (by rw [← zW]; exact r3), ⟨r4.os, r4.tape, r4.output, r4.size, r4.block⟩⟩); clear r1 r2 r3 r4)
    | (go_at_call 62; refine (rU8_some _ rb _ k r R1.out.2.2.1).mono ?_; rintro e w2 ⟨rfl, r2, g2⟩; rw [HX.out]; have b2 := grown_below2 R1.out.2.2.2 g2 (by have := R1.out.1; omega); have S := hide (HSt.start (w0 := w) (vcells ⟨2, 0, 0, ⟨#[]⟩, []⟩ (.slice none 0 0)) ((b2.block _ (by omega)).trans HE1.out) ((b2.block _ (by omega)).trans HE2.out) r2 (trans_v bW b2) hdb rfl (Nat.lt_succ_self _) R1.out.1 (by have := R1.out.2.1; have := g2.size; omega)); have nvd := hide (show db < w2.heap.size by have := b2.size; omega); have nvr := hide (show w.heap.size < w2.heap.size by have := b2.size; omega); clear r2 g2 b2 R1)
    | (go_at_call 159; refine (sure8 _ _).mono ?_; rintro e w3 ⟨rfl, rfl⟩)
    | (go_at_call 161; refine (rVarint _ rb _ r S.out.hrd).mono ?_; rintro e w4 ⟨rfl, r4, g4⟩; rw [HZ.out, HF.out]; have S4 := hide (S.out.read g4 r4); have y1 := cells_at S4.out.hvb 1 _ rfl; have q1 := frozen_at S4.out.hvb 1; clear r4 g4 S)
    | (go_at_call 160; refine (sure64 _ _).mono ?_; rintro e w3 ⟨rfl, rfl⟩))
  have S := hide (S4.out.set 1 (.int .i64 z))
  have hany := S.out.anyv
  have u1 := fun q : Wv _ => q.cell (cells_at S.out.hdb 1 _ rfl)
  have HLF := hide (fun q : Wv _ => left_b q.val rb _ _ (S.out.below q.below).hrd)
  obtain ⟨n, hn⟩ : ∃ n, (r.drop (front r).2.1).length = n := ⟨_, rfl⟩
  rw [hn] at HLF
  have hnm : n < m := by
    have h1 := HM.out
    have h2 : (r.drop (front r).2.1).length ≤ r.length := by rw [List.length_drop]; omega
    omega
  have HN := hide hn
  clear hn
  have hm9 : m ≤ 139 := by have h1 := HM.out; have h2 := HR.out; omega
  have hsub : IntKind.i64.wrap ((m : Int) - (n : Int)) = ((m - n : Nat) : Int) := by rw [IntKind.wrap_i64]; omega
  have hadd2 : IntKind.i64.wrap ((p : Int) + ((m - n : Nat) : Int)) = ((p + (m - n) : Nat) : Int) := by rw [IntKind.wrap_i64]; omega
  generalize hd : m - n = d at *
  generalize hpd : p + d = pd at *
  have HPD := hide hpd
  have HDD := hide hd
  clear hpd hd hnm hm9
  refine wp_region_grown_tail 12 (by kernel_rfl) (by kernel_rfl) ?_
  simp only [List.take_succ_cons, List.take_zero, List.drop_succ_cons, List.drop_zero]
  repeat (go_big_quiet_step ((go_at_call 80; exact Wv.calls _ (HLF.out _))))
  refine wpQuiet_nil ?_
  intro w9 hw'
  obtain ⟨qq, rfl⟩ := hw'
  have S2 := hide (S.out.below qq.below)
  have d1 := cells_at S2.out.hdb 1 _ rfl
  have dz1 := frozen_at S2.out.hdb 1
  have v0 := cells_at S2.out.hvb 0 _ rfl
  have v1 := cells_at S2.out.hvb 1 _ rfl
  have v2 := cells_at S2.out.hvb 2 _ rfl
  have v3 := cells_at S2.out.hvb 3 _ rfl
  have v4 := cells_at S2.out.hvb 4 _ rfl
  have r0 := cells_at S2.out.hrs 0 _ rfl
  have rz0 := frozen_at S2.out.hrs 0
  have r1 := cells_at S2.out.hrs 1 _ rfl
  have rz1 := frozen_at S2.out.hrs 1
  have r2 := cells_at S2.out.hrs 2 _ rfl
  have rz2 := frozen_at S2.out.hrs 2
  have r3 := cells_at S2.out.hrs 3 _ rfl
  have rz3 := frozen_at S2.out.hrs 3
  have r4 := cells_at S2.out.hrs 4 _ rfl
  have rz4 := frozen_at S2.out.hrs 4
  have ne1 : w2.heap.size ≠ db := by have := nvd.out; omega
  have ne2 : w2.heap.size ≠ w.heap.size := by have := nvr.out; omega
  have ne3 : w.heap.size ≠ db := by omega
  clear hany u1 HLF hsub hadd2
  go_wp2
  have D := HSt.done (p' := .int .i64 pd) (k := 2) (i := z) (m := 0) (t := ⟨#[]⟩) (s := .slice none 0 0) S2.out
  refine bodyPost_ret (results_struct_tmp rfl _ _ w.heap.size _ _ _ _ rfl D.1 Tryz.underlying46 rfl infoVal5) rfl ?_
  refine ⟨rfl, ?_, D.2.2⟩
  rw [HSL.out, HN.out, HDD.out, HPD.out]
  exact D.2.1
set_option maxRecDepth 100000 in
set_option maxHeartbeats 4000000 in
theorem head_gauss (w : World) (db B : Nat) (sl : Value) (l : List UInt8) (p q : Nat) (hD : DecAt w db sl p q) (hB : BytesIn w 0 B sl l) (hb : B ≤ db) (hp : p ≤ l.length) (hl : l.length ≤ 1000000000000) (k : UInt8) (r : List UInt8) (hs : seen l p = k :: r) (hk : k.toNat = 3) (hf : (front r).2.2 = 0) (hf2 : (front (r.drop (front r).2.1)).2.2 = 0) :
    Calls Tryz.prog 136 #[.pointer (some ⟨db, 0, none⟩)] w fun e w' => e = .returned (.tuple #[.agg (vcells ⟨3, unz (front r).1, unz (front (r.drop (front r).2.1)).1, ⟨#[]⟩, []⟩ (.slice none 0 0)), .int .u64 0]) ∧ DecAt w' db sl (p + ((seen l p).length - ((r.drop (front r).2.1).drop (front (r.drop (front r).2.1)).2.1).length)) q ∧ w.grownBy w' (some db) := by
  obtain ⟨a, c, rfl, hlc, hcm, _⟩ := id hB
  obtain ⟨a1, c1, hsl, hbs⟩ := seen_slice w B a c l p hp hl hB
  have hdb : db < w.heap.size := (Array.getElem?_eq_some_iff.1 hD).1
  obtain ⟨W, hW⟩ : ∃ W, w.alloc (.cells zcells 46) = W := ⟨_, rfl⟩
  have bW : Below w.heap.size w W := by rw [← hW]; exact alloc_v (Below.refl _ _) _
  have e1 : W.heap[w.heap.size]? = some (.cells zcells 46 (0, 0)) := by rw [← hW]; exact World.alloc_heap_new w _
  have zW : W.heap.size = w.heap.size + 1 := by rw [← hW]; simp
  have e2 : W.heap[db]? = some (.cells #[.slice a l.length c, .int .i64 p, .int .i64 q] 166 (0, 0)) := (bW.block _ hdb).trans hD
  have x0 := cells_at e2 0 _ rfl
  have x1 := cells_at e2 1 _ rfl
  have hadd : IntKind.i64.wrap ((p : Int) + 139) = (p : Int) + 139 := by rw [IntKind.wrap_i64]; omega
  have HE1 := hide e1
  have HE2 := hide e2
  have HBS := hide (hbs.mono (w' := W) (fun b o _ hb' => bW.cell (p := ⟨b, o, none⟩) (by show b < _; omega)) (Nat.le_refl _) (Nat.le_refl _)).plain
  have hsz : (seen l p).length ≤ 139 := by unfold seen; simp; omega
  rw [hs] at HBS hsl hsz
  have HLN := hide (show (k :: r).length ≤ 140737488355328 by omega)
  have HR : Hid (r.length + 1 ≤ 139) := hsz
  obtain ⟨m, hm⟩ : ∃ m, (k :: r).length = m := ⟨_, rfl⟩
  have HM : Hid (m = r.length + 1) := hm.symm
  have HSL : Hid ((seen l p).length = m) := by show (seen l p).length = m; rw [hs]; exact hm
  rw [hm] at HBS hsl hsz
  have HX : Hid ((k.toNat : Int) = 3) := by show (k.toNat : Int) = 3; omega
  clear hk
  obtain ⟨z, hz⟩ : ∃ z : Int, unz (front r).1 = z := ⟨_, rfl⟩
  rw [hz]
  have HZ := hide hz
  have HF := hide hf
  clear hz hf
  obtain ⟨z2, hz2⟩ : ∃ z : Int, unz (front (r.drop (front r).2.1)).1 = z := ⟨_, rfl⟩
  rw [hz2]
  have HZ2 := hide hz2
  have HF2 := hide hf2
  clear hz2 hf2
  clear e1 e2 hB hD hbs hm hs
  go_enter Tryz.func136, Tryz.ntmps136
  go_wp2
  clear hW
  go_quiet (fail)
  clear hsl x0 x1 hadd
  go_wp2_with (first
    | (go_at_call 36; refine (newReader_any (W.drewN nq) (.slice a1 m c1) (k :: r) HBS.out HLN.out).mono ?_; clear HBS HLN; rintro e w1 ⟨rb, rfl, r1, r2, r3, r4⟩; have R1 := hide (show w.heap.size + 1 ≤ rb ∧ rb < w1.heap.size ∧ Rd w1 rb (w.heap.size + 1) (k :: r) ∧ Below W.heap.size W w1 from ⟨(by rw [← zW]; exact r1), (by omega), (by rw [← zW]; exact r3), ⟨r4.os, r4.tape, r4.output, r4.size, r4.block⟩⟩); clear r1 r2 r3 r4)
    | (go_at_call 62; refine (rU8_some _ rb _ k r R1.out.2.2.1).mono ?_; rintro e w2 ⟨rfl, r2, g2⟩; rw [HX.out]; have b2 := grown_below2 R1.out.2.2.2 g2 (by have := R1.out.1; omega); have S := hide (HSt.start (w0 := w) (vcells ⟨3, 0, 0, ⟨#[]⟩, []⟩ (.slice none 0 0)) ((b2.block _ (by omega)).trans HE1.out) ((b2.block _ (by omega)).trans HE2.out) r2 (trans_v bW b2) hdb rfl (Nat.lt_succ_self _) R1.out.1 (by have := R1.out.2.1; have := g2.size; omega)); have nvd := hide (show db < w2.heap.size by have := b2.size; omega); have nvr := hide (show w.heap.size < w2.heap.size by have := b2.size; omega); clear r2 g2 b2 R1)
    | (go_at_call 159; refine (sure8 _ _).mono ?_; rintro e w3 ⟨rfl, rfl⟩)
    | (go_at_call 161; refine (rVarint _ rb _ r S.out.hrd).mono ?_; rintro e w4 ⟨rfl, r4, g4⟩; rw [HZ.out, HF.out]; have S4 := hide (S.out.read g4 r4); have y1 := cells_at S4.out.hvb 1 _ rfl; have q1 := frozen_at S4.out.hvb 1; clear r4 g4 S)
    | (go_at_call 161; refine (rVarint _ rb _ (r.drop (front r).2.1) (S4.out.set 1 (.int .i64 z)).hrd).mono ?_; rintro e w6 ⟨rfl, r6, g6⟩; rw [HZ2.out, HF2.out]; have S6 := hide ((S4.out.set 1 (.int .i64 z)).read g6 r6); have y2 := cells_at S6.out.hvb 2 _ rfl; have q2 := frozen_at S6.out.hvb 2; clear r6 g6 S4)
    | (go_at_call 160; refine (sure64 _ _).mono ?_; rintro e w3 ⟨rfl, rfl⟩))
  have S := hide (S6.out.set 2 (.int .i64 z2))
  have hany := S.out.anyv
  have u1 := fun q : Wv _ => q.cell (cells_at S.out.hdb 1 _ rfl)
  have HLF := hide (fun q : Wv _ => left_b q.val rb _ _ (S.out.below q.below).hrd)
  obtain ⟨n, hn⟩ : ∃ n, ((r.drop (front r).2.1).drop (front (r.drop (front r).2.1)).2.1).length = n := ⟨_, rfl⟩
  rw [hn] at HLF
  have hnm : n < m := by
    have h1 := HM.out
    have h2 : ((r.drop (front r).2.1).drop (front (r.drop (front r).2.1)).2.1).length ≤ r.length := by rw [List.length_drop, List.length_drop]; omega
    omega
  have HN := hide hn
  clear hn
  have hm9 : m ≤ 139 := by have h1 := HM.out; have h2 := HR.out; omega
  have hsub : IntKind.i64.wrap ((m : Int) - (n : Int)) = ((m - n : Nat) : Int) := by rw [IntKind.wrap_i64]; omega
  have hadd2 : IntKind.i64.wrap ((p : Int) + ((m - n : Nat) : Int)) = ((p + (m - n) : Nat) : Int) := by rw [IntKind.wrap_i64]; omega
  generalize hd : m - n = d at *
  generalize hpd : p + d = pd at *
  have HPD := hide hpd
  have HDD := hide hd
  clear hpd hd hnm hm9
  refine wp_region_grown_tail 12 (by kernel_rfl) (by kernel_rfl) ?_
  simp only [List.take_succ_cons, List.take_zero, List.drop_succ_cons, List.drop_zero]
  repeat (go_big_quiet_step ((go_at_call 80; exact Wv.calls _ (HLF.out _))))
  refine wpQuiet_nil ?_
  intro w9 hw'
  obtain ⟨qq, rfl⟩ := hw'
  have S2 := hide (S.out.below qq.below)
  have d1 := cells_at S2.out.hdb 1 _ rfl
  have dz1 := frozen_at S2.out.hdb 1
  have v0 := cells_at S2.out.hvb 0 _ rfl
  have v1 := cells_at S2.out.hvb 1 _ rfl
  have v2 := cells_at S2.out.hvb 2 _ rfl
  have v3 := cells_at S2.out.hvb 3 _ rfl
  have v4 := cells_at S2.out.hvb 4 _ rfl
  have r0 := cells_at S2.out.hrs 0 _ rfl
  have rz0 := frozen_at S2.out.hrs 0
  have r1 := cells_at S2.out.hrs 1 _ rfl
  have rz1 := frozen_at S2.out.hrs 1
  have r2 := cells_at S2.out.hrs 2 _ rfl
  have rz2 := frozen_at S2.out.hrs 2
  have r3 := cells_at S2.out.hrs 3 _ rfl
  have rz3 := frozen_at S2.out.hrs 3
  have r4 := cells_at S2.out.hrs 4 _ rfl
  have rz4 := frozen_at S2.out.hrs 4
  have ne1 : w2.heap.size ≠ db := by have := nvd.out; omega
  have ne2 : w2.heap.size ≠ w.heap.size := by have := nvr.out; omega
  have ne3 : w.heap.size ≠ db := by omega
  clear hany u1 HLF hsub hadd2
  go_wp2
  have D := HSt.done (p' := .int .i64 pd) (k := 3) (i := z) (m := z2) (t := ⟨#[]⟩) (s := .slice none 0 0) S2.out
  refine bodyPost_ret (results_struct_tmp rfl _ _ w.heap.size _ _ _ _ rfl D.1 Tryz.underlying46 rfl infoVal5) rfl ?_
  refine ⟨rfl, ?_, D.2.2⟩
  rw [HSL.out, HN.out, HDD.out, HPD.out]
  exact D.2.1
set_option maxRecDepth 100000 in
set_option maxHeartbeats 4000000 in
theorem head_sym (w : World) (db B : Nat) (sl : Value) (l : List UInt8) (p q : Nat) (hD : DecAt w db sl p q) (hB : BytesIn w 0 B sl l) (hb : B ≤ db) (hp : p ≤ l.length) (hl : l.length ≤ 1000000000000) (k : UInt8) (r : List UInt8) (hs : seen l p = k :: r) (hk : k.toNat = 4) (hf : textErr r = 0) :
    Calls Tryz.prog 136 #[.pointer (some ⟨db, 0, none⟩)] w fun e w' => e = .returned (.tuple #[.agg (vcells ⟨4, 0, 0, bytesOf (textOf r), []⟩ (.slice none 0 0)), .int .u64 0]) ∧ DecAt w' db sl (p + ((seen l p).length - (textRest r).length)) q ∧ w.grownBy w' (some db) := by
  obtain ⟨a, c, rfl, hlc, hcm, _⟩ := id hB
  obtain ⟨a1, c1, hsl, hbs⟩ := seen_slice w B a c l p hp hl hB
  have hdb : db < w.heap.size := (Array.getElem?_eq_some_iff.1 hD).1
  obtain ⟨W, hW⟩ : ∃ W, w.alloc (.cells zcells 46) = W := ⟨_, rfl⟩
  have bW : Below w.heap.size w W := by rw [← hW]; exact alloc_v (Below.refl _ _) _
  have e1 : W.heap[w.heap.size]? = some (.cells zcells 46 (0, 0)) := by rw [← hW]; exact World.alloc_heap_new w _
  have zW : W.heap.size = w.heap.size + 1 := by rw [← hW]; simp
  have e2 : W.heap[db]? = some (.cells #[.slice a l.length c, .int .i64 p, .int .i64 q] 166 (0, 0)) := (bW.block _ hdb).trans hD
  have x0 := cells_at e2 0 _ rfl
  have x1 := cells_at e2 1 _ rfl
  have hadd : IntKind.i64.wrap ((p : Int) + 139) = (p : Int) + 139 := by rw [IntKind.wrap_i64]; omega
  have HE1 := hide e1
  have HE2 := hide e2
  have HBS := hide (hbs.mono (w' := W) (fun b o _ hb' => bW.cell (p := ⟨b, o, none⟩) (by show b < _; omega)) (Nat.le_refl _) (Nat.le_refl _)).plain
  have hsz : (seen l p).length ≤ 139 := by unfold seen; simp; omega
  rw [hs] at HBS hsl hsz
  have HLN := hide (show (k :: r).length ≤ 140737488355328 by omega)
  have HR : Hid (r.length + 1 ≤ 139) := hsz
  obtain ⟨m, hm⟩ : ∃ m, (k :: r).length = m := ⟨_, rfl⟩
  have HM : Hid (m = r.length + 1) := hm.symm
  have HSL : Hid ((seen l p).length = m) := by show (seen l p).length = m; rw [hs]; exact hm
  rw [hm] at HBS hsl hsz
  have HX : Hid ((k.toNat : Int) = 4) := by show (k.toNat : Int) = 4; omega
  clear hk
  obtain ⟨z, hz⟩ : ∃ z : ByteArray, bytesOf (textOf r) = z := ⟨_, rfl⟩
  rw [hz]
  have HZ := hide hz
  have HF := hide hf
  clear hz hf
  clear e1 e2 hB hD hbs hm hs
  go_enter Tryz.func136, Tryz.ntmps136
  go_wp2
  clear hW
  go_quiet (fail)
  clear hsl x0 x1 hadd
  go_wp2_with (first
    | (go_at_call 36; refine (newReader_any (W.drewN nq) (.slice a1 m c1) (k :: r) HBS.out HLN.out).mono ?_; clear HBS HLN; rintro e w1 ⟨rb, rfl, r1, r2, r3, r4⟩; have R1 := hide (show w.heap.size + 1 ≤ rb ∧ rb < w1.heap.size ∧ Rd w1 rb (w.heap.size + 1) (k :: r) ∧ Below W.heap.size W w1 from ⟨(by rw [← zW]; exact r1), (by omega), (by rw [← zW]; exact r3), ⟨r4.os, r4.tape, r4.output, r4.size, r4.block⟩⟩); clear r1 r2 r3 r4)
    | (go_at_call 62; refine (rU8_some _ rb _ k r R1.out.2.2.1).mono ?_; rintro e w2 ⟨rfl, r2, g2⟩; rw [HX.out]; have b2 := grown_below2 R1.out.2.2.2 g2 (by have := R1.out.1; omega); have S := hide (HSt.start (w0 := w) (vcells ⟨4, 0, 0, ⟨#[]⟩, []⟩ (.slice none 0 0)) ((b2.block _ (by omega)).trans HE1.out) ((b2.block _ (by omega)).trans HE2.out) r2 (trans_v bW b2) hdb rfl (Nat.lt_succ_self _) R1.out.1 (by have := R1.out.2.1; have := g2.size; omega)); have nvd := hide (show db < w2.heap.size by have := b2.size; omega); have nvr := hide (show w.heap.size < w2.heap.size by have := b2.size; omega); clear r2 g2 b2 R1)
    | (go_at_call 159; refine (sure8 _ _).mono ?_; rintro e w3 ⟨rfl, rfl⟩)
    | (go_at_call 64; refine (rText _ rb _ r S.out.hrd).mono ?_; rintro e w4 ⟨rfl, r4, g4⟩; rw [HZ.out, HF.out]; have S4 := hide (S.out.read g4 r4); have y3 := cells_at S4.out.hvb 3 _ rfl; have q3 := frozen_at S4.out.hvb 3; clear r4 g4 S)
    | (go_at_call 162; refine (sureS _ _).mono ?_; rintro e w3 ⟨rfl, rfl⟩))
  have S := hide (S4.out.set 3 (.string z))
  have hany := S.out.anyv
  have u1 := fun q : Wv _ => q.cell (cells_at S.out.hdb 1 _ rfl)
  have HLF := hide (fun q : Wv _ => left_b q.val rb _ _ (S.out.below q.below).hrd)
  obtain ⟨n, hn⟩ : ∃ n, (textRest r).length = n := ⟨_, rfl⟩
  rw [hn] at HLF
  have hnm : n < m := by
    have h1 := HM.out
    have h2 : (textRest r).length ≤ r.length := textRest_le r
    omega
  have HN := hide hn
  clear hn
  have hm9 : m ≤ 139 := by have h1 := HM.out; have h2 := HR.out; omega
  have hsub : IntKind.i64.wrap ((m : Int) - (n : Int)) = ((m - n : Nat) : Int) := by rw [IntKind.wrap_i64]; omega
  have hadd2 : IntKind.i64.wrap ((p : Int) + ((m - n : Nat) : Int)) = ((p + (m - n) : Nat) : Int) := by rw [IntKind.wrap_i64]; omega
  generalize hd : m - n = d at *
  generalize hpd : p + d = pd at *
  have HPD := hide hpd
  have HDD := hide hd
  clear hpd hd hnm hm9
  refine wp_region_grown_tail 12 (by kernel_rfl) (by kernel_rfl) ?_
  simp only [List.take_succ_cons, List.take_zero, List.drop_succ_cons, List.drop_zero]
  repeat (go_big_quiet_step ((go_at_call 80; exact Wv.calls _ (HLF.out _))))
  refine wpQuiet_nil ?_
  intro w9 hw'
  obtain ⟨qq, rfl⟩ := hw'
  have S2 := hide (S.out.below qq.below)
  have d1 := cells_at S2.out.hdb 1 _ rfl
  have dz1 := frozen_at S2.out.hdb 1
  have v0 := cells_at S2.out.hvb 0 _ rfl
  have v1 := cells_at S2.out.hvb 1 _ rfl
  have v2 := cells_at S2.out.hvb 2 _ rfl
  have v3 := cells_at S2.out.hvb 3 _ rfl
  have v4 := cells_at S2.out.hvb 4 _ rfl
  have r0 := cells_at S2.out.hrs 0 _ rfl
  have rz0 := frozen_at S2.out.hrs 0
  have r1 := cells_at S2.out.hrs 1 _ rfl
  have rz1 := frozen_at S2.out.hrs 1
  have r2 := cells_at S2.out.hrs 2 _ rfl
  have rz2 := frozen_at S2.out.hrs 2
  have r3 := cells_at S2.out.hrs 3 _ rfl
  have rz3 := frozen_at S2.out.hrs 3
  have r4 := cells_at S2.out.hrs 4 _ rfl
  have rz4 := frozen_at S2.out.hrs 4
  have ne1 : w2.heap.size ≠ db := by have := nvd.out; omega
  have ne2 : w2.heap.size ≠ w.heap.size := by have := nvr.out; omega
  have ne3 : w.heap.size ≠ db := by omega
  clear hany u1 HLF hsub hadd2
  go_wp2
  have D := HSt.done (p' := .int .i64 pd) (k := 4) (i := 0) (m := 0) (t := z) (s := .slice none 0 0) S2.out
  refine bodyPost_ret (results_struct_tmp rfl _ _ w.heap.size _ _ _ _ rfl D.1 Tryz.underlying46 rfl infoVal5) rfl ?_
  refine ⟨rfl, ?_, D.2.2⟩
  rw [HSL.out, HN.out, HDD.out, HPD.out]
  exact D.2.1
set_option maxRecDepth 100000 in
set_option maxHeartbeats 4000000 in
theorem head_items5 (w : World) (db B : Nat) (sl : Value) (l : List UInt8) (p q : Nat) (hD : DecAt w db sl p q) (hB : BytesIn w 0 B sl l) (hb : B ≤ db) (hp : p ≤ l.length) (hl : l.length ≤ 1000000000000) (k : UInt8) (r : List UInt8) (hs : seen l p = k :: r) (hk : k.toNat = 5) (hf : (front r).2.2 = 0) :
    Calls Tryz.prog 136 #[.pointer (some ⟨db, 0, none⟩)] w fun e w' => e = .returned (.tuple #[.agg (vcells ⟨5, 0, 0, ⟨#[]⟩, []⟩ (.slice none 0 0)), .int .u64 (front r).1]) ∧ DecAt w' db sl (p + ((seen l p).length - (r.drop (front r).2.1).length)) q ∧ w.grownBy w' (some db) := by
  obtain ⟨a, c, rfl, hlc, hcm, _⟩ := id hB
  obtain ⟨a1, c1, hsl, hbs⟩ := seen_slice w B a c l p hp hl hB
  have hdb : db < w.heap.size := (Array.getElem?_eq_some_iff.1 hD).1
  obtain ⟨W, hW⟩ : ∃ W, w.alloc (.cells zcells 46) = W := ⟨_, rfl⟩
  have bW : Below w.heap.size w W := by rw [← hW]; exact alloc_v (Below.refl _ _) _
  have e1 : W.heap[w.heap.size]? = some (.cells zcells 46 (0, 0)) := by rw [← hW]; exact World.alloc_heap_new w _
  have zW : W.heap.size = w.heap.size + 1 := by rw [← hW]; simp
  have e2 : W.heap[db]? = some (.cells #[.slice a l.length c, .int .i64 p, .int .i64 q] 166 (0, 0)) := (bW.block _ hdb).trans hD
  have x0 := cells_at e2 0 _ rfl
  have x1 := cells_at e2 1 _ rfl
  have hadd : IntKind.i64.wrap ((p : Int) + 139) = (p : Int) + 139 := by rw [IntKind.wrap_i64]; omega
  have HE1 := hide e1
  have HE2 := hide e2
  have HBS := hide (hbs.mono (w' := W) (fun b o _ hb' => bW.cell (p := ⟨b, o, none⟩) (by show b < _; omega)) (Nat.le_refl _) (Nat.le_refl _)).plain
  have hsz : (seen l p).length ≤ 139 := by unfold seen; simp; omega
  rw [hs] at HBS hsl hsz
  have HLN := hide (show (k :: r).length ≤ 140737488355328 by omega)
  have HR : Hid (r.length + 1 ≤ 139) := hsz
  obtain ⟨m, hm⟩ : ∃ m, (k :: r).length = m := ⟨_, rfl⟩
  have HM : Hid (m = r.length + 1) := hm.symm
  have HSL : Hid ((seen l p).length = m) := by show (seen l p).length = m; rw [hs]; exact hm
  rw [hm] at HBS hsl hsz
  have HX : Hid ((k.toNat : Int) = 5) := by show (k.toNat : Int) = 5; omega
  clear hk
  obtain ⟨z, hz⟩ : ∃ z : Nat, (front r).1 = z := ⟨_, rfl⟩
  rw [hz]
  have HZ := hide hz
  have HF := hide hf
  clear hz hf
  clear e1 e2 hB hD hbs hm hs
  go_enter Tryz.func136, Tryz.ntmps136
  go_wp2
  clear hW
  go_quiet (fail)
  clear hsl x0 x1 hadd
  go_wp2_with (first
    | (go_at_call 36; refine (newReader_any (W.drewN nq) (.slice a1 m c1) (k :: r) HBS.out HLN.out).mono ?_; clear HBS HLN; rintro e w1 ⟨rb, rfl, r1, r2, r3, r4⟩; have R1 := hide (show w.heap.size + 1 ≤ rb ∧ rb < w1.heap.size ∧ Rd w1 rb (w.heap.size + 1) (k :: r) ∧ Below W.heap.size W w1 from ⟨(by rw [← zW]; exact r1), (by omega), (by rw [← zW]; exact r3), ⟨r4.os, r4.tape, r4.output, r4.size, r4.block⟩⟩); clear r1 r2 r3 r4)
    | (go_at_call 62; refine (rU8_some _ rb _ k r R1.out.2.2.1).mono ?_; rintro e w2 ⟨rfl, r2, g2⟩; rw [HX.out]; have b2 := grown_below2 R1.out.2.2.2 g2 (by have := R1.out.1; omega); have S := hide (HSt.start (w0 := w) (vcells ⟨5, 0, 0, ⟨#[]⟩, []⟩ (.slice none 0 0)) ((b2.block _ (by omega)).trans HE1.out) ((b2.block _ (by omega)).trans HE2.out) r2 (trans_v bW b2) hdb rfl (Nat.lt_succ_self _) R1.out.1 (by have := R1.out.2.1; have := g2.size; omega)); have nvd := hide (show db < w2.heap.size by have := b2.size; omega); have nvr := hide (show w.heap.size < w2.heap.size by have := b2.size; omega); clear r2 g2 b2 R1)
    | (go_at_call 159; refine (sure8 _ _).mono ?_; rintro e w3 ⟨rfl, rfl⟩)
    | (go_at_call 38; refine (rUvarint _ rb _ r S.out.hrd).mono ?_; rintro e w4 ⟨rfl, r4, g4⟩; rw [HZ.out, HF.out]; have S4 := hide (S.out.read g4 r4); clear r4 g4 S)
    | (go_at_call 163; refine (sureU _ _).mono ?_; rintro e w3 ⟨rfl, rfl⟩))
  have S := S4
  have hany := S.out.anyv
  have u1 := fun q : Wv _ => q.cell (cells_at S.out.hdb 1 _ rfl)
  have HLF := hide (fun q : Wv _ => left_b q.val rb _ _ (S.out.below q.below).hrd)
  obtain ⟨n, hn⟩ : ∃ n, (r.drop (front r).2.1).length = n := ⟨_, rfl⟩
  rw [hn] at HLF
  have hnm : n < m := by
    have h1 := HM.out
    have h2 : (r.drop (front r).2.1).length ≤ r.length := by rw [List.length_drop]; omega
    omega
  have HN := hide hn
  clear hn
  have hm9 : m ≤ 139 := by have h1 := HM.out; have h2 := HR.out; omega
  have hsub : IntKind.i64.wrap ((m : Int) - (n : Int)) = ((m - n : Nat) : Int) := by rw [IntKind.wrap_i64]; omega
  have hadd2 : IntKind.i64.wrap ((p : Int) + ((m - n : Nat) : Int)) = ((p + (m - n) : Nat) : Int) := by rw [IntKind.wrap_i64]; omega
  generalize hd : m - n = d at *
  generalize hpd : p + d = pd at *
  have HPD := hide hpd
  have HDD := hide hd
  clear hpd hd hnm hm9
  refine wp_region_grown_tail 12 (by kernel_rfl) (by kernel_rfl) ?_
  simp only [List.take_succ_cons, List.take_zero, List.drop_succ_cons, List.drop_zero]
  repeat (go_big_quiet_step ((go_at_call 80; exact Wv.calls _ (HLF.out _))))
  refine wpQuiet_nil ?_
  intro w9 hw'
  obtain ⟨qq, rfl⟩ := hw'
  have S2 := hide (S.out.below qq.below)
  have d1 := cells_at S2.out.hdb 1 _ rfl
  have dz1 := frozen_at S2.out.hdb 1
  have v0 := cells_at S2.out.hvb 0 _ rfl
  have v1 := cells_at S2.out.hvb 1 _ rfl
  have v2 := cells_at S2.out.hvb 2 _ rfl
  have v3 := cells_at S2.out.hvb 3 _ rfl
  have v4 := cells_at S2.out.hvb 4 _ rfl
  have r0 := cells_at S2.out.hrs 0 _ rfl
  have rz0 := frozen_at S2.out.hrs 0
  have r1 := cells_at S2.out.hrs 1 _ rfl
  have rz1 := frozen_at S2.out.hrs 1
  have r2 := cells_at S2.out.hrs 2 _ rfl
  have rz2 := frozen_at S2.out.hrs 2
  have r3 := cells_at S2.out.hrs 3 _ rfl
  have rz3 := frozen_at S2.out.hrs 3
  have r4 := cells_at S2.out.hrs 4 _ rfl
  have rz4 := frozen_at S2.out.hrs 4
  have ne1 : w2.heap.size ≠ db := by have := nvd.out; omega
  have ne2 : w2.heap.size ≠ w.heap.size := by have := nvr.out; omega
  have ne3 : w.heap.size ≠ db := by omega
  clear hany u1 HLF hsub hadd2
  go_wp2
  have D := HSt.done (p' := .int .i64 pd) (k := 5) (i := 0) (m := 0) (t := ⟨#[]⟩) (s := .slice none 0 0) S2.out
  refine bodyPost_ret (results_struct_tmp rfl _ _ w.heap.size _ _ _ _ rfl D.1 Tryz.underlying46 rfl infoVal5) rfl ?_
  refine ⟨rfl, ?_, D.2.2⟩
  rw [HSL.out, HN.out, HDD.out, HPD.out]
  exact D.2.1
set_option maxRecDepth 100000 in
set_option maxHeartbeats 4000000 in
theorem head_items6 (w : World) (db B : Nat) (sl : Value) (l : List UInt8) (p q : Nat) (hD : DecAt w db sl p q) (hB : BytesIn w 0 B sl l) (hb : B ≤ db) (hp : p ≤ l.length) (hl : l.length ≤ 1000000000000) (k : UInt8) (r : List UInt8) (hs : seen l p = k :: r) (hk : k.toNat = 6) (hf : (front r).2.2 = 0) :
    Calls Tryz.prog 136 #[.pointer (some ⟨db, 0, none⟩)] w fun e w' => e = .returned (.tuple #[.agg (vcells ⟨6, 0, 0, ⟨#[]⟩, []⟩ (.slice none 0 0)), .int .u64 (front r).1]) ∧ DecAt w' db sl (p + ((seen l p).length - (r.drop (front r).2.1).length)) q ∧ w.grownBy w' (some db) := by
  obtain ⟨a, c, rfl, hlc, hcm, _⟩ := id hB
  obtain ⟨a1, c1, hsl, hbs⟩ := seen_slice w B a c l p hp hl hB
  have hdb : db < w.heap.size := (Array.getElem?_eq_some_iff.1 hD).1
  obtain ⟨W, hW⟩ : ∃ W, w.alloc (.cells zcells 46) = W := ⟨_, rfl⟩
  have bW : Below w.heap.size w W := by rw [← hW]; exact alloc_v (Below.refl _ _) _
  have e1 : W.heap[w.heap.size]? = some (.cells zcells 46 (0, 0)) := by rw [← hW]; exact World.alloc_heap_new w _
  have zW : W.heap.size = w.heap.size + 1 := by rw [← hW]; simp
  have e2 : W.heap[db]? = some (.cells #[.slice a l.length c, .int .i64 p, .int .i64 q] 166 (0, 0)) := (bW.block _ hdb).trans hD
  have x0 := cells_at e2 0 _ rfl
  have x1 := cells_at e2 1 _ rfl
  have hadd : IntKind.i64.wrap ((p : Int) + 139) = (p : Int) + 139 := by rw [IntKind.wrap_i64]; omega
  have HE1 := hide e1
  have HE2 := hide e2
  have HBS := hide (hbs.mono (w' := W) (fun b o _ hb' => bW.cell (p := ⟨b, o, none⟩) (by show b < _; omega)) (Nat.le_refl _) (Nat.le_refl _)).plain
  have hsz : (seen l p).length ≤ 139 := by unfold seen; simp; omega
  rw [hs] at HBS hsl hsz
  have HLN := hide (show (k :: r).length ≤ 140737488355328 by omega)
  have HR : Hid (r.length + 1 ≤ 139) := hsz
  obtain ⟨m, hm⟩ : ∃ m, (k :: r).length = m := ⟨_, rfl⟩
  have HM : Hid (m = r.length + 1) := hm.symm
  have HSL : Hid ((seen l p).length = m) := by show (seen l p).length = m; rw [hs]; exact hm
  rw [hm] at HBS hsl hsz
  have HX : Hid ((k.toNat : Int) = 6) := by show (k.toNat : Int) = 6; omega
  clear hk
  obtain ⟨z, hz⟩ : ∃ z : Nat, (front r).1 = z := ⟨_, rfl⟩
  rw [hz]
  have HZ := hide hz
  have HF := hide hf
  clear hz hf
  clear e1 e2 hB hD hbs hm hs
  go_enter Tryz.func136, Tryz.ntmps136
  go_wp2
  clear hW
  go_quiet (fail)
  clear hsl x0 x1 hadd
  go_wp2_with (first
    | (go_at_call 36; refine (newReader_any (W.drewN nq) (.slice a1 m c1) (k :: r) HBS.out HLN.out).mono ?_; clear HBS HLN; rintro e w1 ⟨rb, rfl, r1, r2, r3, r4⟩; have R1 := hide (show w.heap.size + 1 ≤ rb ∧ rb < w1.heap.size ∧ Rd w1 rb (w.heap.size + 1) (k :: r) ∧ Below W.heap.size W w1 from ⟨(by rw [← zW]; exact r1), (by omega), (by rw [← zW]; exact r3), ⟨r4.os, r4.tape, r4.output, r4.size, r4.block⟩⟩); clear r1 r2 r3 r4)
    | (go_at_call 62; refine (rU8_some _ rb _ k r R1.out.2.2.1).mono ?_; rintro e w2 ⟨rfl, r2, g2⟩; rw [HX.out]; have b2 := grown_below2 R1.out.2.2.2 g2 (by have := R1.out.1; omega); have S := hide (HSt.start (w0 := w) (vcells ⟨6, 0, 0, ⟨#[]⟩, []⟩ (.slice none 0 0)) ((b2.block _ (by omega)).trans HE1.out) ((b2.block _ (by omega)).trans HE2.out) r2 (trans_v bW b2) hdb rfl (Nat.lt_succ_self _) R1.out.1 (by have := R1.out.2.1; have := g2.size; omega)); have nvd := hide (show db < w2.heap.size by have := b2.size; omega); have nvr := hide (show w.heap.size < w2.heap.size by have := b2.size; omega); clear r2 g2 b2 R1)
    | (go_at_call 159; refine (sure8 _ _).mono ?_; rintro e w3 ⟨rfl, rfl⟩)
    | (go_at_call 38; refine (rUvarint _ rb _ r S.out.hrd).mono ?_; rintro e w4 ⟨rfl, r4, g4⟩; rw [HZ.out, HF.out]; have S4 := hide (S.out.read g4 r4); clear r4 g4 S)
    | (go_at_call 163; refine (sureU _ _).mono ?_; rintro e w3 ⟨rfl, rfl⟩))
  have S := S4
  have hany := S.out.anyv
  have u1 := fun q : Wv _ => q.cell (cells_at S.out.hdb 1 _ rfl)
  have HLF := hide (fun q : Wv _ => left_b q.val rb _ _ (S.out.below q.below).hrd)
  obtain ⟨n, hn⟩ : ∃ n, (r.drop (front r).2.1).length = n := ⟨_, rfl⟩
  rw [hn] at HLF
  have hnm : n < m := by
    have h1 := HM.out
    have h2 : (r.drop (front r).2.1).length ≤ r.length := by rw [List.length_drop]; omega
    omega
  have HN := hide hn
  clear hn
  have hm9 : m ≤ 139 := by have h1 := HM.out; have h2 := HR.out; omega
  have hsub : IntKind.i64.wrap ((m : Int) - (n : Int)) = ((m - n : Nat) : Int) := by rw [IntKind.wrap_i64]; omega
  have hadd2 : IntKind.i64.wrap ((p : Int) + ((m - n : Nat) : Int)) = ((p + (m - n) : Nat) : Int) := by rw [IntKind.wrap_i64]; omega
  generalize hd : m - n = d at *
  generalize hpd : p + d = pd at *
  have HPD := hide hpd
  have HDD := hide hd
  clear hpd hd hnm hm9
  refine wp_region_grown_tail 12 (by kernel_rfl) (by kernel_rfl) ?_
  simp only [List.take_succ_cons, List.take_zero, List.drop_succ_cons, List.drop_zero]
  repeat (go_big_quiet_step ((go_at_call 80; exact Wv.calls _ (HLF.out _))))
  refine wpQuiet_nil ?_
  intro w9 hw'
  obtain ⟨qq, rfl⟩ := hw'
  have S2 := hide (S.out.below qq.below)
  have d1 := cells_at S2.out.hdb 1 _ rfl
  have dz1 := frozen_at S2.out.hdb 1
  have v0 := cells_at S2.out.hvb 0 _ rfl
  have v1 := cells_at S2.out.hvb 1 _ rfl
  have v2 := cells_at S2.out.hvb 2 _ rfl
  have v3 := cells_at S2.out.hvb 3 _ rfl
  have v4 := cells_at S2.out.hvb 4 _ rfl
  have r0 := cells_at S2.out.hrs 0 _ rfl
  have rz0 := frozen_at S2.out.hrs 0
  have r1 := cells_at S2.out.hrs 1 _ rfl
  have rz1 := frozen_at S2.out.hrs 1
  have r2 := cells_at S2.out.hrs 2 _ rfl
  have rz2 := frozen_at S2.out.hrs 2
  have r3 := cells_at S2.out.hrs 3 _ rfl
  have rz3 := frozen_at S2.out.hrs 3
  have r4 := cells_at S2.out.hrs 4 _ rfl
  have rz4 := frozen_at S2.out.hrs 4
  have ne1 : w2.heap.size ≠ db := by have := nvd.out; omega
  have ne2 : w2.heap.size ≠ w.heap.size := by have := nvr.out; omega
  have ne3 : w.heap.size ≠ db := by omega
  clear hany u1 HLF hsub hadd2
  go_wp2
  have D := HSt.done (p' := .int .i64 pd) (k := 6) (i := 0) (m := 0) (t := ⟨#[]⟩) (s := .slice none 0 0) S2.out
  refine bodyPost_ret (results_struct_tmp rfl _ _ w.heap.size _ _ _ _ rfl D.1 Tryz.underlying46 rfl infoVal5) rfl ?_
  refine ⟨rfl, ?_, D.2.2⟩
  rw [HSL.out, HN.out, HDD.out, HPD.out]
  exact D.2.1
set_option maxRecDepth 100000 in
set_option maxHeartbeats 4000000 in
theorem head_items7 (w : World) (db B : Nat) (sl : Value) (l : List UInt8) (p q : Nat) (hD : DecAt w db sl p q) (hB : BytesIn w 0 B sl l) (hb : B ≤ db) (hp : p ≤ l.length) (hl : l.length ≤ 1000000000000) (k : UInt8) (r : List UInt8) (hs : seen l p = k :: r) (hk : k.toNat = 7) (hf : (front r).2.2 = 0) :
    Calls Tryz.prog 136 #[.pointer (some ⟨db, 0, none⟩)] w fun e w' => e = .returned (.tuple #[.agg (vcells ⟨7, 0, 0, ⟨#[]⟩, []⟩ (.slice none 0 0)), .int .u64 (front r).1]) ∧ DecAt w' db sl (p + ((seen l p).length - (r.drop (front r).2.1).length)) q ∧ w.grownBy w' (some db) := by
  obtain ⟨a, c, rfl, hlc, hcm, _⟩ := id hB
  obtain ⟨a1, c1, hsl, hbs⟩ := seen_slice w B a c l p hp hl hB
  have hdb : db < w.heap.size := (Array.getElem?_eq_some_iff.1 hD).1
  obtain ⟨W, hW⟩ : ∃ W, w.alloc (.cells zcells 46) = W := ⟨_, rfl⟩
  have bW : Below w.heap.size w W := by rw [← hW]; exact alloc_v (Below.refl _ _) _
  have e1 : W.heap[w.heap.size]? = some (.cells zcells 46 (0, 0)) := by rw [← hW]; exact World.alloc_heap_new w _
  have zW : W.heap.size = w.heap.size + 1 := by rw [← hW]; simp
  have e2 : W.heap[db]? = some (.cells #[.slice a l.length c, .int .i64 p, .int .i64 q] 166 (0, 0)) := (bW.block _ hdb).trans hD
  have x0 := cells_at e2 0 _ rfl
  have x1 := cells_at e2 1 _ rfl
  have hadd : IntKind.i64.wrap ((p : Int) + 139) = (p : Int) + 139 := by rw [IntKind.wrap_i64]; omega
  have HE1 := hide e1
  have HE2 := hide e2
  have HBS := hide (hbs.mono (w' := W) (fun b o _ hb' => bW.cell (p := ⟨b, o, none⟩) (by show b < _; omega)) (Nat.le_refl _) (Nat.le_refl _)).plain
  have hsz : (seen l p).length ≤ 139 := by unfold seen; simp; omega
  rw [hs] at HBS hsl hsz
  have HLN := hide (show (k :: r).length ≤ 140737488355328 by omega)
  have HR : Hid (r.length + 1 ≤ 139) := hsz
  obtain ⟨m, hm⟩ : ∃ m, (k :: r).length = m := ⟨_, rfl⟩
  have HM : Hid (m = r.length + 1) := hm.symm
  have HSL : Hid ((seen l p).length = m) := by show (seen l p).length = m; rw [hs]; exact hm
  rw [hm] at HBS hsl hsz
  have HX : Hid ((k.toNat : Int) = 7) := by show (k.toNat : Int) = 7; omega
  clear hk
  obtain ⟨z, hz⟩ : ∃ z : Nat, (front r).1 = z := ⟨_, rfl⟩
  rw [hz]
  have HZ := hide hz
  have HF := hide hf
  clear hz hf
  clear e1 e2 hB hD hbs hm hs
  go_enter Tryz.func136, Tryz.ntmps136
  go_wp2
  clear hW
  go_quiet (fail)
  clear hsl x0 x1 hadd
  go_wp2_with (first
    | (go_at_call 36; refine (newReader_any (W.drewN nq) (.slice a1 m c1) (k :: r) HBS.out HLN.out).mono ?_; clear HBS HLN; rintro e w1 ⟨rb, rfl, r1, r2, r3, r4⟩; have R1 := hide (show w.heap.size + 1 ≤ rb ∧ rb < w1.heap.size ∧ Rd w1 rb (w.heap.size + 1) (k :: r) ∧ Below W.heap.size W w1 from ⟨(by rw [← zW]; exact r1), (by omega), (by rw [← zW]; exact r3), ⟨r4.os, r4.tape, r4.output, r4.size, r4.block⟩⟩); clear r1 r2 r3 r4)
    | (go_at_call 62; refine (rU8_some _ rb _ k r R1.out.2.2.1).mono ?_; rintro e w2 ⟨rfl, r2, g2⟩; rw [HX.out]; have b2 := grown_below2 R1.out.2.2.2 g2 (by have := R1.out.1; omega); have S := hide (HSt.start (w0 := w) (vcells ⟨7, 0, 0, ⟨#[]⟩, []⟩ (.slice none 0 0)) ((b2.block _ (by omega)).trans HE1.out) ((b2.block _ (by omega)).trans HE2.out) r2 (trans_v bW b2) hdb rfl (Nat.lt_succ_self _) R1.out.1 (by have := R1.out.2.1; have := g2.size; omega)); have nvd := hide (show db < w2.heap.size by have := b2.size; omega); have nvr := hide (show w.heap.size < w2.heap.size by have := b2.size; omega); clear r2 g2 b2 R1)
    | (go_at_call 159; refine (sure8 _ _).mono ?_; rintro e w3 ⟨rfl, rfl⟩)
    | (go_at_call 38; refine (rUvarint _ rb _ r S.out.hrd).mono ?_; rintro e w4 ⟨rfl, r4, g4⟩; rw [HZ.out, HF.out]; have S4 := hide (S.out.read g4 r4); clear r4 g4 S)
    | (go_at_call 163; refine (sureU _ _).mono ?_; rintro e w3 ⟨rfl, rfl⟩))
  have S := S4
  have hany := S.out.anyv
  have u1 := fun q : Wv _ => q.cell (cells_at S.out.hdb 1 _ rfl)
  have HLF := hide (fun q : Wv _ => left_b q.val rb _ _ (S.out.below q.below).hrd)
  obtain ⟨n, hn⟩ : ∃ n, (r.drop (front r).2.1).length = n := ⟨_, rfl⟩
  rw [hn] at HLF
  have hnm : n < m := by
    have h1 := HM.out
    have h2 : (r.drop (front r).2.1).length ≤ r.length := by rw [List.length_drop]; omega
    omega
  have HN := hide hn
  clear hn
  have hm9 : m ≤ 139 := by have h1 := HM.out; have h2 := HR.out; omega
  have hsub : IntKind.i64.wrap ((m : Int) - (n : Int)) = ((m - n : Nat) : Int) := by rw [IntKind.wrap_i64]; omega
  have hadd2 : IntKind.i64.wrap ((p : Int) + ((m - n : Nat) : Int)) = ((p + (m - n) : Nat) : Int) := by rw [IntKind.wrap_i64]; omega
  generalize hd : m - n = d at *
  generalize hpd : p + d = pd at *
  have HPD := hide hpd
  have HDD := hide hd
  clear hpd hd hnm hm9
  refine wp_region_grown_tail 12 (by kernel_rfl) (by kernel_rfl) ?_
  simp only [List.take_succ_cons, List.take_zero, List.drop_succ_cons, List.drop_zero]
  repeat (go_big_quiet_step ((go_at_call 80; exact Wv.calls _ (HLF.out _))))
  refine wpQuiet_nil ?_
  intro w9 hw'
  obtain ⟨qq, rfl⟩ := hw'
  have S2 := hide (S.out.below qq.below)
  have d1 := cells_at S2.out.hdb 1 _ rfl
  have dz1 := frozen_at S2.out.hdb 1
  have v0 := cells_at S2.out.hvb 0 _ rfl
  have v1 := cells_at S2.out.hvb 1 _ rfl
  have v2 := cells_at S2.out.hvb 2 _ rfl
  have v3 := cells_at S2.out.hvb 3 _ rfl
  have v4 := cells_at S2.out.hvb 4 _ rfl
  have r0 := cells_at S2.out.hrs 0 _ rfl
  have rz0 := frozen_at S2.out.hrs 0
  have r1 := cells_at S2.out.hrs 1 _ rfl
  have rz1 := frozen_at S2.out.hrs 1
  have r2 := cells_at S2.out.hrs 2 _ rfl
  have rz2 := frozen_at S2.out.hrs 2
  have r3 := cells_at S2.out.hrs 3 _ rfl
  have rz3 := frozen_at S2.out.hrs 3
  have r4 := cells_at S2.out.hrs 4 _ rfl
  have rz4 := frozen_at S2.out.hrs 4
  have ne1 : w2.heap.size ≠ db := by have := nvd.out; omega
  have ne2 : w2.heap.size ≠ w.heap.size := by have := nvr.out; omega
  have ne3 : w.heap.size ≠ db := by omega
  clear hany u1 HLF hsub hadd2
  go_wp2
  have D := HSt.done (p' := .int .i64 pd) (k := 7) (i := 0) (m := 0) (t := ⟨#[]⟩) (s := .slice none 0 0) S2.out
  refine bodyPost_ret (results_struct_tmp rfl _ _ w.heap.size _ _ _ _ rfl D.1 Tryz.underlying46 rfl infoVal5) rfl ?_
  refine ⟨rfl, ?_, D.2.2⟩
  rw [HSL.out, HN.out, HDD.out, HPD.out]
  exact D.2.1
end Go.Proofs.YthmhcpghfbifiaaGreatDoor
