/- roll: names numbered in the order in which they come first. -/
import Derived.Test.YtnmkggoampkekaaGreatDoorGHBase
import Derived.Test.YtnmkggoampkekaaGreatDoorGSetM
import Derived.Maps.OwnOps
import Derived.Deep.QuietTactic
import Derived.BigQuiet
import Derived.BigRegion
namespace Go.Proofs.YtnmkggoampkekaaGreatDoor
open Go.RowKit Go.Maps

/-- All that is not among some blocks stays. -/
structure Keeps (M : Nat → Prop) (w w' : World) : Prop where
  os : w'.os = w.os
  tape : w'.tape = w.tape
  output : w'.output = w.output
  size : w.heap.size ≤ w'.heap.size
  block : ∀ k, k < w.heap.size → ¬ M k → w'.heap[k]? = w.heap[k]?
theorem Keeps.refl (M : Nat → Prop) (w : World) : Keeps M w w := ⟨rfl, rfl, rfl, Nat.le_refl _, fun _ _ _ => rfl⟩
theorem Keeps.trans {M M' : Nat → Prop} {u v w : World} (h : Keeps M u v) (k : Keeps M' v w) (hM : ∀ x, x < u.heap.size → M' x → M x) : Keeps M u w :=
  ⟨k.os.trans h.os, k.tape.trans h.tape, k.output.trans h.output, Nat.le_trans h.size k.size, fun x hx hn => (k.block x (Nat.lt_of_lt_of_le hx h.size) (fun hm => hn (hM x hx hm))).trans (h.block x hx hn)⟩
theorem Keeps.mono {M M' : Nat → Prop} {v w : World} (h : Keeps M v w) (hM : ∀ x, x < v.heap.size → M x → M' x) : Keeps M' v w := ⟨h.os, h.tape, h.output, h.size, fun x hx hn => h.block x hx (fun hm => hn (hM x hx hm))⟩
theorem Keeps.grown {M : Nat → Prop} {w w' : World} {row : Option Nat} (h : w.grownBy w' row) (hM : ∀ r, row = some r → M r) : Keeps M w w' :=
  ⟨h.os, h.tape, h.output, h.size, fun k hk hn => h.block k hk (fun e => hn (hM k e.symm))⟩
theorem Keeps.below {M : Nat → Prop} {w w' : World} (h : Below w.heap.size w w') : Keeps M w w' := Keeps.grown (grown_below h) (fun _ e => by cases e)
theorem Keeps.toBelow {M : Nat → Prop} {w w' : World} {B : Nat} (h : Keeps M w w') (hB : B ≤ w.heap.size) (hM : ∀ x, M x → B ≤ x) : Below B w w' :=
  ⟨h.os, h.tape, h.output, h.size, fun k hk => h.block k (by omega) (fun hm => by have := hM k hm; omega)⟩
theorem Keeps.row {M : Nat → Prop} {w w' : World} {L : Nat} {t : TypeId} {z n : Nat} {v : Value} {xs : List Value} (h : Keeps M w w') (hr : w.ownsRow L t z v n xs) (hM : ∀ k, v.ownBlock = some k → ¬ M k) : w'.ownsRow L t z v n xs := by
  refine ⟨hr.1, ?_⟩
  rcases hr.2 with h1 | ⟨g, cap, cur, hv, hb, hg, h2⟩
  · exact .inl h1
  · exact .inr ⟨g, cap, cur, hv, hb, (h.block g (Array.getElem?_eq_some_iff.1 hg).1 (hM g (by rw [hv]; rfl))).trans hg, h2⟩
theorem Keeps.map {M : Nat → Prop} {w w' : World} {P : Program} {k : TypeId} {R : Value → Option (DataW Unit × List MemPlace)} {b n : Nat} {D : DataW Unit} (h : Keeps M w w') (hm : w.ownsMap P k R b n D) (hM : ¬ M b) : w'.ownsMap P k R b n D := by
  have hlt := hm.lt
  obtain ⟨es, clock, h1, h2⟩ := hm
  exact ⟨es, clock, (h.block b hlt hM).trans h1, h2⟩
theorem rowLen {w : World} {L : Nat} {t : TypeId} {z n : Nat} {v : Value} {xs : List Value} (hr : w.ownsRow L t z v n xs) : ∃ a c, v = .slice a n c := by
  rcases hr.2 with ⟨h1, h2⟩ | ⟨g, cap, cur, hv, _⟩
  · exact ⟨none, 0, by rw [h1, h2]⟩
  · exact ⟨_, _, hv⟩
def strs (l : List (List UInt8)) : List Value := l.map (fun s => .string (bsN s))
theorem infoStrH : (Tryz.prog.info? 9).map (fun i => (i.zero, i.size, i.bytes)) = some (some (.string ⟨#[]⟩), 1, 16) := by kernel_rfl
/-- One name more is laid behind. -/
theorem strPushH {w : World} {L n : Nat} {v : Value} {xs : List Value} (h : w.ownsRow L 9 1 v n xs) (hL : L ≤ w.heap.size) (hn : n + 1 ≤ 1000000000) (s : ByteArray) (ty : TypeId) :
    ∃ g cap w', (Builtin.append_ #[22, 22] ty #[v, .slice (some ⟨w.heap.size, 0, none⟩) 1 1]).run Tryz.prog (w.alloc (.cells #[.string s] 9)) = .ok (.slice (some ⟨g, 0, none⟩) (n + 1) cap) w' ∧ w'.ownsRow L 9 1 (.slice (some ⟨g, 0, none⟩) (n + 1) cap) (n + 1) (xs ++ [.string s]) ∧ w.grownBy w' v.ownBlock ∧ (v.ownBlock = some g ∨ w.heap.size ≤ g) := by
  obtain ⟨i0, hi, hz0, hz1, hz2⟩ := info_partsV infoStrH
  have bA : Below w.heap.size w (w.alloc (.cells #[.string s] 9)) := alloc_v (Below.refl _ _) _
  have e := World.alloc_heap_new w (.cells #[.string s] 9)
  have hA : (w.alloc (.cells #[.string s] 9)).ownsRow L 9 1 v n xs := h.kept (grown_of_below (r := none) bA) (by cases v.ownBlock <;> simp)
  obtain ⟨g, cap, w', hrun, A1, A2, A3, A4⟩ := run_append_lies (P := Tryz.prog) (w.alloc (.cells #[.string s] 9)) 22 ty L 9 i0 _ 1 16 Tryz.underlying22 hi hz0 hz1 hz2 rfl (by decide) v n xs hA ⟨w.heap.size, 0, none⟩ 1 1 [.string s] rfl (fun j u hj => by
      rw [Addr.add_lit, Nat.zero_add]
      exact cells_at e j u (by simpa using hj)) (fun u hu => by simp at hu; subst hu; rfl) (by omega) (by unfold maxLen; omega) (by omega) (by rw [World.size_alloc]; omega) (w.heap.size + 1) (by rw [World.size_alloc])
  refine ⟨g, cap, w', hrun, A1, ?_, ?_⟩
  · exact (World.grownBy_alloc w _ _).trans A2
  · rcases A3 with A3 | A3
    · exact .inl A3
    · exact .inr (by omega)
theorem hZeroInt (w : World) : (zeroValue 3).run Tryz.prog w = .ok (.int .i64 0) w := by kernel_rfl
/-- Names and their numbers in a map. -/
def NumM (w : World) (mb : Nat) (l : List (List UInt8)) : Prop := ∃ D : DataW Unit, w.ownsMap Tryz.prog 9 (plainElem Tryz.prog 3) mb l.length D ∧ (∀ s, Maps.has D (.string s) = decide (s ∈ l)) ∧ ∀ s ∈ l, D.atKey (.string s) (.lit (.int .i64 0)) = .lit (.int .i64 (l.idxOf s))
theorem NumM.new (w : World) : NumM (w.alloc (.map #[] 0)) w.heap.size [] := ⟨_, World.ownsMap_made _ _ _ _, fun s => by simp [Maps.has], fun s h => by cases h⟩
theorem Keeps.num {M : Nat → Prop} {w w' : World} {mb : Nat} {l : List (List UInt8)} (h : Keeps M w w') (hm : NumM w mb l) (hM : ¬ M mb) : NumM w' mb l := by
  obtain ⟨D, h1, h2⟩ := hm
  exact ⟨D, h.map h1 hM, h2⟩
theorem num_put {D : DataW Unit} {l : List (List UInt8)} {t : List UInt8} (hm : IsMap D) (ht : t ∉ l) (h1 : ∀ s, Maps.has D (.string s) = decide (s ∈ l)) (h2 : ∀ s ∈ l, D.atKey (.string s) (.lit (.int .i64 0)) = .lit (.int .i64 (l.idxOf s))) :
    (∀ s, Maps.has (D.put (.string t) (.lit (.int .i64 (l.length : Int)))) (.string s) = decide (s ∈ addN l t)) ∧ ∀ s ∈ addN l t, (D.put (.string t) (.lit (.int .i64 (l.length : Int)))).atKey (.string s) (.lit (.int .i64 0)) = .lit (.int .i64 ((addN l t).idxOf s)) := by
  constructor
  · intro s
    by_cases e : s = t
    · subst e
      rw [has_put_same (k := .string s) hm trivial]
      simp [mem_add]
    · rw [has_put_other (by simpa using e), h1]
      simp [mem_add, e]
  · intro s hs
    by_cases e : s = t
    · subst e
      rw [atKey_put_same (k := .string s) hm trivial, idx_add, List.idxOf_eq_length ht]
    · have hsl : s ∈ l := by rcases mem_add.1 hs with h | h; exact h; exact absurd h e
      rw [atKey_put_other (by simpa using e), h2 s hsl, idx_add_old hsl]
theorem set_same {cs : Array Value} {o : Nat} {v : Value} (h : cs[o]? = some v) : cs.setIfInBounds o v = cs := by
  obtain ⟨hlt, e⟩ := Array.getElem?_eq_some_iff.1 h
  apply Array.ext
  · simp
  · intro i h1 h2
    rw [Array.getElem_setIfInBounds]
    split
    · rename_i e'; subst e'; exact e.symm
    · rfl
set_option maxRecDepth 100000 in
set_option maxHeartbeats 2000000 in
theorem number_k (names : List (List UInt8)) (s : List UInt8) (hs : s.length ≤ 1048576) (w : World) (L gb mb o : Nat) (cs : Array Value) (v : Value) (hblk : w.heap[gb]? = some (.cells cs 102 (0, 0))) (h0 : cs[o]? = some v) (h1 : cs[o + 1]? = some (.map (some mb)))
    (hrow : w.ownsRow L 9 1 v names.length (strs names)) (hnum : NumM w mb names) (hg : gb < L) (hm : mb < L) (hne : gb ≠ mb) (hL : L ≤ w.heap.size) (hlen : names.length + 1 ≤ 1000000000) :
    Calls Tryz.prog 61 #[.pointer (some ⟨gb, o, none⟩), .string (bsN s)] w fun e w' => e = .returned (.int .i64 (names.idxOf s : Nat)) ∧ ∃ v', w'.heap[gb]? = some (.cells (cs.setIfInBounds o v') 102 (0, 0)) ∧ w'.ownsRow L 9 1 v' (addN names s).length (strs (addN names s)) ∧ NumM w' mb (addN names s) ∧
      (v'.ownBlock = v.ownBlock ∨ ∃ g, v'.ownBlock = some g ∧ w.heap.size ≤ g) ∧ Keeps (fun k => k = gb ∨ k = mb ∨ v.ownBlock = some k) w w' := by
  have c0 := cells_at hblk o v h0
  have c1 := cells_at hblk (o + 1) _ h1
  have q0 := frozen_at hblk o
  obtain ⟨D, hown, hD1, hD2⟩ := hnum
  have hkey := keyStr hs
  have hDk := hD1 s
  by_cases hin : s ∈ names
  · have hdk : Maps.has D (.string s) = true := by rw [hDk]; simp [hin]
    have hat := hD2 s hin
    have hadd : addN names s = names := if_pos hin
    have HH := hide (And.intro hblk (And.intro hrow (And.intro hadd (And.intro h0 (And.intro hD1 hD2)))))
    have HO := hide hown
    have HAT := hide hat
    clear hD1 hD2 hat hadd hin hDk hown hrow hblk
    go_enter Tryz.func61, Tryz.ntmps61
    go_wp2_with (at_lookup; refine wpList_lookup_own_ok_int _ rfl _ _ 97 rfl 9 3 .i64 hLawStr Tryz.underlying97 Tryz.underlying3 (hZeroInt _) mb names.length D rfl HO.out _ _ rfl hkey ?_; intro c hat hwc; rw [hdk])
    go_ret
    obtain ⟨hblk, hrow, hadd, h0, hD1, hD2⟩ := HH.out
    have e := HAT.out.symm.trans hat
    simp only [DataW.lit.injEq, Lit.int.injEq, true_and] at e
    refine ⟨by rw [← e]; rfl, v, by rw [set_same h0]; exact hblk, by rw [hadd]; exact hrow, by rw [hadd]; exact ⟨D, HO.out, hD1, hD2⟩, .inl rfl, Keeps.refl _ _⟩
  · have hdk : Maps.has D (.string s) = false := by rw [hDk]; simp [hin]
    have hadd : addN names s = names ++ [s] := if_neg hin
    have hix : names.idxOf s = names.length := List.idxOf_eq_length hin
    obtain ⟨ra, rc, rfl⟩ := rowLen hrow
    obtain ⟨g, cap, w1, hrun, r1, gr1, lie⟩ := strPushH hrow hL hlen (bsN s) 22
    have hgb1 : some gb ≠ (Value.slice ra names.length rc).ownBlock := fun e => by have := (hrow.lt gb e.symm).1; omega
    have hmb1 : some mb ≠ (Value.slice ra names.length rc).ownBlock := fun e => by have := (hrow.lt mb e.symm).1; omega
    have hlg := (Array.getElem?_eq_some_iff.1 hblk).1
    have blk1 := (gr1.block gb hlg hgb1).trans hblk
    have k1 := cells_at blk1 o _ h0
    have k2 := cells_at blk1 (o + 1) _ h1
    have z0 := frozen_at blk1 o
    have hos : o < cs.size := (Array.getElem?_eq_some_iff.1 h0).1
    have blk2 := heap_setCell_same _ _ o _ _ (.slice (some ⟨g, 0, none⟩) (names.length + 1) cap) blk1
    obtain ⟨W2, hW2⟩ : ∃ W2, w1.setCell ⟨gb, o, none⟩ (.slice (some ⟨g, 0, none⟩) (names.length + 1) cap) = W2 := ⟨_, rfl⟩
    have kS : Keeps (fun k => k = gb) w1 W2 := by
      rw [← hW2]
      exact Keeps.grown (row := some gb) ⟨rfl, rfl, rfl, by simp [World.setCell], fun k _ hne => Below.heap_setCell w1 _ _ k (fun e => hne (by rw [e]))⟩ (fun r e => by cases e; rfl)
    rw [hW2] at blk2
    have kA : Keeps (fun k => k = gb ∨ k = mb ∨ (Value.slice ra names.length rc).ownBlock = some k) w W2 := (Keeps.grown gr1 (fun r e => .inr (.inr e))).trans kS (fun x _ h => .inl h)
    have m2 := cells_at blk2 (o + 1) (.map (some mb)) (by rw [Array.getElem?_setIfInBounds]; rw [if_neg (by omega)]; exact h1)
    have row2 := kS.row r1 (fun k e => by have := (r1.lt k e).1; intro h; omega)
    have hown2 : W2.ownsMap Tryz.prog 9 (plainElem Tryz.prog 3) mb names.length D := kS.map (hown.kept gr1 hmb1) (fun h => hne h.symm)
    have hlm : mb < w.heap.size := by omega
    have HO := hide hown
    have HO2 := hide hown2
    have HRN := hide hrun
    have HM := hide (hown.isMap)
    have HH := hide (And.intro hadd (And.intro hix (And.intro blk2 (And.intro row2 (And.intro kA (And.intro hD1 (And.intro hD2 lie)))))))
    have hnl : names.length ≤ 1000000000 := by omega
    have Hin := hide hin
    clear hD1 hD2 hadd hix hin hDk hown hown2 hrow hblk blk1 blk2 row2 kA kS gr1 r1 hrun lie
    go_enter Tryz.func61, Tryz.ntmps61
    go_wp2_with (first
      | (at_lookup; refine wpList_lookup_own_ok_int _ rfl _ _ 97 rfl 9 3 .i64 hLawStr Tryz.underlying97 Tryz.underlying3 (hZeroInt _) mb names.length D rfl HO.out _ _ rfl hkey ?_; intro c hat hwc; rw [hdk])
      | (at_builtin; refine Lib.wpList_append_run _ rfl (.tmp 27) (.tmp 29) 22 22 rfl _ _ rfl rfl _ _ HRN.out ?_; clear HRN)
      | (at_mapUpdate; refine wpList_mapUpdate_own _ rfl _ _ _ 97 rfl 9 3 hLawStr Tryz.underlying97 (plainElem Tryz.prog 3) mb names.length _ rfl HO2.out (by unfold maxLen; omega) _ _ _ rfl rfl hkey _ [] (plainElem_int Tryz.underlying3 (WalkArith.wf_i64 (by omega))) ?_; intro w3 hown3 hgrow3; have HO3 := hide hown3; have HG3 := hide hgrow3; clear hown3 hgrow3))
    go_ret
    obtain ⟨hadd, hix, blk2, row2, kA, hD1, hD2, lie⟩ := HH.out
    have hp := num_put HM.out Hin.out hD1 hD2
    have hz := kA.size
    have hgl := (Array.getElem?_eq_some_iff.1 blk2).1
    have kB : Keeps (fun k => k = mb) W2 w3 := Keeps.grown HG3.out (fun r e => by cases e; rfl)
    refine ⟨by rw [hix]; rfl, .slice (some ⟨g, 0, none⟩) (names.length + 1) cap, (kB.block gb hgl hne).trans blk2, ?_, ⟨_, ?_, hp⟩, ?_, kA.trans kB (fun x _ h => .inr (.inl h))⟩
    · rw [hadd, List.length_append, List.length_singleton]
      have := kB.row row2 (fun k e => by have := (row2.lt k e).1; intro h; omega)
      simpa [strs] using this
    · rw [hadd, List.length_append, List.length_singleton]
      exact HO3.out
    · rcases lie with h | h
      · exact .inl (by rw [h]; rfl)
      · exact .inr ⟨g, rfl, h⟩
end Go.Proofs.YtnmkggoampkekaaGreatDoor

/- How operations lie in memory while they are gathered. -/
namespace Go.Proofs.YtnmkggoampkekaaGreatDoor
open Go.RowKit Go.Maps

/-- The fifteen cells of an operation. -/
def clCells (c : Cl) (sa sr : Value) : List Value := [.int .i64 c.proc, .int .i64 c.obj, .string (bsN c.op), .int .i64 c.arg.kind, .int .i64 c.arg.int, .int .i64 c.arg.im, .string c.arg.text, sa, .int .i64 c.inv, .int .i64 c.res, .int .i64 c.reply.kind, .int .i64 c.reply.int, .int .i64 c.reply.im, .string c.reply.text, sr]
/-- An operation with where the items of its argument and of its reply lie. -/
abbrev CV := Cl × Value × Value
def clOf (x : CV) : List Value := clCells x.1 x.2.1 x.2.2
def crow (l : List CV) : List Value := l.flatMap clOf
theorem clOf_len (x : CV) : (clOf x).length = 15 := rfl
theorem crow_len (l : List CV) : (crow l).length = l.length * 15 := by
  induction l with
  | nil => rfl
  | cons x l ih => rw [crow, List.flatMap_cons, List.length_append, clOf_len]; change 15 + (crow l).length = _; rw [ih, List.length_cons]; omega
theorem crow_snoc (l : List CV) (x : CV) : crow (l ++ [x]) = crow l ++ clOf x := by simp [crow]
theorem crow_split (l : List CV) (j : Nat) (h : j < l.length) : crow l = crow (l.take j) ++ (clOf l[j] ++ crow (l.drop (j + 1))) := by
  have e : l = l.take j ++ l[j] :: l.drop (j + 1) := by rw [← List.drop_eq_getElem_cons h, List.take_append_drop]
  have : crow l = crow (l.take j ++ l[j] :: l.drop (j + 1)) := by rw [← e]
  rw [this]
  unfold crow
  rw [List.flatMap_append, List.flatMap_cons]
theorem crow_get (l : List CV) (j : Nat) (h : j < l.length) (i : Nat) (hi : i < 15) : (crow l)[j * 15 + i]? = (clOf l[j])[i]? := by
  have hl : (crow (l.take j)).length = j * 15 := by rw [crow_len, List.length_take]; congr 1; omega
  rw [crow_split l j h, List.getElem?_append_right (by omega), hl, Nat.add_sub_cancel_left, List.getElem?_append_left (by rw [clOf_len]; exact hi)]
/-- A cell of one operation is written. -/
theorem crow_set (l : List CV) (j : Nat) (h : j < l.length) (C : List Value) (hC : C.length = 15) (i : Nat) (hi : i < 15) (v : Value) :
    (crow (l.take j) ++ (C ++ crow (l.drop (j + 1)))).set (j * 15 + i) v = crow (l.take j) ++ (C.set i v ++ crow (l.drop (j + 1))) := by
  have hl : (crow (l.take j)).length = j * 15 := by rw [crow_len, List.length_take]; congr 1; omega
  rw [List.set_append_right _ _ (by omega), hl, Nat.add_sub_cancel_left, List.set_append_left _ _ (by omega)]
theorem crow_with (l : List CV) (j : Nat) (h : j < l.length) (x : CV) : crow (l.set j x) = crow (l.take j) ++ (clOf x ++ crow (l.drop (j + 1))) := by
  have h' : j < (l.set j x).length := by simpa using h
  rw [crow_split (l.set j x) j h', List.getElem_set_self, List.take_set_of_le (Nat.le_refl _), List.drop_set_of_lt (Nat.lt_succ_self _)]
/-- Which operation each process has open. -/
def OpnM (w : World) (mb k : Nat) (o : List (Nat × Nat)) : Prop := ∃ D : DataW Unit, w.ownsMap Tryz.prog 3 (plainElem Tryz.prog 3) mb k D ∧ (∀ p : Nat, Maps.has D (.int .i64 p) = decide (p ∈ o.map Prod.fst)) ∧ (∀ p c, (p, c) ∈ o → D.atKey (.int .i64 p) (.lit (.int .i64 0)) = .lit (.int .i64 (c : Nat))) ∧ Maps.size D = o.length ∧ (o.map Prod.fst).Nodup
theorem OpnM.new (w : World) : OpnM (w.alloc (.map #[] 0)) w.heap.size 0 [] := ⟨_, World.ownsMap_made _ _ _ _, fun p => (by simp [Maps.has]), fun p c h => absurd h (by simp), rfl, by simp⟩
theorem Keeps.opn {M : Nat → Prop} {w w' : World} {mb k : Nat} {o : List (Nat × Nat)} (h : Keeps M w w') (hm : OpnM w mb k o) (hM : ¬ M mb) : OpnM w' mb k o := by
  obtain ⟨D, h1, h2⟩ := hm
  exact ⟨D, h.map h1 hM, h2⟩
theorem hLawInt : Keyed Tryz.prog 3 := int_keyed Tryz.underlying3
theorem keyInt (p : Nat) (h : p ≤ 1000000000) : keyOf Tryz.prog 3 (.int .i64 (p : Int)) = some (.int .i64 (p : Int)) := keyOf_int_mk Tryz.underlying3 (WalkArith.wf_i64 (by omega))
theorem opn_put {D : DataW Unit} {o : List (Nat × Nat)} {p c : Nat} (ht : Tidy D) (hp : p ∉ o.map Prod.fst) (h1 : ∀ q : Nat, Maps.has D (.int .i64 q) = decide (q ∈ o.map Prod.fst)) (h2 : ∀ q d, (q, d) ∈ o → D.atKey (.int .i64 q) (.lit (.int .i64 0)) = .lit (.int .i64 (d : Nat))) (h3 : Maps.size D = o.length) (h4 : (o.map Prod.fst).Nodup) :
    (∀ q : Nat, Maps.has (D.put (.int .i64 p) (.lit (.int .i64 (c : Nat)))) (.int .i64 q) = decide (q ∈ ((p, c) :: o).map Prod.fst)) ∧ (∀ q d, (q, d) ∈ (p, c) :: o → (D.put (.int .i64 p) (.lit (.int .i64 (c : Nat)))).atKey (.int .i64 q) (.lit (.int .i64 0)) = .lit (.int .i64 (d : Nat))) ∧ Maps.size (D.put (.int .i64 p) (.lit (.int .i64 (c : Nat)))) = ((p, c) :: o).length ∧ (((p, c) :: o).map Prod.fst).Nodup := by
  refine ⟨fun q => ?_, fun q d hq => ?_, ?_, ?_⟩
  · by_cases e : q = p
    · subst e
      rw [has_put_same (k := .int .i64 q) ht.isMap trivial]
      simp
    · rw [has_put_other (by simp; omega), h1]
      simp [e]
  · rcases List.mem_cons.1 hq with e | e
    · cases e
      rw [atKey_put_same (k := .int .i64 p) ht.isMap trivial]
    · have : q ≠ p := fun h => hp (by subst h; exact List.mem_map.2 ⟨_, e, rfl⟩)
      rw [atKey_put_other (by simp; omega), h2 q d e]
  · rw [size_put ht, h1, if_neg (by simpa using hp), h3, List.length_cons]
  · rw [List.map_cons, List.nodup_cons]
    exact ⟨hp, h4⟩
theorem drop_len : ∀ {o : List (Nat × Nat)} {p : Nat}, p ∈ o.map Prod.fst → (o.map Prod.fst).Nodup → (dropO o p).length + 1 = o.length
  | x :: o, p, h, hn => by
    rw [List.map_cons, List.nodup_cons] at hn
    unfold dropO
    rw [List.filter_cons]
    by_cases e : x.1 = p
    · have hall : o.filter (fun y => y.1 != p) = o := List.filter_eq_self.2 fun y hy => by
        have : y.1 ≠ p := fun e' => hn.1 (by rw [e, ← e']; exact List.mem_map.2 ⟨y, hy, rfl⟩)
        simpa using this
      simp [e, hall]
    · have hin : p ∈ o.map Prod.fst := by
        rw [List.map_cons] at h
        rcases List.mem_cons.1 h with h | h
        · exact absurd h.symm e
        · exact h
      have := drop_len hin hn.2
      unfold dropO at this
      simp [e, this]
theorem opn_del {D : DataW Unit} {o : List (Nat × Nat)} {p : Nat} (ht : Tidy D) (hp : p ∈ o.map Prod.fst) (h1 : ∀ q : Nat, Maps.has D (.int .i64 q) = decide (q ∈ o.map Prod.fst)) (h2 : ∀ q d, (q, d) ∈ o → D.atKey (.int .i64 q) (.lit (.int .i64 0)) = .lit (.int .i64 (d : Nat))) (h3 : Maps.size D = o.length) (h4 : (o.map Prod.fst).Nodup) :
    (∀ q : Nat, Maps.has (D.del (.int .i64 p)) (.int .i64 q) = decide (q ∈ (dropO o p).map Prod.fst)) ∧ (∀ q d, (q, d) ∈ dropO o p → (D.del (.int .i64 p)).atKey (.int .i64 q) (.lit (.int .i64 0)) = .lit (.int .i64 (d : Nat))) ∧ Maps.size (D.del (.int .i64 p)) = (dropO o p).length ∧ ((dropO o p).map Prod.fst).Nodup := by
  have hk : ∀ q, q ∈ (dropO o p).map Prod.fst ↔ q ∈ o.map Prod.fst ∧ q ≠ p := fun q => by
    constructor
    · intro h
      obtain ⟨⟨a, b⟩, h1, rfl⟩ := List.mem_map.1 h
      obtain ⟨h2, h3⟩ := mem_drop.1 h1
      exact ⟨List.mem_map.2 ⟨_, h2, rfl⟩, h3⟩
    · rintro ⟨h, h3⟩
      obtain ⟨⟨a, b⟩, h1, rfl⟩ := List.mem_map.1 h
      exact List.mem_map.2 ⟨(a, b), mem_drop.2 ⟨h1, h3⟩, rfl⟩
  refine ⟨fun q => ?_, fun q d hq => ?_, ?_, ?_⟩
  · by_cases e : q = p
    · subst e
      rw [has_del_same]
      have : q ∉ (dropO o q).map Prod.fst := fun h => ((hk q).1 h).2 rfl
      simp [this]
    · rw [has_del_other (by simp; omega), h1]
      rw [Bool.eq_iff_iff, decide_eq_true_eq, decide_eq_true_eq, hk]
      exact ⟨fun h => ⟨h, e⟩, fun h => h.1⟩
  · obtain ⟨h5, h6⟩ := mem_drop.1 hq
    rw [atKey_del_other (by simp; omega), h2 q d h5]
  · have e1 := size_del (k := .int .i64 (p : Int)) ht
    rw [h1, if_pos (by simpa using hp), h3] at e1
    have e2 := drop_len hp h4
    omega
  · exact List.Nodup.sublist (List.Sublist.map _ List.filter_sublist) h4
/-- The blocks of a gathering. -/
structure Fix (h0 L gb mp mo mm : Nat) : Prop where
  lo : h0 ≤ gb ∧ h0 ≤ mp ∧ h0 ≤ mo ∧ h0 ≤ mm ∧ h0 ≤ L
  hi : gb < L ∧ mp < L ∧ mo < L ∧ mm < L
  ne : gb ≠ mp ∧ gb ≠ mo ∧ gb ≠ mm ∧ mp ≠ mo ∧ mp ≠ mm ∧ mo ≠ mm
/-- Where the items of operations lie. -/
def CvAt (w : World) (B n : Nat) (x : CV) : Prop := ItemsAt w B n x.2.1 x.1.arg.items ∧ ItemsAt w B n x.2.2 x.1.reply.items ∧ x.1.arg.ok ∧ x.1.reply.ok ∧ x.1.arg.size ≤ 1000000000 ∧ x.1.reply.size ≤ 1000000000 ∧ x.1.op.length ≤ 1048576
/-- A gathering in memory. -/
structure GAt (w : World) (B h0 L gb mp mo mm k n : Nat) (g : Gs) (v0 v1 v2 : Value) (rs : List CV) : Prop where
  blk : w.heap[gb]? = some (.cells #[v0, .map (some mp), v1, .map (some mo), v2, .map (some mm)] 102 (0, 0))
  pr : w.ownsRow L 9 1 v0 g.procs.length (strs g.procs)
  ob : w.ownsRow L 9 1 v1 g.objs.length (strs g.objs)
  cl : w.ownsRow L 69 15 v2 g.calls.length (crow rs)
  same : rs.map (·.1) = g.calls
  its : ∀ x ∈ rs, CvAt w B n x
  bh : B ≤ h0
  np : NumM w mp g.procs
  no : NumM w mo g.objs
  om : OpnM w mm k g.opn
  dis : ∀ k, v0.ownBlock = some k → v1.ownBlock ≠ some k
  sz : L ≤ w.heap.size
theorem CvAt.below {w w' : World} {B n : Nat} {x : CV} (h : CvAt w B n x) (hb : Below B w w') : CvAt w' B n x := ⟨h.1.below hb, h.2.1.below hb, h.2.2⟩
theorem row_types {w : World} {L L' : Nat} {t t' : TypeId} {z z' n n' : Nat} {v v' : Value} {xs xs' : List Value} (h : w.ownsRow L t z v n xs) (h' : w.ownsRow L' t' z' v' n' xs') (ht : t ≠ t') (k : Nat) (e : v.ownBlock = some k) : v'.ownBlock ≠ some k := fun e' => by
  rcases h.2 with ⟨rfl, _⟩ | ⟨g, cap, cur, rfl, _, hg, _⟩
  · cases e
  · rcases h'.2 with ⟨rfl, _⟩ | ⟨g', cap', cur', rfl, _, hg', _⟩
    · cases e'
    · simp only [Value.ownBlock, Option.some.injEq] at e e'
      subst e e'
      rw [hg] at hg'
      simp only [Option.some.injEq, Obj.cells.injEq] at hg'
      exact ht hg'.2.1
end Go.Proofs.YtnmkggoampkekaaGreatDoor

/- newRoll, newGathering, tooLarge. -/
namespace Go.Proofs.YtnmkggoampkekaaGreatDoor
open Go.RowKit Go.Maps

theorem Keeps.set (w : World) (b o : Nat) (v : Value) : Keeps (fun k => k = b) w (w.setCell ⟨b, o, none⟩ v) :=
  Keeps.grown (row := some b) ⟨rfl, rfl, rfl, by simp [World.setCell], fun k _ hne => Below.heap_setCell w ⟨b, o, none⟩ v k (fun e => hne (by rw [e]))⟩ (fun r e => by cases e; rfl)
theorem infoRoll : (Tryz.prog.info? 99).map (·.size) = some 2 := by kernel_rfl
set_option maxRecDepth 100000 in
theorem newRoll_k (w : World) : Calls Tryz.prog 60 #[] w fun e w' => e = .returned (.agg #[.slice none 0 0, .map (some (w.heap.size + 1))]) ∧ NumM w' (w.heap.size + 1) [] ∧ Below w.heap.size w w' ∧ w'.heap.size = w.heap.size + 2 := by
  have hmm := @run_makeMap Tryz.prog
  have e1 := World.alloc_heap_new w (.cells #[.slice none 0 0, .map none] 99)
  have e2 := (Below.heap_alloc (w.alloc (.cells #[.slice none 0 0, .map none] 99)) (.map #[] 0) w.heap.size (by simp)).trans e1
  have n1 := NumM.new (w.alloc (.cells #[.slice none 0 0, .map none] 99))
  rw [World.size_alloc] at n1
  obtain ⟨W, hW⟩ : ∃ W, (w.alloc (.cells #[.slice none 0 0, .map none] 99)).alloc (.map #[] 0) = W := ⟨_, rfl⟩
  rw [hW] at e2 n1
  have bW : Below w.heap.size w W := by rw [← hW]; exact alloc_v (alloc_v (Below.refl _ _) _) _
  have zW : W.heap.size = w.heap.size + 2 := by rw [← hW]; simp
  have c0 := cells_at e2 0 _ rfl
  have c1 := cells_at e2 1 _ rfl
  have q0 := frozen_at e2 0
  have q1 := frozen_at e2 1
  have HH := hide (And.intro e2 (And.intro n1 (And.intro bW zW)))
  clear e1 e2 n1 bW zW
  go_enter Tryz.func60, Tryz.ntmps60
  go_wp2
  obtain ⟨e2, n1, bW, zW⟩ := HH.out
  have g1 := heap_setCell_same _ _ 0 _ _ (.slice none 0 0) e2
  have g2 := heap_setCell_same _ _ 1 _ _ (.map (some (w.heap.size + 1))) g1
  refine bodyPost_ret (results_cell_row rfl _ _ w.heap.size _ _ _ _ rfl g2 Tryz.underlying99 rfl infoRoll) rfl ?_
  have k : Keeps (fun k => k = w.heap.size) W ((W.setCell ⟨w.heap.size, 0, none⟩ (.slice none 0 0)).setCell ⟨w.heap.size, 1, none⟩ (.map (some (w.heap.size + 1)))) :=
    (Keeps.set _ _ _ _).trans (Keeps.set _ _ _ _) (fun _ _ h => h)
  exact ⟨rfl, k.num n1 (by omega), (bW.setCell (Nat.le_refl _) _).setCell (Nat.le_refl _) _, by simpa [World.setCell] using zW⟩
theorem row_nil (w : World) (L : Nat) (t : TypeId) (z : Nat) : w.ownsRow L t z (.slice none 0 0) 0 [] := ⟨by simp, .inl ⟨rfl, rfl⟩⟩
theorem Keeps.blw {M : Nat → Prop} {w w' : World} (h : Below w.heap.size w w') : Keeps M w w' := Keeps.below h
set_option maxRecDepth 100000 in
theorem newGathering_k (w : World) (B n : Nat) (hB : B ≤ w.heap.size) : Calls Tryz.prog 45 #[] w fun e w' => ∃ L gb mp mo mm, e = .returned (.pointer (some ⟨gb, 0, none⟩)) ∧ Fix w.heap.size L gb mp mo mm ∧ GAt w' B w.heap.size L gb mp mo mm 0 n ⟨[], [], [], []⟩ (.slice none 0 0) (.slice none 0 0) (.slice none 0 0) [] ∧ Below w.heap.size w w' := by
  have hmm := @run_makeMap Tryz.prog
  have HR1 := hide (newRoll_k w)
  have HR2 := hide newRoll_k
  go_enter Tryz.func45, Tryz.ntmps45
  go_wp2_with (first
    | (go_at_call 60; refine HR1.out.mono ?_; clear HR1; rintro e w1 ⟨rfl, n1, b1, z1⟩; have H1 := hide (And.intro n1 (And.intro b1 z1)); clear n1 b1 z1)
    | (go_at_call 60; refine (HR2.out _).mono ?_; clear HR2; rintro e w2 ⟨rfl, n2, b2, z2⟩; have H2 := hide (And.intro n2 (And.intro b2 z2)); clear n2 b2 z2))
  go_ret
  obtain ⟨n1, b1, z1⟩ := H1.out
  obtain ⟨n2, b2, z2⟩ := H2.out
  have b3 : Below w2.heap.size w2 (w2.alloc (.map #[] 0)) := alloc_v (Below.refl _ _) _
  obtain ⟨X, hX⟩ : ∃ X, w2.alloc (.map #[] 0) = X := ⟨_, rfl⟩
  have zX : X.heap.size = w2.heap.size + 1 := by rw [← hX]; simp
  have m3 := OpnM.new w2
  rw [hX] at b3 m3 ⊢
  obtain ⟨Y, hY⟩ : ∃ Y, X.alloc (.cells #[.slice none 0 0, .map (some (w.heap.size + 1)), .slice none 0 0, .map (some (w1.heap.size + 1)), .slice none 0 0, .map (some w2.heap.size)] 102) = Y := ⟨_, rfl⟩
  have b4 : Below X.heap.size X Y := by rw [← hY]; exact alloc_v (Below.refl _ _) _
  have e4 : Y.heap[X.heap.size]? = some (.cells #[.slice none 0 0, .map (some (w.heap.size + 1)), .slice none 0 0, .map (some (w1.heap.size + 1)), .slice none 0 0, .map (some w2.heap.size)] 102 (0, 0)) := by rw [← hY]; exact World.alloc_heap_new X _
  have zY : Y.heap.size = X.heap.size + 1 := by rw [← hY]; simp
  rw [← zX, hY]
  refine ⟨Y.heap.size, X.heap.size, w.heap.size + 1, w1.heap.size + 1, w2.heap.size, rfl, ⟨by omega, by omega, by omega⟩, ⟨e4, row_nil _ _ _ _, row_nil _ _ _ _, row_nil _ _ _ _, rfl, fun x h => absurd h (by simp), hB, ?_, ?_, ?_, fun k h => (by cases h), Nat.le_refl _⟩, trans_v (trans_v (trans_v b1 b2) b3) b4⟩
  · exact (Keeps.below (M := fun _ => False) b4).num ((Keeps.below (M := fun _ => False) b3).num ((Keeps.below (M := fun _ => False) b2).num n1 (fun h => h)) (fun h => h)) (fun h => h)
  · exact (Keeps.below (M := fun _ => False) b4).num ((Keeps.below (M := fun _ => False) b3).num n2 (fun h => h)) (fun h => h)
  · exact (Keeps.below (M := fun _ => False) b4).opn m3 (fun h => h)
set_option maxRecDepth 100000 in
theorem tooLarge_k (w : World) (B h0 L gb mp mo mm k n : Nat) (g : Gs) (v0 v1 v2 : Value) (rs : List CV) (hg : GAt w B h0 L gb mp mo mm k n g v0 v1 v2 rs) (hp : g.procs.length ≤ 1000000000) (hc : g.calls.length ≤ 1000000000) (ho : g.opn.length ≤ 1000000000) :
    Calls Tryz.prog 47 #[.pointer (some ⟨gb, 0, none⟩)] w fun e w' => e = .returned (.bool (largeG g)) ∧ w = w' := by
  have c0 := cells_at hg.blk 0 _ rfl
  have c4 := cells_at hg.blk 4 _ rfl
  have c5 := cells_at hg.blk 5 _ rfl
  obtain ⟨a0, b0, e0⟩ := rowLen hg.pr
  obtain ⟨a2, b2, e2⟩ := rowLen hg.cl
  obtain ⟨D, hown, _, _, hsz, _⟩ := hg.om
  subst e0 e2
  have HO := hide hown
  clear hg hown
  unfold largeG
  by_cases q1 : 64 < g.procs.length
  · have q1' : (64 : Int) < (g.procs.length : Int) := by omega
    go_enter Tryz.func47, Tryz.ntmps47
    go_wp2
    go_ret
    exact ⟨by simp [q1], rfl⟩
  have q1' : ¬ (64 : Int) < (g.procs.length : Int) := by omega
  by_cases q2 : 4096 < g.calls.length
  · have q2' : (4096 : Int) < (g.calls.length : Int) := by omega
    go_enter Tryz.func47, Tryz.ntmps47
    go_wp2
    go_ret
    exact ⟨by simp, rfl⟩
  have q2' : ¬ (4096 : Int) < (g.calls.length : Int) := by omega
  have hl := HO.out.len Tryz.underlying100 3
  rw [hsz] at hl
  go_enter Tryz.func47, Tryz.ntmps47
  go_wp2
  go_ret
  refine ⟨?_, rfl⟩
  simp
  omega
end Go.Proofs.YtnmkggoampkekaaGreatDoor

/- take: an event more. -/
namespace Go.Proofs.YtnmkggoampkekaaGreatDoor
open Go.RowKit Go.Maps

/-- A gathering whose processes have been looked up: the rest of it stands as it was. -/
theorem number_procs (w : World) (B h0 L gb mp mo mm k n : Nat) (g : Gs) (v0 v1 v2 : Value) (rs : List CV) (hg : GAt w B h0 L gb mp mo mm k n g v0 v1 v2 rs) (hF : Fix h0 L gb mp mo mm) (s : List UInt8) (hs : s.length ≤ 1048576) (hp : g.procs.length + 1 ≤ 1000000000) :
    Calls Tryz.prog 61 #[.pointer (some ⟨gb, 0, none⟩), .string (bsN s)] w fun e w' => e = .returned (.int .i64 (g.procs.idxOf s : Nat)) ∧ ∃ v0', GAt w' B h0 L gb mp mo mm k n { g with procs := addN g.procs s } v0' v1 v2 rs ∧ Below h0 w w' ∧ Keeps (fun x => x = gb ∨ x = mp ∨ v0.ownBlock = some x) w w' := by
  obtain ⟨⟨l1, l2, l3, l4, l5⟩, ⟨u1, u2, u3, u4⟩, ⟨d1, d2, d3, d4, d5, d6⟩⟩ := hF
  refine (number_k g.procs s hs w L gb mp 0 _ v0 hg.blk rfl rfl hg.pr hg.np u1 u2 d1 hg.sz hp).mono ?_
  rintro e w' ⟨rfl, v', b1, r1, n1, lie, kp⟩
  have hM : ∀ x, (x = gb ∨ x = mp ∨ v0.ownBlock = some x) → h0 ≤ x := fun x h => by
    rcases h with rfl | rfl | h
    · exact l1
    · exact l2
    · have := (hg.pr.lt x h).1; omega
  have bl := kp.toBelow (B := h0) (by have := hg.sz; omega) hM
  have ob' := kp.row hg.ob (fun x e h => by
    have := (hg.ob.lt x e).1
    rcases h with h | h | h
    · omega
    · omega
    · exact hg.dis x h e)
  have cl' := kp.row hg.cl (fun x e h => by
    have := (hg.cl.lt x e).1
    rcases h with h | h | h
    · omega
    · omega
    · exact row_types hg.pr hg.cl (by decide) x h e)
  refine ⟨rfl, v', ⟨b1, r1, ob', cl', hg.same, fun x hx => (hg.its x hx).below (bl.mono hg.bh), hg.bh, n1, kp.num hg.no ?_, kp.opn hg.om ?_, ?_, Nat.le_trans hg.sz kp.size⟩, bl, kp⟩
  · intro h
    rcases h with h | h | h
    · exact d2 h.symm
    · exact d4 h.symm
    · have := (hg.pr.lt _ h).1; omega
  · intro h
    rcases h with h | h | h
    · exact d3 h.symm
    · exact d5 h.symm
    · have := (hg.pr.lt _ h).1; omega
  · intro x e e'
    rcases lie with h | ⟨q, h1, h2⟩
    · rw [h] at e
      exact hg.dis x e e'
    · rw [h1] at e
      cases e
      have := (hg.ob.lt _ e').2
      omega
theorem number_objs (w : World) (B h0 L gb mp mo mm k n : Nat) (g : Gs) (v0 v1 v2 : Value) (rs : List CV) (hg : GAt w B h0 L gb mp mo mm k n g v0 v1 v2 rs) (hF : Fix h0 L gb mp mo mm) (s : List UInt8) (hs : s.length ≤ 1048576) (hp : g.objs.length + 1 ≤ 1000000000) :
    Calls Tryz.prog 61 #[.pointer (some ⟨gb, 2, none⟩), .string (bsN s)] w fun e w' => e = .returned (.int .i64 (g.objs.idxOf s : Nat)) ∧ ∃ v1', GAt w' B h0 L gb mp mo mm k n { g with objs := addN g.objs s } v0 v1' v2 rs ∧ Below h0 w w' ∧ Keeps (fun x => x = gb ∨ x = mo ∨ v1.ownBlock = some x) w w' := by
  obtain ⟨⟨l1, l2, l3, l4, l5⟩, ⟨u1, u2, u3, u4⟩, ⟨d1, d2, d3, d4, d5, d6⟩⟩ := hF
  refine (number_k g.objs s hs w L gb mo 2 _ v1 hg.blk rfl rfl hg.ob hg.no u1 u3 d2 hg.sz hp).mono ?_
  rintro e w' ⟨rfl, v', b1, r1, n1, lie, kp⟩
  have hM : ∀ x, (x = gb ∨ x = mo ∨ v1.ownBlock = some x) → h0 ≤ x := fun x h => by
    rcases h with rfl | rfl | h
    · exact l1
    · exact l3
    · have := (hg.ob.lt x h).1; omega
  have bl := kp.toBelow (B := h0) (by have := hg.sz; omega) hM
  have pr' := kp.row hg.pr (fun x e h => by
    have := (hg.pr.lt x e).1
    rcases h with h | h | h
    · omega
    · omega
    · exact hg.dis x e h)
  have cl' := kp.row hg.cl (fun x e h => by
    have := (hg.cl.lt x e).1
    rcases h with h | h | h
    · omega
    · omega
    · exact row_types hg.ob hg.cl (by decide) x h e)
  refine ⟨rfl, v', ⟨b1, pr', r1, cl', hg.same, fun x hx => (hg.its x hx).below (bl.mono hg.bh), hg.bh, kp.num hg.np ?_, n1, kp.opn hg.om ?_, ?_, Nat.le_trans hg.sz kp.size⟩, bl, kp⟩
  · intro h
    rcases h with h | h | h
    · exact d1 h.symm
    · exact d4 h
    · have := (hg.ob.lt _ h).1; omega
  · intro h
    rcases h with h | h | h
    · exact d3 h.symm
    · exact d6 h.symm
    · have := (hg.ob.lt _ h).1; omega
  · intro x e e'
    rcases lie with h | ⟨q, h1, h2⟩
    · rw [h] at e'
      exact hg.dis x e e'
    · rw [h1] at e'
      cases e'
      have := (hg.pr.lt _ e).2
      omega
theorem same_answer {rs : List CV} {l : List Cl} {c0 at' : Nat} {v : Vl} {x0 : CV} {sr : Value} (hs : rs.map (·.1) = l) (h : c0 < rs.length) (hx : rs[c0] = x0) : (rs.set c0 ({ x0.1 with res := (at' : Int), reply := v }, x0.2.1, sr)).map (·.1) = answer l c0 at' v := by
  subst hs hx
  apply List.ext_getElem
  · simp [answer_len]
  · intro i h1 h2
    rw [answer_get]
    simp only [List.getElem_map, List.getElem_set]
    split
    · rename_i e; subst e; rfl
    · rfl
theorem GAt.below {w w' : World} {B h0 L gb mp mo mm k n : Nat} {g : Gs} {v0 v1 v2 : Value} {rs : List CV} (hg : GAt w B h0 L gb mp mo mm k n g v0 v1 v2 rs) (hb : Below w.heap.size w w') (h0l : h0 ≤ w.heap.size) (_hF : Fix h0 L gb mp mo mm) : GAt w' B h0 L gb mp mo mm k n g v0 v1 v2 rs := by
  have kp := Keeps.below (M := fun _ => False) hb
  have hlt := (Array.getElem?_eq_some_iff.1 hg.blk).1
  exact ⟨(hb.block _ hlt).trans hg.blk, kp.row hg.pr (fun _ _ h => h), kp.row hg.ob (fun _ _ h => h), kp.row hg.cl (fun _ _ h => h), hg.same, fun x hx => (hg.its x hx).below (hb.mono (Nat.le_trans hg.bh h0l)), hg.bh, kp.num hg.np (fun h => h), kp.num hg.no (fun h => h), kp.opn hg.om (fun h => h), hg.dis, Nat.le_trans hg.sz hb.size⟩
set_option maxRecDepth 100000 in
set_option maxHeartbeats 4000000 in
theorem takeRes_k (e : Evn) (at' : Nat) (w : World) (B h0 L gb mp mo mm k n : Nat) (g : Gs) (v0 v1 v2 : Value) (rs : List CV) (s : Value) (hg : GAt w B h0 L gb mp mo mm k n g v0 v1 v2 rs) (hF : Fix h0 L gb mp mo mm) (h0l : h0 ≤ w.heap.size) (he : EvOk e) (hk : e.kind = 2) (hz : e.val.size ≤ 1000000000) (hi : ItemsAt w B n s e.val.items)
    (c0 : Nat) (hop : (g.procs.idxOf e.proc, c0) ∈ g.opn) (hone : findO g.opn (g.procs.idxOf e.proc) = c0) (hc0 : c0 < g.calls.length) (hp : g.procs.length + 1 ≤ 1000000000) (hcl : g.calls.length ≤ 1000000000) (_hat : at' ≤ 1000000000) :
    Calls Tryz.prog 46 #[.pointer (some ⟨gb, 0, none⟩), .int .i64 (at' : Int), .agg (evCells e s)] w fun r w' => (∃ v, r = .returned v) ∧ (∃ v0' v2' rs', GAt w' B h0 L gb mp mo mm k n (takeM g at' e) v0' v1 v2' rs') ∧ Below h0 w w' := by
  obtain ⟨W, hW⟩ : ∃ W, w.alloc (.cells (evCells e s) 61) = W := ⟨_, rfl⟩
  have bW : Below w.heap.size w W := by rw [← hW]; exact alloc_v (Below.refl _ _) _
  have e1 : W.heap[w.heap.size]? = some (.cells (evCells e s) 61 (0, 0)) := by rw [← hW]; exact World.alloc_heap_new w _
  have zW : w.heap.size < W.heap.size := (Array.getElem?_eq_some_iff.1 e1).1
  have gW := hg.below bW h0l hF
  have HN := hide (fun (U : World) (b : Below W.heap.size W U) => number_procs U B h0 L gb mp mo mm k n g v0 v1 v2 rs (gW.below b (by omega) hF) hF e.proc he.proc hp)
  have HE := hide (fun (U w1 : World) (b : Below W.heap.size W U) (kp : Keeps (fun x => x = gb ∨ x = mp ∨ v0.ownBlock = some x) U w1) => (show w1.heap[w.heap.size]? = some (.cells (evCells e s) 61 (0, 0)) from by
    refine (kp.block _ (by have := b.size; omega) (fun h => ?_)).trans ((b.block _ zW).trans e1)
    have := hg.sz
    have := hF.hi
    rcases h with h | h | h
    · omega
    · omega
    · have := (hg.pr.lt _ h).2; omega))
  have c1 := cells_at e1 1 _ rfl
  obtain ⟨sa, sc, rfl, _⟩ := hi.len
  clear hg gW e1
  go_enter Tryz.func46, Tryz.ntmps46
  go_wp2
  go_region_with (go_at_call 61; refine (HN.out _ (by first | exact Below.refl _ _ | exact (Below.refl _ _).drew | exact (Below.refl _ _).drew.drew)).mono ?_; rintro r w1 ⟨rfl, v0', g1, b1, k1⟩)
  have f1 := HE.out W.drew w1 (Below.refl _ _).drew k1
  have d0 := cells_at f1 0 _ rfl
  have hk2 : (e.kind == 2) = true := by simp [hk]
  have m4 := cells_at g1.blk 4 _ rfl
  have m5 := cells_at g1.blk 5 _ rfl
  obtain ⟨gc, cc, e2, lc, ltc⟩ := g1.cl.form (by show 0 < g.calls.length; omega)
  change v2 = .slice (some ⟨gc, 0, none⟩) g.calls.length cc at e2
  subst e2
  obtain ⟨D, hown, hD1, hD2, hD3, hD4⟩ := g1.om
  have hpi : g.procs.idxOf e.proc ≤ 1000000000 := by have := List.idxOf_le_length (a := e.proc) (l := g.procs); omega
  have hkey := keyInt _ hpi
  have hlk : ∀ j, (Instr.lookup 100 (.map (some mm)) (.int .i64 ((g.procs.idxOf e.proc : Nat) : Int)) false).run Tryz.prog (w1.drewN j) = .ok (.int .i64 (c0 : Int)) (w1.drewN j) := fun j => by
    obtain ⟨c, h1, h2, _⟩ := World.ownsMap.lookup_int (w := w1.drewN j) hown hLawInt Tryz.underlying100 Tryz.underlying3 (hZeroInt _) hkey
    have h3 := h2.symm.trans (hD2 _ _ hop)
    simp only [DataW.lit.injEq, Lit.int.injEq, true_and] at h3
    rw [h3] at h1
    exact h1
  have hlk0 := hlk 0
  have r0 : (0 : Int) ≤ (c0 : Int) := by omega
  have r1 : (c0 : Int) < (g.calls.length : Int) := by omega
  have HG := hide g1
  clear g1 hown hD1 hD2 hD3 hD4
  go_wp2
  go_quiet (fail)
  clear hlk hlk0 r0 r1 m4
  have hrl : rs.length = g.calls.length := by have := congrArg List.length HG.out.same; simpa using this
  obtain ⟨x0, hx0⟩ : ∃ x0, rs[c0]'(by omega) = x0 := ⟨_, rfl⟩
  have hce : ∀ i v, (clOf x0)[i]? = some v → w1.cell? ⟨gc, c0 * 15 + i, none⟩ = some v := fun i v h => by
    have hi15 : i < 15 := by
      have := (List.getElem?_eq_some_iff.1 h).1
      rwa [clOf_len] at this
    rw [HG.out.cl.cellAt (c0 * 15 + i) (by show _ < g.calls.length * 15; have := Nat.mul_le_mul_right 15 (show c0 + 1 ≤ g.calls.length by omega); omega), crow_get rs c0 (by omega) i hi15, hx0]
    exact h
  have p9 := hce 9 _ rfl
  have p10 := hce 10 _ rfl
  have p11 := hce 11 _ rfl
  have p12 := hce 12 _ rfl
  have p13 := hce 13 _ rfl
  have p14 := hce 14 _ rfl
  have z9 := HG.out.cl.frozenAt (c0 * 15 + 9)
  have z10 := HG.out.cl.frozenAt (c0 * 15 + 10)
  have z11 := HG.out.cl.frozenAt (c0 * 15 + 11)
  have z12 := HG.out.cl.frozenAt (c0 * 15 + 12)
  have z13 := HG.out.cl.frozenAt (c0 * 15 + 13)
  have z14 := HG.out.cl.frozenAt (c0 * 15 + 14)
  have d4 := cells_at f1 4 _ rfl
  have d5 := cells_at f1 5 _ rfl
  have d6 := cells_at f1 6 _ rfl
  have d7 := cells_at f1 7 _ rfl
  have d8 := cells_at f1 8 _ rfl
  have HCE := hide hce
  have HF1 := hide f1
  clear hce f1
  go_wp2
  go_region
  clear p9 p10 p11 p12 p13 p14 z9 z10 z11 z12 z13 z14 d4 d5 d6 d7 d8 d0 c1 hk2
  have hcl1 : (w1.drewN (nq + 1)).ownsRow L 69 15 (.slice (some ⟨gc, 0, none⟩) g.calls.length cc) g.calls.length (crow rs) := HG.out.cl
  have s1 := hcl1.stored (c0 * 15 + 9) (.int .i64 (at' : Int))
  have s2 := s1.1.stored (c0 * 15 + 10) (.int .i64 e.val.kind)
  have s3 := s2.1.stored (c0 * 15 + 11) (.int .i64 e.val.int)
  have s4 := s3.1.stored (c0 * 15 + 12) (.int .i64 e.val.im)
  have s5 := s4.1.stored (c0 * 15 + 13) (.string e.val.text)
  have s6 := s5.1.stored (c0 * 15 + 14) (.slice sa e.val.items.length sc)
  obtain ⟨X6, hX6⟩ : ∃ X6, ((((((w1.drewN (nq + 1)).setCell ⟨gc, c0 * 15 + 9, none⟩ (.int .i64 (at' : Int))).setCell ⟨gc, c0 * 15 + 10, none⟩ (.int .i64 e.val.kind)).setCell ⟨gc, c0 * 15 + 10 + 1, none⟩ (.int .i64 e.val.int)).setCell ⟨gc, c0 * 15 + 10 + 2, none⟩ (.int .i64 e.val.im)).setCell ⟨gc, c0 * 15 + 10 + 3, none⟩ (.string e.val.text)).setCell ⟨gc, c0 * 15 + 10 + 4, none⟩ (.slice sa e.val.items.length sc) = X6 := ⟨_, rfl⟩
  have k6 : Keeps (fun x => x = gc) w1 X6 := by
    rw [← hX6]
    exact (((((((⟨rfl, rfl, rfl, Nat.le_refl _, fun _ _ _ => rfl⟩ : Keeps (fun x => x = gc) w1 (w1.drewN (nq + 1))).trans (Keeps.set _ _ _ _) (fun _ _ h => h)).trans (Keeps.set _ _ _ _) (fun _ _ h => h)).trans (Keeps.set _ _ _ _) (fun _ _ h => h)).trans (Keeps.set _ _ _ _) (fun _ _ h => h)).trans (Keeps.set _ _ _ _) (fun _ _ h => h)).trans (Keeps.set _ _ _ _) (fun _ _ h => h))
  have row6 : X6.ownsRow L 69 15 (.slice (some ⟨gc, 0, none⟩) g.calls.length cc) g.calls.length (crow (rs.set c0 ({ x0.1 with res := (at' : Int), reply := e.val }, x0.2.1, .slice sa e.val.items.length sc))) := by
    have s7 := s6.1
    rw [crow_split rs c0 (by omega), hx0, crow_set rs c0 (by omega) _ (by rfl) 9 (by omega), crow_set rs c0 (by omega) _ (by rfl) 10 (by omega), crow_set rs c0 (by omega) _ (by rfl) 11 (by omega), crow_set rs c0 (by omega) _ (by rfl) 12 (by omega), crow_set rs c0 (by omega) _ (by rfl) 13 (by omega), crow_set rs c0 (by omega) _ (by rfl) 14 (by omega)] at s7
    rw [crow_with rs c0 (by omega), ← hX6]
    exact s7
  rw [hX6]
  clear hX6 s1 s2 s3 s4 s5 s6 hcl1
  have hgl := (Array.getElem?_eq_some_iff.1 HG.out.blk).1
  have hFh := hF.hi
  have hFn := hF.ne
  have blk6 := (k6.block gb hgl (show gb ≠ gc by omega)).trans HG.out.blk
  have m6 := cells_at blk6 5 _ rfl
  obtain ⟨D, hown, hD1, hD2, hD3, hD4⟩ := HG.out.om
  have hown6 := k6.map hown (show mm ≠ gc by omega)
  have HO6 := hide hown6
  have HR6 := hide row6
  have HK6 := hide k6
  have HDD := hide (opn_del (p := g.procs.idxOf e.proc) (hown.tidy hLawInt) (List.mem_map.2 ⟨_, hop, rfl⟩) hD1 hD2 hD3 hD4)
  clear hown hown6 hD1 hD2 hD3 hD4 row6 k6 blk6 m5
  go_wp2_with (at_delete; refine wpList_delete_own _ rfl _ _ 100 3 rfl 3 hLawInt Tryz.underlying100 _ mm k D rfl HO6.out _ _ rfl hkey ?_; intro w8 hown8 hturn8; have HO8 := hide hown8; have HT8 := hide hturn8.grown; clear hown8 hturn8)
  refine bodyPost_ret (results_none rfl _ _ _) rfl ?_
  have kA : Keeps (fun x => x = mm) X6 w8 := Keeps.grown HT8.out (fun r e => by cases e; rfl)
  have k8 : Keeps (fun x => x = gc ∨ x = mm) w1 w8 := (HK6.out.mono (fun x _ h => .inl h)).trans kA (fun x _ h => .inr h)
  have g1 := HG.out
  have hsz1 := g1.sz
  have hLl := hF.lo
  have bl8 : Below h0 w1 w8 := k8.toBelow (by omega) (fun x h => by rcases h with rfl | rfl <;> omega)
  have blw : Below h0 w w8 := ((bW.mono h0l).drew.trans b1).trans bl8
  have hcal : (takeM g at' e) = ⟨addN g.procs e.proc, g.objs, answer g.calls c0 at' e.val, dropO g.opn (g.procs.idxOf e.proc)⟩ := by unfold takeM; rw [if_pos hk, hone]
  rw [hcal]
  have hne : ∀ {v : Value} {t : TypeId} {z m : Nat} {xs : List Value}, w1.ownsRow L t z v m xs → t ≠ 69 → ∀ x, v.ownBlock = some x → ¬ (x = gc ∨ x = mm) := fun hr ht x ex h => by
    rcases h with rfl | rfl
    · exact row_types hr g1.cl ht _ ex rfl
    · have := (hr.lt _ ex).1; omega
  refine ⟨⟨_, rfl⟩, ⟨v0', _, rs.set c0 ({ x0.1 with res := (at' : Int), reply := e.val }, x0.2.1, .slice sa e.val.items.length sc), ⟨(k8.block gb hgl (by omega)).trans g1.blk, k8.row g1.pr (hne g1.pr (by decide)), k8.row g1.ob (hne g1.ob (by decide)), ?_, same_answer g1.same (by omega) hx0, fun x hx => ?_, g1.bh, k8.num g1.np (by omega), k8.num g1.no (by omega), ⟨_, HO8.out, HDD.out⟩, g1.dis, Nat.le_trans hsz1 k8.size⟩⟩, blw⟩
  · show w8.ownsRow L 69 15 _ (answer g.calls c0 at' e.val).length _
    rw [answer_len]
    exact kA.row HR6.out (fun x ex h => by have := (HR6.out.lt x ex).1; omega)
  · rcases List.mem_or_eq_of_mem_set hx with hx | rfl
    · exact (g1.its x hx).below (bl8.mono g1.bh)
    · have hm : x0 ∈ rs := by rw [← hx0]; exact List.getElem_mem _
      have hi0 := (g1.its x0 hm).below (bl8.mono g1.bh)
      exact ⟨hi0.1, hi.below (blw.mono g1.bh), hi0.2.2.1, he.val, hi0.2.2.2.2.1, hz, hi0.2.2.2.2.2.2⟩
end Go.Proofs.YtnmkggoampkekaaGreatDoor
