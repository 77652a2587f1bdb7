/- roll: names numbered in the order in which they come first. -/
import Derived.Test.YtooddjfkibbkeaaDoorZHIll
import Derived.Test.YtooddjfkibbkeaaDoorGSetM
import Derived.Maps.OwnOps
namespace Go.Proofs.YtooddjfkibbkeaaDoor
open Go.RowKit Go.Maps

/-- All that is not among some blocks stays. -/
structure Keeps (M : Nat → Prop) (w w' : World) : Prop where
  os : w'.os = w.os
  tape : w'.tape = w.tape
  output : w'.output = w.output
  size : w.heap.size ≤ w'.heap.size
  block : ∀ k, k < w.heap.size → ¬ M k → w'.heap[k]? = w.heap[k]?
theorem Keeps.refl (M : Nat → Prop) (w : World) : Keeps M w w := ⟨rfl, rfl, rfl, Nat.le_refl _, fun _ _ _ => rfl⟩
theorem Keeps.trans {M M' : Nat → Prop} {u v w : World} (h : Keeps M u v) (k : Keeps M' v w) (hM : ∀ x, x < u.heap.size → M' x → M x) : Keeps M u w :=
  ⟨k.os.trans h.os, k.tape.trans h.tape, k.output.trans h.output, Nat.le_trans h.size k.size, fun x hx hn => (k.block x (Nat.lt_of_lt_of_le hx h.size) (fun hm => hn (hM x hx hm))).trans (h.block x hx hn)⟩
theorem Keeps.mono {M M' : Nat → Prop} {v w : World} (h : Keeps M v w) (hM : ∀ x, x < v.heap.size → M x → M' x) : Keeps M' v w := ⟨h.os, h.tape, h.output, h.size, fun x hx hn => h.block x hx (fun hm => hn (hM x hx hm))⟩
theorem Keeps.grown {M : Nat → Prop} {w w' : World} {row : Option Nat} (h : w.grownBy w' row) (hM : ∀ r, row = some r → M r) : Keeps M w w' :=
  ⟨h.os, h.tape, h.output, h.size, fun k hk hn => h.block k hk (fun e => hn (hM k e.symm))⟩
theorem Keeps.below {M : Nat → Prop} {w w' : World} (h : Below w.heap.size w w') : Keeps M w w' := Keeps.grown (grown_below h) (fun _ e => by cases e)
theorem Keeps.toBelow {M : Nat → Prop} {w w' : World} {B : Nat} (h : Keeps M w w') (hB : B ≤ w.heap.size) (hM : ∀ x, M x → B ≤ x) : Below B w w' :=
  ⟨h.os, h.tape, h.output, h.size, fun k hk => h.block k (by omega) (fun hm => by have := hM k hm; omega)⟩
theorem Keeps.row {M : Nat → Prop} {w w' : World} {L : Nat} {t : TypeId} {z n : Nat} {v : Value} {xs : List Value} (h : Keeps M w w') (hr : w.ownsRow L t z v n xs) (hM : ∀ k, v.ownBlock = some k → ¬ M k) : w'.ownsRow L t z v n xs := by
  refine ⟨hr.1, ?_⟩
  rcases hr.2 with h1 | ⟨g, cap, cur, hv, hb, hg, h2⟩
  · exact .inl h1
  · exact .inr ⟨g, cap, cur, hv, hb, (h.block g (Array.getElem?_eq_some_iff.1 hg).1 (hM g (by rw [hv]; rfl))).trans hg, h2⟩
theorem Keeps.map {M : Nat → Prop} {w w' : World} {P : Program} {k : TypeId} {R : Value → Option (DataW Unit × List MemPlace)} {b n : Nat} {D : DataW Unit} (h : Keeps M w w') (hm : w.ownsMap P k R b n D) (hM : ¬ M b) : w'.ownsMap P k R b n D := by
  have hlt := hm.lt
  obtain ⟨es, clock, h1, h2⟩ := hm
  exact ⟨es, clock, (h.block b hlt hM).trans h1, h2⟩
theorem rowLen {w : World} {L : Nat} {t : TypeId} {z n : Nat} {v : Value} {xs : List Value} (hr : w.ownsRow L t z v n xs) : ∃ a c, v = .slice a n c := by
  rcases hr.2 with ⟨h1, h2⟩ | ⟨g, cap, cur, hv, _⟩
  · exact ⟨none, 0, by rw [h1, h2]⟩
  · exact ⟨_, _, hv⟩
def strs (l : List (List UInt8)) : List Value := l.map (fun s => .string (bsN s))
theorem infoStrH : (Tryd.prog.info? 9).map (fun i => (i.zero, i.size, i.bytes)) = some (some (.string ⟨#[]⟩), 1, 16) := by kernel_rfl
/-- One name more is laid behind. -/
theorem strPushH {w : World} {L n : Nat} {v : Value} {xs : List Value} (h : w.ownsRow L 9 1 v n xs) (hL : L ≤ w.heap.size) (hn : n + 1 ≤ 1000000000) (s : ByteArray) (ty : TypeId) :
    ∃ g cap w', (Builtin.append_ #[24, 24] ty #[v, .slice (some ⟨w.heap.size, 0, none⟩) 1 1]).run Tryd.prog (w.alloc (.cells #[.string s] 9)) = .ok (.slice (some ⟨g, 0, none⟩) (n + 1) cap) w' ∧ w'.ownsRow L 9 1 (.slice (some ⟨g, 0, none⟩) (n + 1) cap) (n + 1) (xs ++ [.string s]) ∧ w.grownBy w' v.ownBlock ∧ (v.ownBlock = some g ∨ w.heap.size ≤ g) := by
  obtain ⟨i0, hi, hz0, hz1, hz2⟩ := info_partsV infoStrH
  have bA : Below w.heap.size w (w.alloc (.cells #[.string s] 9)) := alloc_v (Below.refl _ _) _
  have e := World.alloc_heap_new w (.cells #[.string s] 9)
  have hA : (w.alloc (.cells #[.string s] 9)).ownsRow L 9 1 v n xs := h.kept (grown_of_below (r := none) bA) (by cases v.ownBlock <;> simp)
  obtain ⟨g, cap, w', hrun, A1, A2, A3, A4⟩ := run_append_lies (P := Tryd.prog) (w.alloc (.cells #[.string s] 9)) 24 ty L 9 i0 _ 1 16 Tryd.underlying24 hi hz0 hz1 hz2 rfl (by decide) v n xs hA ⟨w.heap.size, 0, none⟩ 1 1 [.string s] rfl (fun j u hj => by
      rw [Addr.add_lit, Nat.zero_add]
      exact cells_at e j u (by simpa using hj)) (fun u hu => by simp at hu; subst hu; rfl) (by omega) (by unfold maxLen; omega) (by omega) (by rw [World.size_alloc]; omega) (w.heap.size + 1) (by rw [World.size_alloc])
  refine ⟨g, cap, w', hrun, A1, ?_, ?_⟩
  · exact (World.grownBy_alloc w _ _).trans A2
  · rcases A3 with A3 | A3
    · exact .inl A3
    · exact .inr (by omega)
theorem hZeroInt (w : World) : (zeroValue 3).run Tryd.prog w = .ok (.int .i64 0) w := by kernel_rfl
/-- Names and their numbers in a map. -/
def NumM (w : World) (mb : Nat) (l : List (List UInt8)) : Prop := ∃ D : DataW Unit, w.ownsMap Tryd.prog 9 (plainElem Tryd.prog 3) mb l.length D ∧ (∀ s, Maps.has D (.string s) = decide (s ∈ l)) ∧ ∀ s ∈ l, D.atKey (.string s) (.lit (.int .i64 0)) = .lit (.int .i64 (l.idxOf s))
theorem NumM.new (w : World) : NumM (w.alloc (.map #[] 0)) w.heap.size [] := ⟨_, World.ownsMap_made _ _ _ _, fun s => by simp [Maps.has], fun s h => by cases h⟩
theorem Keeps.num {M : Nat → Prop} {w w' : World} {mb : Nat} {l : List (List UInt8)} (h : Keeps M w w') (hm : NumM w mb l) (hM : ¬ M mb) : NumM w' mb l := by
  obtain ⟨D, h1, h2⟩ := hm
  exact ⟨D, h.map h1 hM, h2⟩
theorem num_put {D : DataW Unit} {l : List (List UInt8)} {t : List UInt8} (hm : IsMap D) (ht : t ∉ l) (h1 : ∀ s, Maps.has D (.string s) = decide (s ∈ l)) (h2 : ∀ s ∈ l, D.atKey (.string s) (.lit (.int .i64 0)) = .lit (.int .i64 (l.idxOf s))) :
    (∀ s, Maps.has (D.put (.string t) (.lit (.int .i64 (l.length : Int)))) (.string s) = decide (s ∈ addN l t)) ∧ ∀ s ∈ addN l t, (D.put (.string t) (.lit (.int .i64 (l.length : Int)))).atKey (.string s) (.lit (.int .i64 0)) = .lit (.int .i64 ((addN l t).idxOf s)) := by
  constructor
  · intro s
    by_cases e : s = t
    · subst e
      rw [has_put_same (k := .string s) hm trivial]
      simp [mem_add]
    · rw [has_put_other (by simpa using e), h1]
      simp [mem_add, e]
  · intro s hs
    by_cases e : s = t
    · subst e
      rw [atKey_put_same (k := .string s) hm trivial, idx_add, List.idxOf_eq_length ht]
    · have hsl : s ∈ l := by rcases mem_add.1 hs with h | h; exact h; exact absurd h e
      rw [atKey_put_other (by simpa using e), h2 s hsl, idx_add_old hsl]
theorem set_same {cs : Array Value} {o : Nat} {v : Value} (h : cs[o]? = some v) : cs.setIfInBounds o v = cs := by
  obtain ⟨hlt, e⟩ := Array.getElem?_eq_some_iff.1 h
  apply Array.ext
  · simp
  · intro i h1 h2
    rw [Array.getElem_setIfInBounds]
    split
    · rename_i e'; subst e'; exact e.symm
    · rfl
set_option maxRecDepth 100000 in
set_option maxHeartbeats 2000000 in
theorem number_k (names : List (List UInt8)) (s : List UInt8) (hs : s.length ≤ 1048576) (w : World) (L gb mb o : Nat) (cs : Array Value) (v : Value) (hblk : w.heap[gb]? = some (.cells cs 84 (0, 0))) (h0 : cs[o]? = some v) (h1 : cs[o + 1]? = some (.map (some mb)))
    (hrow : w.ownsRow L 9 1 v names.length (strs names)) (hnum : NumM w mb names) (hg : gb < L) (hm : mb < L) (hne : gb ≠ mb) (hL : L ≤ w.heap.size) (hlen : names.length + 1 ≤ 1000000000) :
    Calls Tryd.prog 54 #[.pointer (some ⟨gb, o, none⟩), .string (bsN s)] w fun e w' => e = .returned (.int .i64 (names.idxOf s : Nat)) ∧ ∃ v', w'.heap[gb]? = some (.cells (cs.setIfInBounds o v') 84 (0, 0)) ∧ w'.ownsRow L 9 1 v' (addN names s).length (strs (addN names s)) ∧ NumM w' mb (addN names s) ∧
      (v'.ownBlock = v.ownBlock ∨ ∃ g, v'.ownBlock = some g ∧ w.heap.size ≤ g) ∧ Keeps (fun k => k = gb ∨ k = mb ∨ v.ownBlock = some k) w w' := by
  have c0 := cells_at hblk o v h0
  have c1 := cells_at hblk (o + 1) _ h1
  have q0 := frozen_at hblk o
  obtain ⟨D, hown, hD1, hD2⟩ := hnum
  have hkey := keyStr hs
  have hDk := hD1 s
  by_cases hin : s ∈ names
  · have hdk : Maps.has D (.string s) = true := by rw [hDk]; simp [hin]
    have hat := hD2 s hin
    have hadd : addN names s = names := if_pos hin
    have HH := hide (And.intro hblk (And.intro hrow (And.intro hadd (And.intro h0 (And.intro hD1 hD2)))))
    have HO := hide hown
    have HAT := hide hat
    clear hD1 hD2 hat hadd hin hDk hown hrow hblk
    go_enter Tryd.func54, Tryd.ntmps54
    go_wp2_with (at_lookup; refine wpList_lookup_own_ok_int _ rfl _ _ 79 rfl 9 3 .i64 hLawStr Tryd.underlying79 Tryd.underlying3 (hZeroInt _) mb names.length D rfl HO.out _ _ rfl hkey ?_; intro c hat hwc; rw [hdk])
    go_ret
    obtain ⟨hblk, hrow, hadd, h0, hD1, hD2⟩ := HH.out
    have e := HAT.out.symm.trans hat
    simp only [DataW.lit.injEq, Lit.int.injEq, true_and] at e
    refine ⟨by rw [← e]; rfl, v, by rw [set_same h0]; exact hblk, by rw [hadd]; exact hrow, by rw [hadd]; exact ⟨D, HO.out, hD1, hD2⟩, .inl rfl, Keeps.refl _ _⟩
  · have hdk : Maps.has D (.string s) = false := by rw [hDk]; simp [hin]
    have hadd : addN names s = names ++ [s] := if_neg hin
    have hix : names.idxOf s = names.length := List.idxOf_eq_length hin
    obtain ⟨ra, rc, rfl⟩ := rowLen hrow
    obtain ⟨g, cap, w1, hrun, r1, gr1, lie⟩ := strPushH hrow hL hlen (bsN s) 24
    have hgb1 : some gb ≠ (Value.slice ra names.length rc).ownBlock := fun e => by have := (hrow.lt gb e.symm).1; omega
    have hmb1 : some mb ≠ (Value.slice ra names.length rc).ownBlock := fun e => by have := (hrow.lt mb e.symm).1; omega
    have hlg := (Array.getElem?_eq_some_iff.1 hblk).1
    have blk1 := (gr1.block gb hlg hgb1).trans hblk
    have k1 := cells_at blk1 o _ h0
    have k2 := cells_at blk1 (o + 1) _ h1
    have z0 := frozen_at blk1 o
    have hos : o < cs.size := (Array.getElem?_eq_some_iff.1 h0).1
    have blk2 := heap_setCell_same _ _ o _ _ (.slice (some ⟨g, 0, none⟩) (names.length + 1) cap) blk1
    obtain ⟨W2, hW2⟩ : ∃ W2, w1.setCell ⟨gb, o, none⟩ (.slice (some ⟨g, 0, none⟩) (names.length + 1) cap) = W2 := ⟨_, rfl⟩
    have kS : Keeps (fun k => k = gb) w1 W2 := by
      rw [← hW2]
      exact Keeps.grown (row := some gb) ⟨rfl, rfl, rfl, by simp [World.setCell], fun k _ hne => Below.heap_setCell w1 _ _ k (fun e => hne (by rw [e]))⟩ (fun r e => by cases e; rfl)
    rw [hW2] at blk2
    have kA : Keeps (fun k => k = gb ∨ k = mb ∨ (Value.slice ra names.length rc).ownBlock = some k) w W2 := (Keeps.grown gr1 (fun r e => .inr (.inr e))).trans kS (fun x _ h => .inl h)
    have m2 := cells_at blk2 (o + 1) (.map (some mb)) (by rw [Array.getElem?_setIfInBounds]; rw [if_neg (by omega)]; exact h1)
    have row2 := kS.row r1 (fun k e => by have := (r1.lt k e).1; intro h; omega)
    have hown2 : W2.ownsMap Tryd.prog 9 (plainElem Tryd.prog 3) mb names.length D := kS.map (hown.kept gr1 hmb1) (fun h => hne h.symm)
    have hlm : mb < w.heap.size := by omega
    have HO := hide hown
    have HO2 := hide hown2
    have HRN := hide hrun
    have HM := hide (hown.isMap)
    have HH := hide (And.intro hadd (And.intro hix (And.intro blk2 (And.intro row2 (And.intro kA (And.intro hD1 (And.intro hD2 lie)))))))
    have hnl : names.length ≤ 1000000000 := by omega
    have Hin := hide hin
    clear hD1 hD2 hadd hix hin hDk hown hown2 hrow hblk blk1 blk2 row2 kA kS gr1 r1 hrun lie
    go_enter Tryd.func54, Tryd.ntmps54
    go_wp2_with (first
      | (at_lookup; refine wpList_lookup_own_ok_int _ rfl _ _ 79 rfl 9 3 .i64 hLawStr Tryd.underlying79 Tryd.underlying3 (hZeroInt _) mb names.length D rfl HO.out _ _ rfl hkey ?_; intro c hat hwc; rw [hdk])
      | (at_builtin; refine Lib.wpList_append_run _ rfl (.tmp 27) (.tmp 29) 24 24 rfl _ _ rfl rfl _ _ HRN.out ?_; clear HRN)
      | (at_mapUpdate; refine wpList_mapUpdate_own _ rfl _ _ _ 79 rfl 9 3 hLawStr Tryd.underlying79 (plainElem Tryd.prog 3) mb names.length _ rfl HO2.out (by unfold maxLen; omega) _ _ _ rfl rfl hkey _ [] (plainElem_int Tryd.underlying3 (WalkArith.wf_i64 (by omega))) ?_; intro w3 hown3 hgrow3; have HO3 := hide hown3; have HG3 := hide hgrow3; clear hown3 hgrow3))
    go_ret
    obtain ⟨hadd, hix, blk2, row2, kA, hD1, hD2, lie⟩ := HH.out
    have hp := num_put HM.out Hin.out hD1 hD2
    have hz := kA.size
    have hgl := (Array.getElem?_eq_some_iff.1 blk2).1
    have kB : Keeps (fun k => k = mb) W2 w3 := Keeps.grown HG3.out (fun r e => by cases e; rfl)
    refine ⟨by rw [hix]; rfl, .slice (some ⟨g, 0, none⟩) (names.length + 1) cap, (kB.block gb hgl hne).trans blk2, ?_, ⟨_, ?_, hp⟩, ?_, kA.trans kB (fun x _ h => .inr (.inl h))⟩
    · rw [hadd, List.length_append, List.length_singleton]
      have := kB.row row2 (fun k e => by have := (row2.lt k e).1; intro h; omega)
      simpa [strs] using this
    · rw [hadd, List.length_append, List.length_singleton]
      exact HO3.out
    · rcases lie with h | h
      · exact .inl (by rw [h]; rfl)
      · exact .inr ⟨g, rfl, h⟩
end Go.Proofs.YtooddjfkibbkeaaDoor
