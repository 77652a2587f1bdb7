/- tells answers true of a set and the document's set that say the same; the set is as before. -/
import Derived.Test.YtfagjejknnkhdaaDoorBRef
import Derived.Test.YtfagjejknnkhdaaDoorBInts
import Derived.Test.YtfagjejknnkhdaaDoorBHeads
import Derived.Sort.BigQuietIn
import Derived.Sort.QuietIn
import Derived.Stop.RegionWithIn
namespace Go.Proofs.YtfagjejknnkhdaaDoor
open Go.RowKit
attribute [local go_sem] Oper.semAt_some

/-- An append inside of a fence, with word of where the row lies behind it. -/
theorem append_in {F : Fence} {n : Nat} {P : Program} (w : World) {ops : Array Oper} {rest : List Oper} {o : Oper} {a : Act} {Q : Exit → Act → World → Prop}
    (hg : o.guard = none) (s x : Operand) (t : TypeId) (hop : o.op = Op.call { callee := Callee.builtin Builtin.append, args := #[s, x], argTypes := #[t, t] })
    (base : Nat) (e : TypeId) (i : TypeInfo) (z : Value) (size bytes : Nat) (h1 : P.underlying t = some (.slice e)) (h2 : P.info? e = some i) (h3 : i.zero = some z) (h4 : i.size = size) (h5 : i.bytes = bytes) (h6 : z.cells.size = size) (h7 : 0 < size)
    (v : Value) (k : Nat) (xs : List Value) (hs : a.eval s = v) (hown : w.ownsRow base e size v k xs) (ad : Addr) (m c : Nat) (news : List Value) (hx : a.eval x = .slice (some ad) m c) (hn : news.length = m * size)
    (hc : ∀ j u, news[j]? = some u → w.cell? (ad.add j) = some u) (h1c : ∀ u ∈ news, u.oneCell' = true) (b1 : k + m ≤ maxLen) (b2 : (k + m) * bytes ≤ 140737488355328) (b3 : base ≤ w.heap.size)
    (hK : ∀ v' w', w'.ownsRow base e size v' (k + m) (xs ++ news) → w.grownBy w' v.ownBlock → (v'.ownBlock = v.ownBlock ∨ v'.ownBlock = some w.heap.size) → wpListIn F n P ops Q rest (a.put o.dst v') w') :
    wpListIn F n P ops Q (o :: rest) a w := by
  obtain ⟨v', w', hrun, r1, r2, _, r4⟩ := run_append_own_at (P := P) w base t o.type e i z size bytes h1 h2 h3 h4 h5 h6 h7 v k xs hown ad m c news hn hc h1c b1 b2 b3
  refine wpListIn_plain hg fun K hK' => ?_
  unfold Oper.wpIn
  refine ⟨by simp [Oper.about, hop, resolve, Target.leads, Sem.run_pure], ?_⟩
  rw [Oper.semAt_plain F _ _ (by rw [hop]; intro c hc'; cases hc')]
  simp [execOp, hop, resolve, invoke, builtin, hs, hx, hrun, Result.andThen]
  exact hK' _ _ (hK v' w' r1 r2 r4)

/-- A slice in a box is grown by append. -/
theorem app_step {W w1 : World} {b base : Nat} {t e : TypeId} {size : Nat} {v v' : Value} {k m : Nat} {xs ys : List Value} {tmp : Obj}
    (hv : Boxed W b t v) (hte : t ≠ e) (hrow : W.ownsRow base e size v k xs) (hown' : w1.ownsRow base e size v' m ys) (hgrow : (W.alloc tmp).grownBy w1 v.ownBlock) :
    Boxed w1 b t v ∧ Boxed (w1.setCell ⟨b, 0, none⟩ v') b t v' ∧ (w1.setCell ⟨b, 0, none⟩ v').ownsRow base e size v' m ys ∧
      ((w1.setCell ⟨b, 0, none⟩ v').os = W.os ∧ (w1.setCell ⟨b, 0, none⟩ v').tape = W.tape ∧ (w1.setCell ⟨b, 0, none⟩ v').output = W.output) ∧ W.heap.size < (w1.setCell ⟨b, 0, none⟩ v').heap.size ∧
      ∀ j, j < W.heap.size → j ≠ b → some j ≠ v.ownBlock → (w1.setCell ⟨b, 0, none⟩ v').heap[j]? = W.heap[j]? := by
  have hvb : v.ownBlock ≠ some b := fun e' => by
    rcases hrow.2 with ⟨rfl, _⟩ | ⟨g, cap, cur, rfl, _, hg, _⟩
    · simp [Value.ownBlock] at e'
    · have : g = b := by simpa [Value.ownBlock] using e'
      subst this
      have := hg.symm.trans hv
      simp at this
      exact hte this.2.symm
  have hvb' : v'.ownBlock ≠ some b := fun e' => by
    rcases hown'.2 with ⟨rfl, _⟩ | ⟨g, cap, cur, rfl, _, hg, _⟩
    · simp [Value.ownBlock] at e'
    · have : g = b := by simpa [Value.ownBlock] using e'
      subst this
      have hb1 : w1.heap[g]? = _ := ((hv.alloc tmp).kept hgrow (Ne.symm hvb))
      have := hg.symm.trans hb1
      simp at this
      exact hte this.2.symm
  have hv1 : Boxed w1 b t v := (hv.alloc tmp).kept hgrow (Ne.symm hvb)
  have hsz := hgrow.size
  rw [World.size_alloc] at hsz
  refine ⟨hv1, hv1.set v', ownsRow_setCell_other hown' hvb' v', ⟨hgrow.os, hgrow.tape, hgrow.output⟩, by simp [World.setCell]; omega, fun j hj h1 h2 => ?_⟩
  rw [Below.heap_setCell _ _ _ _ (by simpa using h1), hgrow.block j (by simp; omega) h2, Below.heap_alloc _ _ _ hj]

theorem RefAt.apart {w : World} {sb g cap n pb gb cb : Nat} {ws : List Nat} {bs : List Bool} (h : SetAt w sb g cap n ws) (k : RefAt w pb gb cb bs) : pb ≠ g ∧ gb ≠ g ∧ gb ≠ sb ∧ pb ≠ sb := by
  obtain ⟨cur, hc⟩ := row_block_is h.row
  obtain ⟨cur2, hc2⟩ := row_block_is k.row
  refine ⟨?_, ?_, ?_, ?_⟩
  · rintro rfl
    have := k.st.symm.trans hc
    simp at this
  · rintro rfl
    have := hc2.symm.trans hc
    simp at this
  · rintro rfl
    have := hc2.symm.trans h.st
    simp at this
  · rintro rfl
    have := k.st.symm.trans h.st
    simp at this
theorem grown_up {w w' w'' : World} {g r : Nat} (h : w.grownBy w' (some g)) (k : w'.grownBy w'' (some r)) (hr : w.heap.size ≤ r) : w.grownBy w'' (some g) :=
  ⟨k.os.trans h.os, k.tape.trans h.tape, k.output.trans h.output, Nat.le_trans h.size k.size, fun j hj hne => (k.block j (Nat.lt_of_lt_of_le hj h.size) (by simp; omega)).trans (h.block j hj hne)⟩
theorem grown_none {w w' w'' : World} {g : Nat} (h : w.grownBy w' (some g)) (k : w'.grownBy w'' none) : w.grownBy w'' (some g) :=
  ⟨k.os.trans h.os, k.tape.trans h.tape, k.output.trans h.output, Nat.le_trans h.size k.size, fun j hj hne => (k.block j (Nat.lt_of_lt_of_le hj h.size) (by simp)).trans (h.block j hj hne)⟩

/-- What stands between the rounds: the numbers so far are in the list, and out of the set. -/
structure TI (w : World) (sb g cap n : Nat) (ws : List Nat) (pre : List Nat) (S : Blocks) (W : World) (v : Value) : Prop where
  lbox : Boxed W (w.heap.size + 1 + 1) 55 v
  row : W.ownsRow (w.heap.size + 3) 3 1 v pre.length (nats pre)
  out : ∀ r, v.ownBlock = some r → ¬ S r
  sbox : Boxed W w.heap.size 23 (.pointer (some ⟨sb, 0, none⟩))
  set : SetAt W sb g cap n (dropAll ws pre)
  fr : w.grownBy W (some g)
  own : ∀ k, S k → w.heap.size + 3 ≤ k
def TIn (w : World) (sb g cap n : Nat) (ws : List Nat) (pre : List Nat) (S : Blocks) (W : World) : Prop := ∃ v, TI w sb g cap n ws pre S W v

theorem TIn.own {w : World} {sb g cap n : Nat} {ws : List Nat} (hsb : sb < w.heap.size) (hg0 : g < w.heap.size) : OwnL (w.heap.size + 3) (TIn w sb g cap n ws) := by
  refine ⟨?_, ?_⟩
  · rintro pre S W W' row ⟨v, h⟩ hg hr
    have hlow : ∀ r, row = some r → w.heap.size + 3 ≤ r := fun r e => by
      rcases hr r e with h' | h'
      · exact h'.1
      · exact h.own r h'
    refine ⟨v, h.lbox.kept hg (fun e => by have := hlow _ e.symm; omega), h.row.kept hg ?_, h.out, h.sbox.kept hg (fun e => by have := hlow _ e.symm; omega), h.set.kept hg (fun e => by have := hlow _ e; omega) (fun e => by have := hlow _ e; omega), ?_, h.own⟩
    · by_cases hn : v.ownBlock = none
      · exact .inl hn
      · refine .inr fun e => ?_
        cases hv : v.ownBlock with
        | none => exact hn hv
        | some r =>
          rw [hv] at e
          rcases hr r e.symm with ⟨_, o, ho, hoc⟩ | h'
          · rcases h.row.2 with ⟨rfl, _⟩ | ⟨g', cap', cur, rfl, _, hg', _⟩
            · simp [Value.ownBlock] at hv
            · have : g' = r := by simpa [Value.ownBlock] using hv
              subst this
              rw [hg'] at ho
              cases ho
              cases hoc
          · exact h.out r hv h'
    · cases row with
      | none => exact grown_none h.fr hg
      | some r => exact grown_up h.fr hg (by have := hlow r rfl; omega)
  · rintro pre S S' W ⟨v, h⟩ hc
    refine ⟨v, h.lbox, h.row, fun r hv hs => ?_, h.sbox, h.set, h.fr, fun k hk => ?_⟩
    · rcases hc r hs with h' | h'
      · exact h.out r hv h'
      · have := (h.row.lt r hv).2; omega
    · rcases hc k hk with h' | h'
      · exact h.own k h'
      · have := h.lbox.lt; omega

theorem SetAt.blocks {w w' : World} {sb g cap n : Nat} {ws : List Nat} (h : SetAt w sb g cap n ws) (e1 : w'.heap[sb]? = w.heap[sb]?) (e2 : w'.heap[g]? = w.heap[g]?) : SetAt w' sb g cap n ws := by
  refine ⟨e1.trans h.st, ⟨h.row.1, ?_⟩, h.len, h.room, h.fit⟩
  rcases h.row.2 with ⟨h, _⟩ | ⟨g', cap', cur, hv, hb', hh, rest⟩
  · cases h
  · have hv' := hv
    simp only [Value.slice.injEq, Option.some.injEq, Addr.mk.injEq, and_true, true_and] at hv'
    obtain ⟨rfl, rfl⟩ := hv'
    exact .inr ⟨_, _, cur, rfl, hb', e2.trans hh, rest⟩
theorem TI.low {w : World} {sb g cap n : Nat} {ws pre : List Nat} {S : Blocks} {W : World} {v : Value} (h : TI w sb g cap n ws pre S W v) {W3 : World}
    (q7 : ∀ j, j < W.heap.size → j ≠ w.heap.size + 1 + 1 → some j ≠ v.ownBlock → W3.heap[j]? = W.heap[j]?) {j : Nat} (hj : j < w.heap.size + 1 + 1) : W3.heap[j]? = W.heap[j]? :=
  q7 j (by have := h.lbox.lt; omega) (by omega) (fun e => by have := (h.row.lt _ e.symm).1; omega)
theorem row_any {W : World} {b : Nat} {e : TypeId} {size : Nat} {v : Value} {k : Nat} {xs : List Value} (h : W.ownsRow b e size v k xs) : ∃ a cap, v = .slice a k cap := by
  rcases h.2 with ⟨rfl, h0⟩ | ⟨g, cap, cur, rfl, _⟩
  · exact ⟨none, 0, by rw [h0]⟩
  · exact ⟨_, _, rfl⟩
/-- One round. -/
theorem TI.step {w : World} {sb g cap n : Nat} {ws pre : List Nat} {S : Blocks} {W : World} {v : Value} (h : TI w sb g cap n ws pre S W v) (hS : ∀ k, S k → k < W.heap.size) (hgl : g < w.heap.size) (hgt : g ≠ 0) (htl : 0 < w.heap.size)
    {x g' cap' : Nat} {W3 w4 : World} (q3 : Boxed W3 (w.heap.size + 1 + 1) 55 (.slice (some ⟨g', 0, none⟩) (pre.length + 1) cap')) (q4 : W3.ownsRow (w.heap.size + 3) 3 1 (.slice (some ⟨g', 0, none⟩) (pre.length + 1) cap') (pre.length + 1) (nats pre ++ [.int .i64 (x : Int)]))
    (q5 : W3.os = W.os ∧ W3.tape = W.tape ∧ W3.output = W.output) (q6 : W.heap.size < W3.heap.size) (q7 : ∀ j, j < W.heap.size → j ≠ w.heap.size + 1 + 1 → some j ≠ v.ownBlock → W3.heap[j]? = W.heap[j]?)
    (hat : some g' = v.ownBlock ∨ g' = W.heap.size + 1) (A1 : SetAt w4 sb g cap n (dropW (dropAll ws pre) x)) (A2 : W3.grownBy w4 (some g)) :
    TI w sb g cap n ws (pre ++ [x]) S w4 (.slice (some ⟨g', 0, none⟩) (pre.length + 1) cap') ∧ KeptP (w.heap.size + 3) (boxTab (w.heap.size + 1)) S W w4 := by
  have hg' := (q4.lt g' rfl).1
  have hsz := A2.size
  have same : ∀ j, j < W.heap.size → j ≠ w.heap.size + 1 + 1 → some j ≠ v.ownBlock → j ≠ g → w4.heap[j]? = W.heap[j]? := fun j h1 h2 h3 h4 => (A2.block j (by omega) (by simpa using h4)).trans (q7 j h1 h2 h3)
  have hvl : ∀ r, v.ownBlock = some r → w.heap.size + 3 ≤ r ∧ r < W.heap.size := h.row.lt
  refine ⟨⟨q3.kept A2 (by simp; omega), ?_, fun r e hs => ?_, ?_, by rw [dropAll_snoc]; exact A1, ⟨A2.os.trans (q5.1.trans h.fr.os), A2.tape.trans (q5.2.1.trans h.fr.tape), A2.output.trans (q5.2.2.trans h.fr.output), by have := h.fr.size; omega, fun k hk hne => ?_⟩, h.own⟩, ⟨by omega, fun k o hB hk ho => ?_, fun k o hK hk => ?_, fun k o hs hk => ?_⟩⟩
  · rw [nats_snoc, List.length_append]
    exact q4.kept A2 (.inr (by simp [Value.ownBlock]; omega))
  · have e' : g' = r := by simpa [Value.ownBlock] using e
    subst e'
    rcases hat with h' | h'
    · exact h.out _ h'.symm hs
    · have := hS _ hs
      omega
  · exact (same w.heap.size (by have := h.sbox.lt; omega) (by omega) (fun e => by have := (hvl _ e.symm).1; omega) (by omega)).trans h.sbox
  · rw [same k (by have := h.fr.size; omega) (by omega) (fun e => by have := (hvl _ e.symm).1; omega) (by simpa using hne)]
    exact h.fr.block k hk hne
  · have hkl := (Array.getElem?_eq_some_iff.1 hk).1
    rw [same k hkl (by omega) (fun e => ?_) (by omega)]
    · exact hk
    · rcases h.row.2 with ⟨rfl, _⟩ | ⟨g2, cap2, cur, rfl, _, hg2, _⟩
      · simp [Value.ownBlock] at e
      · have : k = g2 := by simpa [Value.ownBlock] using e
        subst this
        rw [hg2] at hk
        cases hk
        cases ho
  · have hkl := (Array.getElem?_eq_some_iff.1 hk).1
    rcases hK with rfl | rfl
    · rw [same _ hkl (by omega) (fun e => by have := (hvl _ e.symm).1; omega) (by omega)]
      exact hk
    · rw [same _ hkl (by omega) (fun e => by have := (hvl _ e.symm).1; omega) (Ne.symm hgt)]
      exact hk
  · have hkl := (Array.getElem?_eq_some_iff.1 hk).1
    have := h.own k hs
    rw [same k hkl (by omega) (fun e => h.out k e.symm hs) (by omega)]
    exact hk

/-- A row of numbers, cell by cell. -/
def CellsN (w : World) (a : Option Addr) (l : List Nat) : Prop := ∀ j (h : j < l.length), ∃ b off, a = some ⟨b, off, none⟩ ∧ w.cell? ⟨b, off + j, none⟩ = some (.int .i64 (l[j] : Int))
theorem cellsN_row {W : World} {b : Nat} {a : Option Addr} {cap : Nat} {l : List Nat} (h : W.ownsRow b 3 1 (.slice a l.length cap) l.length (nats l)) : CellsN W a l := fun j hj => by
  rcases h.2 with ⟨_, h0⟩ | ⟨g, cap', cur, hv, _⟩
  · omega
  · have hv' := hv
    simp only [Value.slice.injEq, true_and] at hv'
    obtain ⟨rfl, rfl⟩ := hv'
    exact ⟨g, 0, rfl, by rw [Nat.zero_add, h.cellAt j (by omega), nats_get l j hj]⟩
theorem CellsN.below {w w' : World} {a : Option Addr} {l : List Nat} (h : CellsN w a l) (hb : Below w.heap.size w w') : CellsN w' a l := fun j hj => by
  obtain ⟨b, off, e, hc⟩ := h j hj
  exact ⟨b, off, e, (hb.cell (World.block_lt_of_cell? w _ hc)).trans hc⟩
theorem intsN_yes {w : World} {a b : Option Addr} {ca cb : Nat} {l : List Nat} (h1 : CellsN w a l) (h2 : CellsN w b l) (hl : l.length ≤ 4096) :
    Calls Tryd.prog 27 #[.slice a l.length ca, .slice b l.length cb] w fun e w' => e = .returned (.bool true) ∧ ∃ m, w' = w.drewN m := by
  have e : l.length = (l.map fun (x : Nat) => (x : Int)).length := by simp
  have c : ∀ {a : Option Addr}, CellsN w a l → CellsI w a (l.map fun (x : Nat) => (x : Int)) := fun h j hj => by
    obtain ⟨b, off, e, hc⟩ := h j (by simpa using hj)
    exact ⟨b, off, e, by rw [hc, List.getElem_map]⟩
  rw [e]
  exact ints_yes (c h1) (c h2) (by rw [← e]; omega)

/-- A region that draws its order, of which the first k operations are done and the others only read: the rest is walked once, in the order of the text. -/
theorem any_from {F : Fence} {n : Nat} {P : Program} {md : Region.Mode} {ops : Array Oper} {C : World → Prop} {Q : Act → Prop} {Q' : Exit → Act → World → Prop} {fuel : Nat} {listed : Array Bool} {a : Act} {w : World} (k : Nat)
    (hro : F.round = none) (hs : Region.noSelect ops = true) (hfl : (ops.toList.drop k).length = fuel) (hlex : Region.lexFrom md ops (ops.toList.drop k).length k listed = true) (hC : C w) (hQ : ∀ a w, C w → Q a → Q' .normal a w)
    (h : wpQuietIn F n P ops C Q (ops.toList.drop k) a) : wpAnyIn F n P md ops Q' fuel listed a w := by
  subst hfl
  exact wpAnyIn_of_quiet hro hQ _ _ _ _ hC (wpAnyQIn_lex hs _ k listed a (fun j => by rw [List.getElem?_drop]; simp) hlex h)

/-- What is left at the end: the loop's row of deferred calls is put away. -/
theorem tells_end {w Z w8 : World} {sb g cap n : Nat} {ws : List Nat} (hsl : sb < w.heap.size) (hgl : g < w.heap.size) (setZ : SetAt Z sb g cap n ws) (frZ : w.grownBy Z (some g)) (hKZ : Z.heap[w.heap.size + 3]? = some (.deferred (some []))) (hb : Below Z.heap.size Z w8) (m : Nat) :
    (w8.drewN m).heap[w.heap.size + 3]? = some (.deferred (some [])) ∧ SetAt ((w8.drewN m).putObj (w.heap.size + 3) (.deferred none)) sb g cap n ws ∧ w.grownBy ((w8.drewN m).putObj (w.heap.size + 3) (.deferred none)) (some g) := by
  have hl := (Array.getElem?_eq_some_iff.1 hKZ).1
  have h1 := grown_none frZ (grown_below hb)
  have h2 : w.grownBy (w8.drewN m) (some g) := ⟨h1.os, h1.tape, h1.output, h1.size, h1.block⟩
  refine ⟨(hb.block _ hl).trans hKZ, ((setZ.below hb setZ.lt setZ.glt).drewN m).kept (grownBy_putObj' _ _ _) (by simp; omega) (by simp; omega), grown_up h2 (grownBy_putObj' _ _ _) (by omega)⟩
end Go.Proofs.YtfagjejknnkhdaaDoor
