/- A range over a function, as in VRange: the loop's invariant minds a turn of any block but the loop's own two and the iterator's (an iterator that goes through another iterator wants that). -/
import Derived.Test.YtagolpdhjkcoeaaGreatDoorGSeq
import Derived.Stop.RegionWithIn
namespace Go.Proofs.YtagolpdhjkcoeaaGreatDoor
open Go.RowKit

/-- A loop's invariant does not mind new blocks, nor a turn of the loop's two blocks, or of the iterator's; and a block that is not there yet may become the iterator's. -/
structure OwnW {β : Type} (B : Nat) (I : β → Blocks → World → Prop) : Prop where
  grown : ∀ s S W W' row, I s S W → W.grownBy W' row → (∀ r, row = some r → (r = B + 1 ∧ ∃ o : Obj, W.heap[r]? = some o ∧ o.isCells = false) ∨ S r) → I s S W'
  claim : ∀ s S S' W, I s S W → (∀ k, S' k → S k ∨ W.heap.size ≤ k) → I s S' W
theorem OwnW.alloc {β : Type} {B : Nat} {I : β → Blocks → World → Prop} (h : OwnW B I) {s : β} {S : Blocks} {W : World} (o : Obj) (hs : I s S W) : I s S (W.alloc o) :=
  h.grown s S W _ none hs (World.grownBy_alloc W o none) (fun _ e => by cases e)
theorem OwnW.putObj {β : Type} {B : Nat} {I : β → Blocks → World → Prop} (h : OwnW B I) {s : β} {S : Blocks} {W : World} {l : Nat} {o : Obj} (o' : Obj) (hs : I s S W) (hB : l = B + 1) (hl : W.heap[l]? = some o) (hc : o.isCells = false) : I s S (W.putObj l o') :=
  h.grown s S W _ (some l) hs (grownBy_putObj' _ _ _) (fun r e => by cases e; exact .inl ⟨hB, o, hl, hc⟩)

/-- What a round leaves as it was that is the last one: all but its own loop's block l. -/
structure KeptX (l B : Nat) (K S : Blocks) (W W' : World) : Prop where
  size : W.heap.size ≤ W'.heap.size
  other : ∀ (k : Nat) (o : Obj), B ≤ k → k ≠ l → W.heap[k]? = some o → o.isCells = false → W'.heap[k]? = some o
  box : ∀ (k : Nat) (o : Obj), K k → W.heap[k]? = some o → W'.heap[k]? = some o
  own : ∀ (k : Nat) (o : Obj), S k → W.heap[k]? = some o → W'.heap[k]? = some o
/-- What the iterator owes to a loop that begins in w; of a round that is the last one it is told what that round leaves. -/
def SeqQ {α : Type} (n : Nat) (P : Program) (g : Nat) (lb : Array Value) (Enc : α → Blocks → Array Value → World → Prop) (K : Blocks) (xs : List α) (w : World) : Prop :=
  ∀ (l : Nat) (J Jx : List α → Blocks → World → Prop) (W : World), W.heap.size = w.heap.size + 2 → l < W.heap.size → (∀ k, k < w.heap.size → W.heap[k]? = w.heap[k]?) → OwnJ J → OwnJ Jx →
    (∀ pre x S vs W1, J pre S W1 → (∃ post, xs = pre ++ x :: post) → Enc x S vs W1 → YieldAt Fence.wide (n - 1) P l vs W1 fun e W' =>
      (e = .returned (.bool true) ∧ J (pre ++ [x]) S W' ∧ KeptP w.heap.size K S W1 W') ∨ (e = .returned (.bool false) ∧ Jx (pre ++ [x]) S W' ∧ KeptX l w.heap.size K S W1 W')) →
    J [] (fun _ => False) W →
    CallsIn Fence.wide n P g (#[.func (.yield l) #[] #[]] ++ lb) W fun e W' => (∃ v, e = .returned v) ∧ ((∃ S, J xs S W') ∨ (∃ S pre x post, xs = pre ++ x :: post ∧ Jx (pre ++ [x]) S W'))
theorem yield_mono {F : Fence} {m : Nat} {P : Program} {l : Nat} {args : Array Value} {W : World} {R R' : Ending → World → Prop} (h : YieldAt F m P l args W R) (hm : ∀ e W', R e W' → R' e W') : YieldAt F m P l args W R' := by
  obtain ⟨fn, tmps, assign, body, h1, h2⟩ := h
  exact ⟨fn, tmps, assign, body, h1, h2.mono hm⟩
theorem SeqP.q {α : Type} {n : Nat} {P : Program} {g : Nat} {lb : Array Value} {Enc : α → Blocks → Array Value → World → Prop} {K : Blocks} {xs : List α} {w : World} (h : SeqP n P g lb Enc K xs w) : SeqQ n P g lb Enc K xs w :=
  fun l J Jx W h1 _ h2 hJ hJx hY h0 => h l J Jx W h1 h2 hJ hJx (fun pre x S vs W1 a b c => yield_mono (hY pre x S vs W1 a b c) (fun e W' hh => by
    rcases hh with hh | hh
    · exact .inl hh
    · exact .inr ⟨hh.1, hh.2.1⟩)) h0

theorem seqq_law {α : Type} {n : Nat} {P : Program} {g : Operand} {ps : Array Tmp} {assign body : Code} {Q : Exit → Act → World → Prop} {a : Act} {w : World}
    {gf : Nat} {lb : Array Value} (hg : a.eval g = .func (.func gf) #[] lb) (eg : ∀ args w, (callFunc gf args).run P w = .ok (.enter gf args) w)
    {Enc : α → Blocks → Array Value → World → Prop} {K : Blocks} (hsb : ∀ k, K k → k < w.heap.size) {xs : List α} (hseq : SeqQ (n - 1) P gf lb Enc K xs w) (hps : ∀ x S vs W, Enc x S vs W → vs.size = ps.size)
    (I : List α → Blocks → World → Prop) (Ix : Code → List α → Blocks → World → Prop) (hI : OwnW w.heap.size I) (hIx : ∀ c, OwnW w.heap.size (Ix c)) (h0 : I [] (fun _ => False) w)
    (hround : ∀ (l : Nat) (pre : List α) (x : α) (S : Blocks) (vs : Array Value) (W : World), I pre S W → (∀ k, S k → w.heap.size + 2 ≤ k) → (∃ post, xs = pre ++ x :: post) → Enc x S vs W → w.heap.size + 2 ≤ W.heap.size →
      assign.wpIn (Fence.wide.inRound l) (n - 1 - 1) P (Exit.then (fun a₁ W₁ => KeptP w.heap.size K S W W₁ ∧ ∃ J : World → Prop, (∀ X Y row, J X → X.grownBy Y row → (∀ r, row = some r → r = w.heap.size + 1 ∧ ∃ o : Obj, X.heap[r]? = some o ∧ o.isCells = false) → J Y) ∧ J W₁ ∧
          ∀ W₂, J W₂ → w.heap.size + 2 ≤ W₂.heap.size → body.wpIn (Fence.wide.inRound l) (n - 1 - 1) P (roundPostP w.heap.size K S I Ix (pre ++ [x]) W₂) a₁ W₂) (fun _ _ _ => False))
        { tmps := (ps.zip vs).foldl (fun t (p, v) => t.setIfInBounds p v) a.tmps, defers := [] } W)
    (hdone : ∀ (S : Blocks) (W : World), I xs S W → W.heap[w.heap.size]? = some (.deferred (some [])) → Q .normal { a with defers := { target := .collected w.heap.size, args := #[] } :: a.defers } W)
    (hstop : ∀ (c : Code) (S : Blocks) (pre : List α) (x : α) (W : World), (∃ post, xs = pre ++ x :: post) → Ix c (pre ++ [x]) S W → W.heap[w.heap.size]? = some (.deferred (some [])) → c.wpIn Fence.wide n P Q { a with defers := { target := .collected w.heap.size, args := #[] } :: a.defers } W) :
    (Code.rangeFunc g ps assign body).wpIn Fence.wide n P Q a w := by
  refine wpIn_rangeFunc ?_
  intro fn hfn
  let rec' : LoopState → Option Code → Loop := fun st pe => { state := st, pending := pe, fn, tmps := a.tmps, params := ps, assign, body, defers := w.heap.size }
  obtain ⟨R, hR⟩ : ∃ R : LoopState → Option Code → Loop, R = rec' := ⟨_, rfl⟩
  obtain ⟨W1, hW1⟩ : ∃ W1, (w.alloc (.deferred (some []))).alloc (.loop (R .ready none)) = W1 := ⟨_, rfl⟩
  have hs1 : W1.heap.size = w.heap.size + 2 := by rw [← hW1]; simp
  have hlow : ∀ k, k < w.heap.size → W1.heap[k]? = w.heap[k]? := fun k hk => by
    rw [← hW1]
    exact (Below.heap_alloc _ _ _ (by simp; omega)).trans (Below.heap_alloc _ _ _ hk)
  have hL1 : W1.heap[w.heap.size + 1]? = some (.loop (R .ready none)) := by
    rw [← hW1]
    have := World.alloc_heap_new (w.alloc (.deferred (some []))) (.loop (R .ready none))
    rwa [World.size_alloc] at this
  have hK1 : W1.heap[w.heap.size]? = some (.deferred (some [])) := by
    rw [← hW1]
    exact (Below.heap_alloc _ _ _ (by simp)).trans (World.alloc_heap_new w _)
  have hI1 : I [] (fun _ => False) W1 := by rw [← hW1]; exact hI.alloc _ (hI.alloc _ h0)
  refine ⟨w.heap.size + 1, [{ target := .collected w.heap.size, args := #[] }], W1, { target := .fn (.func gf) lb, args := #[.func (.yield (w.heap.size + 1)) #[] #[]] }, W1, gf,
    #[.func (.yield (w.heap.size + 1)) #[] #[]] ++ lb, W1, ?_, ?_, fun _ _ => trivial, ?_, (fun h => by cases h), ?_⟩
  · rw [← hW1, hR]
    exact run_enterLoop_outer _ _ _ _ _
  · simp only [resolve, hg]
    simp [go_sem]
  · simp [invoke, go_sem, eg]
  have low : ∀ {W W' : World} {row : Option Nat} {S : Blocks} {k : Nat} {o : Obj}, W.grownBy W' row → (∀ k, S k → w.heap.size + 2 ≤ k) → (∀ r, row = some r → S r) → k < w.heap.size + 2 → W.heap[k]? = some o → W'.heap[k]? = some o :=
    fun hg' hS hr hk ho => (hg'.block _ (Array.getElem?_eq_some_iff.1 ho).1 fun e => by have := hS _ (hr _ e.symm); omega).trans ho
  refine (hseq (w.heap.size + 1)
    (fun pre S W => I pre S W ∧ (∀ k, S k → w.heap.size + 2 ≤ k) ∧ W.heap[w.heap.size + 1]? = some (.loop (R .ready none)) ∧ W.heap[w.heap.size]? = some (.deferred (some [])))
    (fun pre S W => ∃ c, Ix c pre S W ∧ (∀ k, S k → w.heap.size + 2 ≤ k) ∧ W.heap[w.heap.size + 1]? = some (.loop (R .done (some c))) ∧ W.heap[w.heap.size]? = some (.deferred (some [])))
    W1 hs1 (by omega) hlow
    ⟨fun s S X Y row hs hg' hr => ⟨hI.grown s S X Y row hs.1 hg' (fun r e => .inr (hr r e)), hs.2.1, low hg' hs.2.1 hr (by omega) hs.2.2.1, low hg' hs.2.1 hr (by omega) hs.2.2.2⟩,
      fun s S S' X hs hc => ⟨hI.claim s S S' X hs.1 hc, fun k hk => by
        rcases hc k hk with h | h
        · exact hs.2.1 k h
        · have := (Array.getElem?_eq_some_iff.1 hs.2.2.1).1
          omega, hs.2.2⟩⟩
    ⟨fun s S X Y row hs hg' hr => by
      obtain ⟨c, hc, hS, hl, hk⟩ := hs
      exact ⟨c, (hIx c).grown s S X Y row hc hg' (fun r e => .inr (hr r e)), hS, low hg' hS hr (by omega) hl, low hg' hS hr (by omega) hk⟩,
      fun s S S' X hs hcl => by
        obtain ⟨c, hc, hS, hl, hk⟩ := hs
        refine ⟨c, (hIx c).claim s S S' X hc hcl, fun k hk' => ?_, hl, hk⟩
        rcases hcl k hk' with h | h
        · exact hS k h
        · have := (Array.getElem?_eq_some_iff.1 hl).1
          omega⟩
    ?_ ⟨hI1, (fun _ h => h.elim), hL1, hK1⟩).mono ?_
  · rintro pre x S vs W ⟨hi, hS, hl, hk⟩ hpost henc
    have hlt : w.heap.size + 1 < W.heap.size := (Array.getElem?_eq_some_iff.1 hl).1
    have hy := run_yield (P := P) (args := vs) hl (by rw [hR]; exact hps x S vs W henc)
    rw [hR] at hy
    refine ⟨fn, _, assign, body, hy, roundIn_of_wpIn hfn (wpIn_mono (hround _ pre x S vs W hi hS hpost henc (by omega)) ?_)⟩
    rintro e a₁ Wa he
    cases e with
    | normal =>
      obtain ⟨hka, J, hJ, hJa, hbody⟩ := he
      have hla := hka.other _ _ (by omega) hl rfl
      have hkka := hka.other _ _ (Nat.le_refl _) hk rfl
      have hlta := (Array.getElem?_eq_some_iff.1 hla).1
      refine ⟨_, run_beginRound hla (by rw [hR]), ?_⟩
      obtain ⟨Wb, hWb⟩ : ∃ Wb, Wa.putObj (w.heap.size + 1) (.loop { R .ready none with state := .busy }) = Wb := ⟨_, rfl⟩
      rw [hWb]
      have hgb : Wa.grownBy Wb (some (w.heap.size + 1)) := by rw [← hWb]; exact grownBy_putObj' _ _ _
      have hlb : Wb.heap[w.heap.size + 1]? = some (.loop { R .ready none with state := .busy }) := by rw [← hWb]; exact World.putObj_heap_same hlta
      have hkb : Wb.heap[w.heap.size]? = some (.deferred (some [])) := (hgb.block _ (Array.getElem?_eq_some_iff.1 hkka).1 (by simp)).trans hkka
      have hJb : J Wb := hJ Wa Wb _ hJa hgb (fun r e => by cases e; exact ⟨rfl, _, hla, rfl⟩)
      refine wpIn_mono (hbody Wb hJb (by have := hgb.size; have := hka.size; omega)) ?_
      have fin : ∀ (jump : Option Code) (W3 : World), KeptP w.heap.size K S Wb W3 →
          W3.heap[w.heap.size + 1]? = some (.loop { R .ready none with state := .busy }) ∧
          (Instr.endRound (w.heap.size + 1) jump).run P W3 = .ok (.bool jump.isNone) (W3.putObj (w.heap.size + 1) (.loop (R (if jump.isNone then .ready else .done) jump))) ∧
          (W3.putObj (w.heap.size + 1) (.loop (R (if jump.isNone then .ready else .done) jump))).heap[w.heap.size + 1]? = some (.loop (R (if jump.isNone then .ready else .done) jump)) ∧
          (W3.putObj (w.heap.size + 1) (.loop (R (if jump.isNone then .ready else .done) jump))).heap[w.heap.size]? = some (.deferred (some [])) ∧
          ∀ k o, k ≠ w.heap.size + 1 → Wb.heap[k]? = some o → W3.heap[k]? = some o → (W3.putObj (w.heap.size + 1) (.loop (R (if jump.isNone then .ready else .done) jump))).heap[k]? = some o := fun jump W3 hk3 => by
        have hl3 := hk3.other _ _ (by omega) hlb rfl
        have hend := run_endRound (P := P) jump hl3
        refine ⟨hl3, ?_, World.putObj_heap_same (Array.getElem?_eq_some_iff.1 hl3).1, (World.putObj_heap_other (by omega)).trans (hk3.other _ _ (Nat.le_refl _) hkb rfl), fun k o hne _ h3 => (World.putObj_heap_other hne).trans h3⟩
        rw [hR] at hend ⊢
        exact hend
      have keepX : ∀ (o' : Obj) (W3 : World), KeptP w.heap.size K S Wb W3 → KeptX (w.heap.size + 1) w.heap.size K S W (W3.putObj (w.heap.size + 1) o') := fun o' W3 hk3 => by
        have hb : ∀ k o, k ≠ w.heap.size + 1 → Wa.heap[k]? = some o → Wb.heap[k]? = some o := fun k o hne h => (hgb.block k (Array.getElem?_eq_some_iff.1 h).1 (by simpa using hne)).trans h
        refine ⟨by have := hka.size; have := hgb.size; have := hk3.size; simp; omega, fun k o hB hne hk' ho => ?_, fun k o hs ho => ?_, fun k o hs ho => ?_⟩
        · exact (World.putObj_heap_other hne).trans (hk3.other k o hB (hb k o hne (hka.other k o hB hk' ho)) ho)
        · have hkK := hsb k hs
          exact (World.putObj_heap_other (by omega)).trans (hk3.box k o hs (hb k o (by omega) (hka.box k o hs ho)))
        · have hkS := hS k hs
          exact (World.putObj_heap_other (by omega)).trans (hk3.own k o hs (hb k o (by omega) (hka.own k o hs ho)))
      rintro e a3 W3 hp
      cases e with
      | normal =>
        obtain ⟨hk3, hi3⟩ := hp
        obtain ⟨hl3, hr, hl4, hk4, hoth⟩ := fin none W3 hk3
        refine ⟨_, _, hr, .inl ⟨rfl, ⟨hI.putObj _ hi3 rfl hl3 rfl, hS, hl4, hk4⟩, ?_⟩⟩
        have hb : ∀ k o, k ≠ w.heap.size + 1 → Wa.heap[k]? = some o → Wb.heap[k]? = some o := fun k o hne h => (hgb.block k (Array.getElem?_eq_some_iff.1 h).1 (by simpa using hne)).trans h
        refine ⟨by have := hka.size; have := hgb.size; have := hk3.size; simp; omega, fun k o hB hk' ho => ?_, fun k o hs ho => ?_, fun k o hs ho => ?_⟩
        · by_cases e : k = w.heap.size + 1
          · subst e
            rw [hl] at hk'
            cases hk'
            exact hl4
          · have h1 := hb k o e (hka.other k o hB hk' ho)
            exact hoth k o e h1 (hk3.other k o hB h1 ho)
        · have hkK := hsb k hs
          have h1 := hb k o (by omega) (hka.box k o hs ho)
          exact hoth k o (by omega) h1 (hk3.box k o hs h1)
        · have hkS := hS k hs
          have h1 := hb k o (by omega) (hka.own k o hs ho)
          exact hoth k o (by omega) h1 (hk3.own k o hs h1)
      | ret =>
        obtain ⟨hk3, hi3⟩ := hp
        obtain ⟨hl3, hr, hl4, hk4, _⟩ := fin (some .ret) W3 hk3
        exact ⟨_, _, hr, .inr ⟨rfl, ⟨.ret, (hIx _).putObj _ hi3 rfl hl3 rfl, hS, hl4, hk4⟩, keepX _ W3 hk3⟩⟩
      | exit id =>
        obtain ⟨hk3, hi3⟩ := hp
        obtain ⟨hl3, hr, hl4, hk4, _⟩ := fin (some (.exit id)) W3 hk3
        exact ⟨_, _, hr, .inr ⟨rfl, ⟨.exit id, (hIx _).putObj _ hi3 rfl hl3 rfl, hS, hl4, hk4⟩, keepX _ W3 hk3⟩⟩
      | goto t =>
        obtain ⟨hk3, hi3⟩ := hp
        obtain ⟨hl3, hr, hl4, hk4, _⟩ := fin (some (.goto t)) W3 hk3
        exact ⟨_, _, hr, .inr ⟨rfl, ⟨.goto t, (hIx _).putObj _ hi3 rfl hl3 rfl, hS, hl4, hk4⟩, keepX _ W3 hk3⟩⟩
      | panic ch => exact hp.elim
      | outgrown => exact hp.elim
    | ret => exact he
    | exit id => exact he
    | goto t => exact he
    | panic ch => exact he
    | outgrown => exact he
  · rintro e W2 ⟨⟨v, rfl⟩, (⟨S, hi, hS, hl, hk⟩ | ⟨S, pre, x, post, hx, c, hi, hS, hl, hk⟩)⟩
    · exact ⟨none, _, by have := run_endLoop (P := P) hl (by rw [hR]; simp [rec']); rw [hR] at this; rw [hR] at hl; exact this, hdone S _ (hI.putObj _ hi rfl hl rfl) ((World.putObj_heap_other (by omega)).trans hk)⟩
    · exact ⟨some c, _, by have := run_endLoop (P := P) hl (by rw [hR]; simp [rec']); rw [hR] at this; exact this, hstop c S pre x _ ⟨post, hx⟩ ((hIx c).putObj _ hi rfl hl rfl) ((World.putObj_heap_other (by omega)).trans hk)⟩
end Go.Proofs.YtagolpdhjkcoeaaGreatDoor

/- Parts: the iterator that it answers goes through copies of the parts. -/
namespace Go.Proofs.YtagolpdhjkcoeaaGreatDoor
open Go.RowKit
attribute [local go_sem] Oper.semAt_some

/-- How a part is handed to the caller's round: in memory that lies there. -/
def encQ (x : Vl) (_ : Blocks) (vs : Array Value) (W : World) : Prop := ∃ n sl, vs = #[.agg (vcells x sl)] ∧ ItemsAt W W.heap.size n sl x.items ∧ x.ok
/-- The blocks of the iterator: the box of yield, the loop's two, and those of the inner iterator. -/
def own4 (yb d : Nat) (S : Blocks) : Blocks := fun k => k = yb ∨ k = d ∨ k = d + 1 ∨ S k
/-- What holds between two rounds. -/
def Mid (l yb d : Nat) (J : List Vl → Blocks → World → Prop) (pre : List Vl) (S : Blocks) (W : World) : Prop :=
  J pre (own4 yb d S) W ∧ Boxed W yb 64 (.func (.yield l) #[] #[]) ∧ (∀ k, S k → d ≤ k) ∧ d ≤ W.heap.size
theorem Mid.own {l yb d : Nat} {J : List Vl → Blocks → World → Prop} (hJ : OwnJ J) (hy : yb < d) : OwnW d (Mid l yb d J) := by
  refine ⟨?_, ?_⟩
  · rintro s S W W' row ⟨h1, h2, h3, h4⟩ hg hr
    refine ⟨hJ.grown s _ W W' row h1 hg (fun r e => ?_), h2.kept hg (fun e => ?_), h3, Nat.le_trans h4 hg.size⟩
    · rcases hr r e with h | h
      · exact .inr (.inr (.inl h.1))
      · exact .inr (.inr (.inr h))
    · rcases hr yb e.symm with h | h
      · have := h.1; omega
      · have := h3 _ h; omega
  · rintro s S S' W ⟨h1, h2, h3, h4⟩ hc
    refine ⟨hJ.claim s _ _ W h1 (fun k hk => ?_), h2, fun k hk => ?_, h4⟩
    · rcases hk with h | h | h | h
      · exact .inl (.inl h)
      · exact .inl (.inr (.inl h))
      · exact .inl (.inr (.inr (.inl h)))
      · rcases hc k h with h' | h'
        · exact .inl (.inr (.inr (.inr h')))
        · exact .inr h'
    · rcases hc k hk with h' | h'
      · exact h3 k h'
      · omega
def MidX (yb d : Nat) (Jx : List Vl → Blocks → World → Prop) (c : Code) (pre : List Vl) (S : Blocks) (W : World) : Prop := c = Code.ret ∧ Jx pre (own4 yb d S) W
theorem MidX.own {yb d : Nat} {Jx : List Vl → Blocks → World → Prop} (hJ : OwnJ Jx) (c : Code) : OwnW d (MidX yb d Jx c) := by
  refine ⟨?_, ?_⟩
  · rintro s S W W' row ⟨h0, h1⟩ hg hr
    refine ⟨h0, hJ.grown s _ W W' row h1 hg (fun r e => ?_)⟩
    rcases hr r e with h | h
    · exact .inr (.inr (.inl h.1))
    · exact .inr (.inr (.inr h))
  · rintro s S S' W ⟨h0, h1⟩ hc
    refine ⟨h0, hJ.claim s _ _ W h1 (fun k hk => ?_)⟩
    rcases hk with h | h | h | h
    · exact .inl (.inl h)
    · exact .inl (.inr (.inl h))
    · exact .inl (.inr (.inr (.inl h)))
    · rcases hc k h with h' | h'
      · exact .inl (.inr (.inr (.inr h')))
      · exact .inr h'
theorem parts_small (n : Nat) : ∀ v x : Vl, v.size ≤ n → x ∈ partsV v → x.size ≤ v.size := by
  induction n with
  | zero => intro v x h; have := v.size_pos; omega
  | succ n ih =>
    intro v x h hx
    rw [partsV_eq] at hx
    rcases List.mem_cons.1 hx with rfl | hx
    · exact Nat.le_refl _
    · obtain ⟨l, hl, hxl⟩ := List.mem_flatten.1 hx
      obtain ⟨y, hy, rfl⟩ := List.mem_map.1 hl
      have h1 := Vl.size_item hy
      have h2 := ih y x (by omega) hxl
      omega
theorem KeptX.toP {l B B' : Nat} {K S S' : Blocks} {W W' : World} (h : KeptX l B K S W W') (hB : B ≤ B') (hl : l < B') (hS : ∀ k, S' k → S k) : KeptP B' K S' W W' :=
  ⟨h.size, fun k o hk => h.other k o (by omega) (by omega), h.box, fun k o hk => h.own k o (hS k hk)⟩
theorem KeptP.toP {B B' : Nat} {K S S' : Blocks} {W W' : World} (h : KeptP B K S W W') (hB : B ≤ B') (hS : ∀ k, S' k → S k) : KeptP B' K S' W W' :=
  ⟨h.size, fun k o hk => h.other k o (by omega), h.box, fun k o hk => h.own k o (hS k hk)⟩
set_option maxRecDepth 100000 in
set_option maxHeartbeats 4000000 in
theorem parts_seq (n N : Nat) (v : Vl) (ob B : Nat) (sl : Value) (w : World) (hob : w.heap[ob]? = some (.cells (vcells v sl) 25 (0, 0))) (hoB : ob < B) (hi : ItemsAt w B N sl v.items) (hok : v.ok) (hsz : v.size ≤ 1000000000) (hB : B ≤ w.heap.size) :
    SeqQ n Tryz.prog 32 #[.pointer (some ⟨ob, 0, none⟩)] encQ (fun k => k < B) (partsV v) w := fun l J Jx W hWs hlW hWlow hJ hJx hY h0 => by
  obtain ⟨a, c, rfl, _⟩ := hi.len
  have hoW := (hWlow ob (by omega)).trans hob
  have hiW : ItemsAt W B N (.slice a v.items.length c) v.items := hi.kept fun b o hb => World.cell?_of_block (hWlow b (by omega))
  obtain ⟨X, hX⟩ : ∃ X, W.alloc (.cells #[.func (.yield l) #[] #[]] 64) = X := ⟨_, rfl⟩
  have zX : X.heap.size = W.heap.size + 1 := by rw [← hX]; simp
  have bX : Below W.heap.size W X := by rw [← hX]; exact alloc_v (Below.refl _ _) _
  have yX : Boxed X W.heap.size 64 (.func (.yield l) #[] #[]) := by rw [← hX]; exact World.alloc_heap_new W _
  have oX := (bX.block ob (by omega)).trans hoW
  have y0 := cells_at oX 0 _ rfl
  have y1 := cells_at oX 1 _ rfl
  have y2 := cells_at oX 2 _ rfl
  have y3 := cells_at oX 3 _ rfl
  have y4 := cells_at oX 4 _ rfl
  have HY := hide hY
  have H0 := hide h0
  have HI := hide hiW
  have hwW : w.heap.size ≤ W.heap.size := by omega
  clear hY h0 hiW hi hob hoW oX hWs hWlow
  refine callsIn_of_wp_marks Tryz.func32 rfl trivial ?_ rfl
  simp only [Tryz.ntmps32, List.size_toArray, List.length_cons, List.length_nil, Nat.reduceAdd, Nat.reduceSub, Array.replicate_succ, Array.replicate_zero, List.push_toArray, List.append_toArray, List.nil_append, List.cons_append]
  gi_wp2_with (refine ⟨trivial, (fun h => by cases h), ?_⟩; gi_at_call 33; refine (callsIn_wide.2 (within_k v a c _)).mono ?_; rintro e w3 ⟨rfl, rfl⟩)
  obtain ⟨X1, hX1⟩ : ∃ X1, X.alloc (.cells (vcells v (.slice a v.items.length c)) 25) = X1 := ⟨_, rfl⟩
  have hz1 : X1.heap.size = W.heap.size + 2 := by rw [← hX1]; simp; omega
  have v1 : X1.heap[W.heap.size + 1]? = some (.cells (vcells v (.slice a v.items.length c)) 25 (0, 0)) := by
    rw [← hX1, ← zX]
    exact World.alloc_heap_new X _
  have bX1 : Below W.heap.size W X1 := by rw [← hX1]; exact alloc_v bX _
  have yX1 : Boxed X1 W.heap.size 64 (.func (.yield l) #[] #[]) := by rw [← hX1]; exact (Below.heap_alloc _ _ _ (by omega)).trans yX
  have hlt1 : W.heap.size < X1.heap.size := by omega
  have J1 : Mid l W.heap.size X1.heap.size J [] (fun _ => False) X1 := by
    refine ⟨hJ.below (hJ.claim _ _ _ W H0.out (fun k hk => .inr ?_)) bX1, yX1, fun k h => h.elim, Nat.le_refl _⟩
    rcases hk with rfl | rfl | rfl | h
    · exact Nat.le_refl _
    · omega
    · omega
    · exact h.elim
  rw [hX1]
  clear hX1 y0 y1 y2 y3 y4 hX yX yX1 H0 zX bX
  have HN := hide hz1
  clear hz1
  refine seqq_law (gf := 89) (lb := #[.pointer (some ⟨W.heap.size + 1, 0, none⟩)]) rfl (enters_of Tryz.func89 (by kernel_rfl) rfl) (K := fun k => k < B) (fun k hk => by omega)
    (within_seq _ N v (W.heap.size + 1) B (.slice a v.items.length c) X1 v1 (HI.out.below (bX1.mono (by omega))) hok hsz (by omega)).q (fun _ _ _ _ h => by obtain ⟨_, _, rfl, _⟩ := h; rfl)
    (Mid l W.heap.size X1.heap.size J) (MidX W.heap.size X1.heap.size Jx) (Mid.own hJ hlt1) (fun c => MidX.own hJx c) J1 ?round1 ?done1 ?stop1
  case stop1 =>
    rintro c S pre x W9 ⟨post, hpost⟩ ⟨rfl, h9⟩ hK
    gi_wp2
    refine ⟨by simp, .inl ⟨_, _, rfl, run_takeDeferred hK, ?_⟩⟩
    exact ⟨_, results_none rfl _ _ _, ⟨_, rfl⟩, .inr ⟨_, pre, x, post, hpost, hJx.grown _ _ _ _ _ h9 (grownBy_putObj' _ _ _) (fun r e => by cases e; exact .inr (.inl rfl))⟩⟩
  case round1 =>
    rintro l9 pre x S vs W9 hC hS ⟨post, hpost⟩ ⟨n9, sl9, rfl, hi9, hok9, _⟩ hsz9
    obtain ⟨a9, c9, rfl, _⟩ := hi9.len
    have hxs : x.size ≤ 1000000000 := by
      have := parts_small v.size v x (Nat.le_refl _) (by rw [hpost]; simp)
      omega
    gi_wp2
    refine ⟨KeptP.alloc _ _ _ _ _, fun U => Mid l W.heap.size X1.heap.size J pre S U ∧ ItemsAt U B n9 (.slice a9 x.items.length c9) x.items ∧ U.heap[W9.heap.size]? = some (.cells (vcells x (.slice a9 x.items.length c9)) 25 (0, 0)), ?_, ⟨(Mid.own hJ hlt1).alloc _ hC, hi9.below ((alloc_v (Below.refl _ _) _).mono (by omega)), World.alloc_heap_new W9 _⟩, ?_⟩
    · rintro X' Y row ⟨h1, h2, h3⟩ hg hr
      refine ⟨(Mid.own hJ hlt1).grown _ _ _ _ _ h1 hg (fun r e => .inl (hr r e)), h2.kept (fun b o hb => World.cell?_of_block (hg.block b (by have := h1.2.2.2; omega) (fun e => by have := (hr b e.symm).1; omega))), (hg.block _ (Array.getElem?_eq_some_iff.1 h3).1 (fun e => by have := (hr _ e.symm).1; omega)).trans h3⟩
    clear hC hi9
    rintro W₂ ⟨hM, hI2, hp2⟩ hsz2
    have q0 := cells_at hp2 0 _ rfl
    have q1 := cells_at hp2 1 _ rfl
    have q2 := cells_at hp2 2 _ rfl
    have q3 := cells_at hp2 3 _ rfl
    have q4 := cells_at hp2 4 _ rfl
    have qy := hM.2.1.cell
    have HCP := hide (fun (U : World) (b : Below W₂.heap.size W₂ U) => copied_k n9 x U B _ hxs (by have := b.size; omega) (hI2.below (b.mono (by omega))))
    have HYD := hide (fun (U : World) (s' : Value) (m : Nat) (b : Below W₂.heap.size W₂ U) (hI : ItemsAt U U.heap.size n9 s' x.items) =>
      yield_any (m' := m) (yield_mono (R' := fun e W' => ∃ bb : Bool, e = .returned (.bool bb) ∧ KeptP X1.heap.size (fun k => k < B) S W₂ W' ∧ (bb = true → Mid l W.heap.size X1.heap.size J (pre ++ [x]) S W') ∧ (bb = false → MidX W.heap.size X1.heap.size Jx .ret (pre ++ [x]) S W')) (HY.out pre x (own4 W.heap.size X1.heap.size S) #[.agg (vcells x s')] U (hJ.below hM.1 b) ⟨post, hpost⟩ ⟨n9, s', rfl, hI, hok9⟩) (fun e W' hh => by
        have kb : KeptP X1.heap.size (fun k => k < B) S W₂ U := KeptP.below b
        rcases hh with ⟨rfl, h1, h2⟩ | ⟨rfl, h1, h2⟩
        · exact ⟨true, rfl, kb.trans (h2.toP (by omega) (fun k h => .inr (.inr (.inr h)))), fun _ => ⟨h1, h2.own _ _ (.inl rfl) ((b.block _ (by have := hM.2.1.lt; omega)).trans hM.2.1), hM.2.2.1, by have := h2.size; have := b.size; omega⟩, fun h => by cases h⟩
        · exact ⟨false, rfl, kb.trans (h2.toP (by omega) (by omega) (fun k h => .inr (.inr (.inr h)))), fun h => (by cases h), fun _ => ⟨rfl, h1⟩⟩)))
    clear hM hI2 hp2 HY HI v1 J1 bX1
    gi_wp2
    refine wpIn_mono (Q := NoPanic _) ?_ NoPanic.imp
    gi_region_with (first
      | (refine ⟨trivial, (fun h => by cases h), ?_⟩; gi_at_call 31; refine (callsIn_wide.2 (HCP.out _ (by first | exact (Below.refl _ _).drew | exact (Below.refl _ _).drew.drew))).mono ?_; rintro e w4 ⟨s4, rfl, i4, b4⟩; obtain ⟨sa4, sc4, rfl, _⟩ := i4.len; have i5 := i4.at (B := w4.heap.size) (fun b h => h.2); have b5 : Below W₂.heap.size W₂ w4 := (by first | exact trans_v (Below.refl _ _).drew b4 | exact trans_v (Below.refl _ _).drew.drew b4); obtain ⟨fn4, tm4, as4, bd4, hyy, hR⟩ := HYD.out w4 _ (n - 1 - 1 - 1) b5 i5; obtain ⟨fn5, tm5, as5, bd5, hyy', hR'⟩ := HYD.out w4.drew _ (n - 1 - 1 - 1) b5.drew (ItemsAt.kept (w := w4) (w' := w4.drew) (fun _ _ _ => rfl) i5); have qy4 := ((bcellV b5).1 W.heap.size 0 (by omega)).trans qy; have HRR := hide (And.intro hR hR'); (try clear hR'); (try clear hR); (try clear i5); (try clear b5); (try clear i4); (try clear b4))
      | (refine ⟨(fun h => by cases h), ?_⟩; (first | refine HRR.out.1.mono ?_ | refine HRR.out.2.mono ?_); rintro e w6 ⟨bb, rfl, k6, m6, x6⟩; have R6 := hide (And.intro k6 (And.intro m6 x6)); clear k6 m6 x6)
      )
    all_goals
      refine NoPanic.normal ?_
      cases bb
      · gi_wp2
        exact ⟨R6.out.1, R6.out.2.2 (by first | rfl | trivial)⟩
      · gi_wp2
        exact ⟨R6.out.1, R6.out.2.1 (by first | rfl | trivial)⟩
  case done1 =>
    rintro S W9 ⟨h9, _, _, _⟩ hK
    gi_wp2
    refine ⟨by simp, .inl ⟨_, _, rfl, run_takeDeferred hK, ?_⟩⟩
    exact ⟨_, results_none rfl _ _ _, ⟨_, rfl⟩, .inl ⟨_, hJ.grown _ _ _ _ _ h9 (grownBy_putObj' _ _ _) (fun r e => by cases e; exact .inr (.inl rfl))⟩⟩
end Go.Proofs.YtagolpdhjkcoeaaGreatDoor
