/- A range over a function whose iterator makes blocks of its own as it goes: what the iterator owes, what a round owes, and the loop's law, at the wide fence. -/
import Derived.Test.YtmgmndhibcgpdaaGreatDoorGText
import Derived.RangeFuncOwn
namespace Go.Proofs.YtmgmndhibcgpdaaGreatDoor
open Go.RowKit

/-- The iterator's own blocks. -/
abbrev Blocks := Nat → Prop

/-- What a round leaves as it was: what is no cells from B on; the blocks K; the iterator's own blocks. -/
structure KeptP (B : Nat) (K S : Blocks) (W W' : World) : Prop where
  size : W.heap.size ≤ W'.heap.size
  other : ∀ (k : Nat) (o : Obj), B ≤ k → W.heap[k]? = some o → o.isCells = false → W'.heap[k]? = some o
  box : ∀ (k : Nat) (o : Obj), K k → W.heap[k]? = some o → W'.heap[k]? = some o
  own : ∀ (k : Nat) (o : Obj), S k → W.heap[k]? = some o → W'.heap[k]? = some o

theorem KeptP.refl (B : Nat) (K S : Blocks) (W : World) : KeptP B K S W W := ⟨Nat.le_refl _, fun _ _ _ h _ => h, fun _ _ _ h => h, fun _ _ _ h => h⟩
theorem KeptP.trans {B : Nat} {K S : Blocks} {X Y Z : World} (h : KeptP B K S X Y) (k : KeptP B K S Y Z) : KeptP B K S X Z :=
  ⟨Nat.le_trans h.size k.size, fun i o hB hi ho => k.other i o hB (h.other i o hB hi ho) ho, fun i o hs hi => k.box i o hs (h.box i o hs hi), fun i o hs hi => k.own i o hs (h.own i o hs hi)⟩
theorem KeptP.grown {B : Nat} {K S : Blocks} {W W' : World} {row : Option Nat} (hg : W.grownBy W' row)
    (hr : ∀ r, row = some r → ¬ K r ∧ ¬ S r ∧ (r < B ∨ ∀ o, W.heap[r]? = some o → o.isCells = true)) : KeptP B K S W W' := by
  have same : ∀ k o, W.heap[k]? = some o → some k ≠ row → W'.heap[k]? = some o := fun k o hk hne => (hg.block k (Array.getElem?_eq_some_iff.1 hk).1 hne).trans hk
  refine ⟨hg.size, fun k o hB hk ho => same k o hk fun e => ?_, fun k o hs ho => same _ o ho fun e => (hr _ e.symm).1 hs, fun k o hs ho => same _ o ho fun e => (hr _ e.symm).2.1 hs⟩
  rcases (hr _ e.symm).2.2 with h | h
  · omega
  · rw [h o hk] at ho
    cases ho
theorem KeptP.below {B : Nat} {K S : Blocks} {W W' : World} (hb : Below W.heap.size W W') : KeptP B K S W W' :=
  have same : ∀ k o, W.heap[k]? = some o → W'.heap[k]? = some o := fun k _ hk => (hb.block k (Array.getElem?_eq_some_iff.1 hk).1).trans hk
  ⟨hb.size, fun k o _ hk _ => same k o hk, fun k o _ ho => same k o ho, fun k o _ ho => same k o ho⟩
theorem KeptP.alloc (B : Nat) (K S : Blocks) (W : World) (o : Obj) : KeptP B K S W (W.alloc o) := KeptP.grown (World.grownBy_alloc W o none) (fun _ e => by cases e)

/-- A loop's invariant does not mind new blocks, nor a turn of a block that is no cells from B on, or that is the iterator's; and a block that is not there yet may become the iterator's. -/
structure OwnL {β : Type} (B : Nat) (I : β → Blocks → World → Prop) : Prop where
  grown : ∀ s S W W' row, I s S W → W.grownBy W' row → (∀ r, row = some r → (B ≤ r ∧ ∃ o : Obj, W.heap[r]? = some o ∧ o.isCells = false) ∨ S r) → I s S W'
  claim : ∀ s S S' W, I s S W → (∀ k, S' k → S k ∨ W.heap.size ≤ k) → I s S' W
/-- The same from the iterator's side. -/
structure OwnJ {β : Type} (J : β → Blocks → World → Prop) : Prop where
  grown : ∀ s S W W' row, J s S W → W.grownBy W' row → (∀ r, row = some r → S r) → J s S W'
  claim : ∀ s S S' W, J s S W → (∀ k, S' k → S k ∨ W.heap.size ≤ k) → J s S' W

theorem OwnJ.below {β : Type} {J : β → Blocks → World → Prop} (h : OwnJ J) {s : β} {S : Blocks} {W W' : World} (hs : J s S W) (hb : Below W.heap.size W W') : J s S W' :=
  h.grown s S W W' none hs (grown_below hb) (fun _ e => by cases e)
theorem OwnL.alloc {β : Type} {B : Nat} {I : β → Blocks → World → Prop} (h : OwnL B I) {s : β} {S : Blocks} {W : World} (o : Obj) (hs : I s S W) : I s S (W.alloc o) :=
  h.grown s S W _ none hs (World.grownBy_alloc W o none) (fun _ e => by cases e)
theorem OwnL.putObj {β : Type} {B : Nat} {I : β → Blocks → World → Prop} (h : OwnL B I) {s : β} {S : Blocks} {W : World} {l : Nat} {o : Obj} (o' : Obj) (hs : I s S W) (hB : B ≤ l) (hl : W.heap[l]? = some o) (hc : o.isCells = false) : I s S (W.putObj l o') :=
  h.grown s S W _ (some l) hs (grownBy_putObj' _ _ _) (fun r e => by cases e; exact .inl ⟨hB, o, hl, hc⟩)

/-- How the body of a round may be left. -/
def roundPostP {α : Type} (B : Nat) (K S : Blocks) (I : List α → Blocks → World → Prop) (Ix : Code → List α → Blocks → World → Prop) (xs : List α) (W : World) : Exit → Act → World → Prop
  | .normal, _, W' => KeptP B K S W W' ∧ I xs S W'
  | .ret, _, W' => KeptP B K S W W' ∧ Ix .ret xs S W'
  | .exit id, _, W' => KeptP B K S W W' ∧ Ix (.exit id) xs S W'
  | .goto t, _, W' => KeptP B K S W W' ∧ Ix (.goto t) xs S W'
  | .panic _, _, _ => False
  | .outgrown, _, _ => False

/-- What the iterator owes to a loop that begins in w. -/
def SeqP {α : Type} (n : Nat) (P : Program) (g : Nat) (lb : Array Value) (Enc : α → Blocks → Array Value → World → Prop) (K : Blocks) (xs : List α) (w : World) : Prop :=
  ∀ (l : Nat) (J Jx : List α → Blocks → World → Prop) (W : World), W.heap.size = w.heap.size + 2 → (∀ k, k < w.heap.size → W.heap[k]? = w.heap[k]?) → OwnJ J → OwnJ Jx →
    (∀ pre x S vs W1, J pre S W1 → (∃ post, xs = pre ++ x :: post) → Enc x S vs W1 → YieldAt Fence.wide (n - 1) P l vs W1 fun e W' =>
      (e = .returned (.bool true) ∧ J (pre ++ [x]) S W' ∧ KeptP w.heap.size K S W1 W') ∨ (e = .returned (.bool false) ∧ Jx (pre ++ [x]) S W')) →
    J [] (fun _ => False) W →
    CallsIn Fence.wide n P g (#[.func (.yield l) #[] #[]] ++ lb) W fun e W' => (∃ v, e = .returned v) ∧ ((∃ S, J xs S W') ∨ (∃ S pre x post, xs = pre ++ x :: post ∧ Jx (pre ++ [x]) S W'))

theorem seqp_law {α : Type} {n : Nat} {P : Program} {g : Operand} {ps : Array Tmp} {assign body : Code} {Q : Exit → Act → World → Prop} {a : Act} {w : World}
    {gf : Nat} {lb : Array Value} (hg : a.eval g = .func (.func gf) #[] lb) (eg : ∀ args w, (callFunc gf args).run P w = .ok (.enter gf args) w)
    {Enc : α → Blocks → Array Value → World → Prop} {K : Blocks} (hsb : ∀ k, K k → k < w.heap.size) {xs : List α} (hseq : SeqP (n - 1) P gf lb Enc K xs w) (hps : ∀ x S vs W, Enc x S vs W → vs.size = ps.size)
    (I : List α → Blocks → World → Prop) (Ix : Code → List α → Blocks → World → Prop) (hI : OwnL w.heap.size I) (hIx : ∀ c, OwnL w.heap.size (Ix c)) (h0 : I [] (fun _ => False) w)
    (hround : ∀ (l : Nat) (pre : List α) (x : α) (S : Blocks) (vs : Array Value) (W : World), I pre S W → (∀ k, S k → w.heap.size + 2 ≤ k) → (∃ post, xs = pre ++ x :: post) → Enc x S vs W → w.heap.size + 2 ≤ W.heap.size →
      assign.wpIn (Fence.wide.inRound l) (n - 1 - 1) P (Exit.then (fun a₁ W₁ => KeptP w.heap.size K S W W₁ ∧ ∃ J : World → Prop, (∀ X Y row, J X → X.grownBy Y row → (∀ r, row = some r → w.heap.size ≤ r ∧ ∃ o : Obj, X.heap[r]? = some o ∧ o.isCells = false) → J Y) ∧ J W₁ ∧
          ∀ W₂, J W₂ → w.heap.size + 2 ≤ W₂.heap.size → body.wpIn (Fence.wide.inRound l) (n - 1 - 1) P (roundPostP w.heap.size K S I Ix (pre ++ [x]) W₂) a₁ W₂) (fun _ _ _ => False))
        { tmps := (ps.zip vs).foldl (fun t (p, v) => t.setIfInBounds p v) a.tmps, defers := [] } W)
    (hdone : ∀ (S : Blocks) (W : World), I xs S W → W.heap[w.heap.size]? = some (.deferred (some [])) → Q .normal { a with defers := { target := .collected w.heap.size, args := #[] } :: a.defers } W)
    (hstop : ∀ (c : Code) (S : Blocks) (pre : List α) (x : α) (W : World), (∃ post, xs = pre ++ x :: post) → Ix c (pre ++ [x]) S W → W.heap[w.heap.size]? = some (.deferred (some [])) → c.wpIn Fence.wide n P Q { a with defers := { target := .collected w.heap.size, args := #[] } :: a.defers } W) :
    (Code.rangeFunc g ps assign body).wpIn Fence.wide n P Q a w := by
  refine wpIn_rangeFunc ?_
  intro fn hfn
  let rec' : LoopState → Option Code → Loop := fun st pe => { state := st, pending := pe, fn, tmps := a.tmps, params := ps, assign, body, defers := w.heap.size }
  obtain ⟨R, hR⟩ : ∃ R : LoopState → Option Code → Loop, R = rec' := ⟨_, rfl⟩
  obtain ⟨W1, hW1⟩ : ∃ W1, (w.alloc (.deferred (some []))).alloc (.loop (R .ready none)) = W1 := ⟨_, rfl⟩
  have hs1 : W1.heap.size = w.heap.size + 2 := by rw [← hW1]; simp
  have hlow : ∀ k, k < w.heap.size → W1.heap[k]? = w.heap[k]? := fun k hk => by
    rw [← hW1]
    exact (Below.heap_alloc _ _ _ (by simp; omega)).trans (Below.heap_alloc _ _ _ hk)
  have hL1 : W1.heap[w.heap.size + 1]? = some (.loop (R .ready none)) := by
    rw [← hW1]
    have := World.alloc_heap_new (w.alloc (.deferred (some []))) (.loop (R .ready none))
    rwa [World.size_alloc] at this
  have hK1 : W1.heap[w.heap.size]? = some (.deferred (some [])) := by
    rw [← hW1]
    exact (Below.heap_alloc _ _ _ (by simp)).trans (World.alloc_heap_new w _)
  have hI1 : I [] (fun _ => False) W1 := by rw [← hW1]; exact hI.alloc _ (hI.alloc _ h0)
  refine ⟨w.heap.size + 1, [{ target := .collected w.heap.size, args := #[] }], W1, { target := .fn (.func gf) lb, args := #[.func (.yield (w.heap.size + 1)) #[] #[]] }, W1, gf,
    #[.func (.yield (w.heap.size + 1)) #[] #[]] ++ lb, W1, ?_, ?_, fun _ _ => trivial, ?_, (fun h => by cases h), ?_⟩
  · rw [← hW1, hR]
    exact run_enterLoop_outer _ _ _ _ _
  · simp only [resolve, hg]
    simp [go_sem]
  · simp [invoke, go_sem, eg]
  have low : ∀ {W W' : World} {row : Option Nat} {S : Blocks} {k : Nat} {o : Obj}, W.grownBy W' row → (∀ k, S k → w.heap.size + 2 ≤ k) → (∀ r, row = some r → S r) → k < w.heap.size + 2 → W.heap[k]? = some o → W'.heap[k]? = some o :=
    fun hg' hS hr hk ho => (hg'.block _ (Array.getElem?_eq_some_iff.1 ho).1 fun e => by have := hS _ (hr _ e.symm); omega).trans ho
  refine (hseq (w.heap.size + 1)
    (fun pre S W => I pre S W ∧ (∀ k, S k → w.heap.size + 2 ≤ k) ∧ W.heap[w.heap.size + 1]? = some (.loop (R .ready none)) ∧ W.heap[w.heap.size]? = some (.deferred (some [])))
    (fun pre S W => ∃ c, Ix c pre S W ∧ (∀ k, S k → w.heap.size + 2 ≤ k) ∧ W.heap[w.heap.size + 1]? = some (.loop (R .done (some c))) ∧ W.heap[w.heap.size]? = some (.deferred (some [])))
    W1 hs1 hlow
    ⟨fun s S X Y row hs hg' hr => ⟨hI.grown s S X Y row hs.1 hg' (fun r e => .inr (hr r e)), hs.2.1, low hg' hs.2.1 hr (by omega) hs.2.2.1, low hg' hs.2.1 hr (by omega) hs.2.2.2⟩,
      fun s S S' X hs hc => ⟨hI.claim s S S' X hs.1 hc, fun k hk => by
        rcases hc k hk with h | h
        · exact hs.2.1 k h
        · have := (Array.getElem?_eq_some_iff.1 hs.2.2.1).1
          omega, hs.2.2⟩⟩
    ⟨fun s S X Y row hs hg' hr => by
      obtain ⟨c, hc, hS, hl, hk⟩ := hs
      exact ⟨c, (hIx c).grown s S X Y row hc hg' (fun r e => .inr (hr r e)), hS, low hg' hS hr (by omega) hl, low hg' hS hr (by omega) hk⟩,
      fun s S S' X hs hcl => by
        obtain ⟨c, hc, hS, hl, hk⟩ := hs
        refine ⟨c, (hIx c).claim s S S' X hc hcl, fun k hk' => ?_, hl, hk⟩
        rcases hcl k hk' with h | h
        · exact hS k h
        · have := (Array.getElem?_eq_some_iff.1 hl).1
          omega⟩
    ?_ ⟨hI1, (fun _ h => h.elim), hL1, hK1⟩).mono ?_
  · rintro pre x S vs W ⟨hi, hS, hl, hk⟩ hpost henc
    have hlt : w.heap.size + 1 < W.heap.size := (Array.getElem?_eq_some_iff.1 hl).1
    have hy := run_yield (P := P) (args := vs) hl (by rw [hR]; exact hps x S vs W henc)
    rw [hR] at hy
    refine ⟨fn, _, assign, body, hy, roundIn_of_wpIn hfn (wpIn_mono (hround _ pre x S vs W hi hS hpost henc (by omega)) ?_)⟩
    rintro e a₁ Wa he
    cases e with
    | normal =>
      obtain ⟨hka, J, hJ, hJa, hbody⟩ := he
      have hla := hka.other _ _ (by omega) hl rfl
      have hkka := hka.other _ _ (Nat.le_refl _) hk rfl
      have hlta := (Array.getElem?_eq_some_iff.1 hla).1
      refine ⟨_, run_beginRound hla (by rw [hR]), ?_⟩
      obtain ⟨Wb, hWb⟩ : ∃ Wb, Wa.putObj (w.heap.size + 1) (.loop { R .ready none with state := .busy }) = Wb := ⟨_, rfl⟩
      rw [hWb]
      have hgb : Wa.grownBy Wb (some (w.heap.size + 1)) := by rw [← hWb]; exact grownBy_putObj' _ _ _
      have hlb : Wb.heap[w.heap.size + 1]? = some (.loop { R .ready none with state := .busy }) := by rw [← hWb]; exact World.putObj_heap_same hlta
      have hkb : Wb.heap[w.heap.size]? = some (.deferred (some [])) := (hgb.block _ (Array.getElem?_eq_some_iff.1 hkka).1 (by simp)).trans hkka
      have hJb : J Wb := hJ Wa Wb _ hJa hgb (fun r e => by cases e; exact ⟨by omega, _, hla, rfl⟩)
      refine wpIn_mono (hbody Wb hJb (by have := hgb.size; have := hka.size; omega)) ?_
      have fin : ∀ (jump : Option Code) (W3 : World), KeptP w.heap.size K S Wb W3 →
          W3.heap[w.heap.size + 1]? = some (.loop { R .ready none with state := .busy }) ∧
          (Instr.endRound (w.heap.size + 1) jump).run P W3 = .ok (.bool jump.isNone) (W3.putObj (w.heap.size + 1) (.loop (R (if jump.isNone then .ready else .done) jump))) ∧
          (W3.putObj (w.heap.size + 1) (.loop (R (if jump.isNone then .ready else .done) jump))).heap[w.heap.size + 1]? = some (.loop (R (if jump.isNone then .ready else .done) jump)) ∧
          (W3.putObj (w.heap.size + 1) (.loop (R (if jump.isNone then .ready else .done) jump))).heap[w.heap.size]? = some (.deferred (some [])) ∧
          ∀ k o, k ≠ w.heap.size + 1 → Wb.heap[k]? = some o → W3.heap[k]? = some o → (W3.putObj (w.heap.size + 1) (.loop (R (if jump.isNone then .ready else .done) jump))).heap[k]? = some o := fun jump W3 hk3 => by
        have hl3 := hk3.other _ _ (by omega) hlb rfl
        have hend := run_endRound (P := P) jump hl3
        refine ⟨hl3, ?_, World.putObj_heap_same (Array.getElem?_eq_some_iff.1 hl3).1, (World.putObj_heap_other (by omega)).trans (hk3.other _ _ (Nat.le_refl _) hkb rfl), fun k o hne _ h3 => (World.putObj_heap_other hne).trans h3⟩
        rw [hR] at hend ⊢
        exact hend
      rintro e a3 W3 hp
      cases e with
      | normal =>
        obtain ⟨hk3, hi3⟩ := hp
        obtain ⟨hl3, hr, hl4, hk4, hoth⟩ := fin none W3 hk3
        refine ⟨_, _, hr, .inl ⟨rfl, ⟨hI.putObj _ hi3 (by omega) hl3 rfl, hS, hl4, hk4⟩, ?_⟩⟩
        have hb : ∀ k o, k ≠ w.heap.size + 1 → Wa.heap[k]? = some o → Wb.heap[k]? = some o := fun k o hne h => (hgb.block k (Array.getElem?_eq_some_iff.1 h).1 (by simpa using hne)).trans h
        refine ⟨by have := hka.size; have := hgb.size; have := hk3.size; simp; omega, fun k o hB hk' ho => ?_, fun k o hs ho => ?_, fun k o hs ho => ?_⟩
        · by_cases e : k = w.heap.size + 1
          · subst e
            rw [hl] at hk'
            cases hk'
            exact hl4
          · have h1 := hb k o e (hka.other k o hB hk' ho)
            exact hoth k o e h1 (hk3.other k o hB h1 ho)
        · have hkK := hsb k hs
          have h1 := hb k o (by omega) (hka.box k o hs ho)
          exact hoth k o (by omega) h1 (hk3.box k o hs h1)
        · have hkS := hS k hs
          have h1 := hb k o (by omega) (hka.own k o hs ho)
          exact hoth k o (by omega) h1 (hk3.own k o hs h1)
      | ret =>
        obtain ⟨hk3, hi3⟩ := hp
        obtain ⟨hl3, hr, hl4, hk4, _⟩ := fin (some .ret) W3 hk3
        exact ⟨_, _, hr, .inr ⟨rfl, .ret, (hIx _).putObj _ hi3 (by omega) hl3 rfl, hS, hl4, hk4⟩⟩
      | exit id =>
        obtain ⟨hk3, hi3⟩ := hp
        obtain ⟨hl3, hr, hl4, hk4, _⟩ := fin (some (.exit id)) W3 hk3
        exact ⟨_, _, hr, .inr ⟨rfl, .exit id, (hIx _).putObj _ hi3 (by omega) hl3 rfl, hS, hl4, hk4⟩⟩
      | goto t =>
        obtain ⟨hk3, hi3⟩ := hp
        obtain ⟨hl3, hr, hl4, hk4, _⟩ := fin (some (.goto t)) W3 hk3
        exact ⟨_, _, hr, .inr ⟨rfl, .goto t, (hIx _).putObj _ hi3 (by omega) hl3 rfl, hS, hl4, hk4⟩⟩
      | panic ch => exact hp.elim
      | outgrown => exact hp.elim
    | ret => exact he
    | exit id => exact he
    | goto t => exact he
    | panic ch => exact he
    | outgrown => exact he
  · rintro e W2 ⟨⟨v, rfl⟩, (⟨S, hi, hS, hl, hk⟩ | ⟨S, pre, x, post, hx, c, hi, hS, hl, hk⟩)⟩
    · exact ⟨none, _, by have := run_endLoop (P := P) hl (by rw [hR]; simp [rec']); rw [hR] at this; rw [hR] at hl; exact this, hdone S _ (hI.putObj _ hi (by omega) hl rfl) ((World.putObj_heap_other (by omega)).trans hk)⟩
    · exact ⟨some c, _, by have := run_endLoop (P := P) hl (by rw [hR]; simp [rec']); rw [hR] at this; exact this, hstop c S pre x _ ⟨post, hx⟩ ((hIx c).putObj _ hi (by omega) hl rfl) ((World.putObj_heap_other (by omega)).trans hk)⟩
end Go.Proofs.YtmgmndhibcgpdaaGreatDoor
