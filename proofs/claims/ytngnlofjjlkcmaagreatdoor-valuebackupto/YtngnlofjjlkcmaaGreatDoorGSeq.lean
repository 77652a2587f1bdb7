/- A range over a function whose iterator makes blocks of its own as it goes: what the iterator owes, what a round owes, and the loop's law, at the wide fence. -/
import Derived.Test.YtngnlofjjlkcmaaGreatDoorGText
import Derived.RangeFuncOwn
import Derived.Test.YtngnlofjjlkcmaaGreatDoorZVMake
import Derived.Laws.EntriesVeiled
import Derived.RangeFuncKeeps
namespace Go.Proofs.YtngnlofjjlkcmaaGreatDoor
open Go.RowKit

/-- The iterator's own blocks. -/
abbrev Blocks := Nat → Prop

/-- What a round leaves as it was: what is no cells from B on; the blocks K; the iterator's own blocks. -/
structure KeptP (B : Nat) (K S : Blocks) (W W' : World) : Prop where
  size : W.heap.size ≤ W'.heap.size
  other : ∀ (k : Nat) (o : Obj), B ≤ k → W.heap[k]? = some o → o.isCells = false → W'.heap[k]? = some o
  box : ∀ (k : Nat) (o : Obj), K k → W.heap[k]? = some o → W'.heap[k]? = some o
  own : ∀ (k : Nat) (o : Obj), S k → W.heap[k]? = some o → W'.heap[k]? = some o

theorem KeptP.refl (B : Nat) (K S : Blocks) (W : World) : KeptP B K S W W := ⟨Nat.le_refl _, fun _ _ _ h _ => h, fun _ _ _ h => h, fun _ _ _ h => h⟩
theorem KeptP.trans {B : Nat} {K S : Blocks} {X Y Z : World} (h : KeptP B K S X Y) (k : KeptP B K S Y Z) : KeptP B K S X Z :=
  ⟨Nat.le_trans h.size k.size, fun i o hB hi ho => k.other i o hB (h.other i o hB hi ho) ho, fun i o hs hi => k.box i o hs (h.box i o hs hi), fun i o hs hi => k.own i o hs (h.own i o hs hi)⟩
theorem KeptP.grown {B : Nat} {K S : Blocks} {W W' : World} {row : Option Nat} (hg : W.grownBy W' row)
    (hr : ∀ r, row = some r → ¬ K r ∧ ¬ S r ∧ (r < B ∨ ∀ o, W.heap[r]? = some o → o.isCells = true)) : KeptP B K S W W' := by
  have same : ∀ k o, W.heap[k]? = some o → some k ≠ row → W'.heap[k]? = some o := fun k o hk hne => (hg.block k (Array.getElem?_eq_some_iff.1 hk).1 hne).trans hk
  refine ⟨hg.size, fun k o hB hk ho => same k o hk fun e => ?_, fun k o hs ho => same _ o ho fun e => (hr _ e.symm).1 hs, fun k o hs ho => same _ o ho fun e => (hr _ e.symm).2.1 hs⟩
  rcases (hr _ e.symm).2.2 with h | h
  · omega
  · rw [h o hk] at ho
    cases ho
theorem KeptP.below {B : Nat} {K S : Blocks} {W W' : World} (hb : Below W.heap.size W W') : KeptP B K S W W' :=
  have same : ∀ k o, W.heap[k]? = some o → W'.heap[k]? = some o := fun k _ hk => (hb.block k (Array.getElem?_eq_some_iff.1 hk).1).trans hk
  ⟨hb.size, fun k o _ hk _ => same k o hk, fun k o _ ho => same k o ho, fun k o _ ho => same k o ho⟩
theorem KeptP.alloc (B : Nat) (K S : Blocks) (W : World) (o : Obj) : KeptP B K S W (W.alloc o) := KeptP.grown (World.grownBy_alloc W o none) (fun _ e => by cases e)

/-- A loop's invariant does not mind new blocks, nor a turn of a block that is no cells from B on, or that is the iterator's; and a block that is not there yet may become the iterator's. -/
structure OwnL {β : Type} (B : Nat) (I : β → Blocks → World → Prop) : Prop where
  grown : ∀ s S W W' row, I s S W → W.grownBy W' row → (∀ r, row = some r → (B ≤ r ∧ ∃ o : Obj, W.heap[r]? = some o ∧ o.isCells = false) ∨ S r) → I s S W'
  claim : ∀ s S S' W, I s S W → (∀ k, S' k → S k ∨ W.heap.size ≤ k) → I s S' W
/-- The same from the iterator's side. -/
structure OwnJ {β : Type} (J : β → Blocks → World → Prop) : Prop where
  grown : ∀ s S W W' row, J s S W → W.grownBy W' row → (∀ r, row = some r → S r) → J s S W'
  claim : ∀ s S S' W, J s S W → (∀ k, S' k → S k ∨ W.heap.size ≤ k) → J s S' W

theorem OwnJ.below {β : Type} {J : β → Blocks → World → Prop} (h : OwnJ J) {s : β} {S : Blocks} {W W' : World} (hs : J s S W) (hb : Below W.heap.size W W') : J s S W' :=
  h.grown s S W W' none hs (grown_below hb) (fun _ e => by cases e)
theorem OwnL.alloc {β : Type} {B : Nat} {I : β → Blocks → World → Prop} (h : OwnL B I) {s : β} {S : Blocks} {W : World} (o : Obj) (hs : I s S W) : I s S (W.alloc o) :=
  h.grown s S W _ none hs (World.grownBy_alloc W o none) (fun _ e => by cases e)
theorem OwnL.putObj {β : Type} {B : Nat} {I : β → Blocks → World → Prop} (h : OwnL B I) {s : β} {S : Blocks} {W : World} {l : Nat} {o : Obj} (o' : Obj) (hs : I s S W) (hB : B ≤ l) (hl : W.heap[l]? = some o) (hc : o.isCells = false) : I s S (W.putObj l o') :=
  h.grown s S W _ (some l) hs (grownBy_putObj' _ _ _) (fun r e => by cases e; exact .inl ⟨hB, o, hl, hc⟩)

/-- How the body of a round may be left. -/
def roundPostP {α : Type} (B : Nat) (K S : Blocks) (I : List α → Blocks → World → Prop) (Ix : Code → List α → Blocks → World → Prop) (xs : List α) (W : World) : Exit → Act → World → Prop
  | .normal, _, W' => KeptP B K S W W' ∧ I xs S W'
  | .ret, _, W' => KeptP B K S W W' ∧ Ix .ret xs S W'
  | .exit id, _, W' => KeptP B K S W W' ∧ Ix (.exit id) xs S W'
  | .goto t, _, W' => KeptP B K S W W' ∧ Ix (.goto t) xs S W'
  | .panic _, _, _ => False
  | .outgrown, _, _ => False

/-- What the iterator owes to a loop that begins in w. -/
def SeqP {α : Type} (n : Nat) (P : Program) (g : Nat) (lb : Array Value) (Enc : α → Blocks → Array Value → World → Prop) (K : Blocks) (xs : List α) (w : World) : Prop :=
  ∀ (l : Nat) (J Jx : List α → Blocks → World → Prop) (W : World), W.heap.size = w.heap.size + 2 → (∀ k, k < w.heap.size → W.heap[k]? = w.heap[k]?) → OwnJ J → OwnJ Jx →
    (∀ pre x S vs W1, J pre S W1 → (∃ post, xs = pre ++ x :: post) → Enc x S vs W1 → YieldAt Fence.wide (n - 1) P l vs W1 fun e W' =>
      (e = .returned (.bool true) ∧ J (pre ++ [x]) S W' ∧ KeptP w.heap.size K S W1 W') ∨ (e = .returned (.bool false) ∧ Jx (pre ++ [x]) S W')) →
    J [] (fun _ => False) W →
    CallsIn Fence.wide n P g (#[.func (.yield l) #[] #[]] ++ lb) W fun e W' => (∃ v, e = .returned v) ∧ ((∃ S, J xs S W') ∨ (∃ S pre x post, xs = pre ++ x :: post ∧ Jx (pre ++ [x]) S W'))

theorem seqp_law {α : Type} {n : Nat} {P : Program} {g : Operand} {ps : Array Tmp} {assign body : Code} {Q : Exit → Act → World → Prop} {a : Act} {w : World}
    {gf : Nat} {lb : Array Value} (hg : a.eval g = .func (.func gf) #[] lb) (eg : ∀ args w, (callFunc gf args).run P w = .ok (.enter gf args) w)
    {Enc : α → Blocks → Array Value → World → Prop} {K : Blocks} (hsb : ∀ k, K k → k < w.heap.size) {xs : List α} (hseq : SeqP (n - 1) P gf lb Enc K xs w) (hps : ∀ x S vs W, Enc x S vs W → vs.size = ps.size)
    (I : List α → Blocks → World → Prop) (Ix : Code → List α → Blocks → World → Prop) (hI : OwnL w.heap.size I) (hIx : ∀ c, OwnL w.heap.size (Ix c)) (h0 : I [] (fun _ => False) w)
    (hround : ∀ (l : Nat) (pre : List α) (x : α) (S : Blocks) (vs : Array Value) (W : World), I pre S W → (∀ k, S k → w.heap.size + 2 ≤ k) → (∃ post, xs = pre ++ x :: post) → Enc x S vs W → w.heap.size + 2 ≤ W.heap.size →
      assign.wpIn (Fence.wide.inRound l) (n - 1 - 1) P (Exit.then (fun a₁ W₁ => KeptP w.heap.size K S W W₁ ∧ ∃ J : World → Prop, (∀ X Y row, J X → X.grownBy Y row → (∀ r, row = some r → w.heap.size ≤ r ∧ ∃ o : Obj, X.heap[r]? = some o ∧ o.isCells = false) → J Y) ∧ J W₁ ∧
          ∀ W₂, J W₂ → w.heap.size + 2 ≤ W₂.heap.size → body.wpIn (Fence.wide.inRound l) (n - 1 - 1) P (roundPostP w.heap.size K S I Ix (pre ++ [x]) W₂) a₁ W₂) (fun _ _ _ => False))
        { tmps := (ps.zip vs).foldl (fun t (p, v) => t.setIfInBounds p v) a.tmps, defers := [] } W)
    (hdone : ∀ (S : Blocks) (W : World), I xs S W → W.heap[w.heap.size]? = some (.deferred (some [])) → Q .normal { a with defers := { target := .collected w.heap.size, args := #[] } :: a.defers } W)
    (hstop : ∀ (c : Code) (S : Blocks) (pre : List α) (x : α) (W : World), (∃ post, xs = pre ++ x :: post) → Ix c (pre ++ [x]) S W → W.heap[w.heap.size]? = some (.deferred (some [])) → c.wpIn Fence.wide n P Q { a with defers := { target := .collected w.heap.size, args := #[] } :: a.defers } W) :
    (Code.rangeFunc g ps assign body).wpIn Fence.wide n P Q a w := by
  refine wpIn_rangeFunc ?_
  intro fn hfn
  let rec' : LoopState → Option Code → Loop := fun st pe => { state := st, pending := pe, fn, tmps := a.tmps, params := ps, assign, body, defers := w.heap.size }
  obtain ⟨R, hR⟩ : ∃ R : LoopState → Option Code → Loop, R = rec' := ⟨_, rfl⟩
  obtain ⟨W1, hW1⟩ : ∃ W1, (w.alloc (.deferred (some []))).alloc (.loop (R .ready none)) = W1 := ⟨_, rfl⟩
  have hs1 : W1.heap.size = w.heap.size + 2 := by rw [← hW1]; simp
  have hlow : ∀ k, k < w.heap.size → W1.heap[k]? = w.heap[k]? := fun k hk => by
    rw [← hW1]
    exact (Below.heap_alloc _ _ _ (by simp; omega)).trans (Below.heap_alloc _ _ _ hk)
  have hL1 : W1.heap[w.heap.size + 1]? = some (.loop (R .ready none)) := by
    rw [← hW1]
    have := World.alloc_heap_new (w.alloc (.deferred (some []))) (.loop (R .ready none))
    rwa [World.size_alloc] at this
  have hK1 : W1.heap[w.heap.size]? = some (.deferred (some [])) := by
    rw [← hW1]
    exact (Below.heap_alloc _ _ _ (by simp)).trans (World.alloc_heap_new w _)
  have hI1 : I [] (fun _ => False) W1 := by rw [← hW1]; exact hI.alloc _ (hI.alloc _ h0)
  refine ⟨w.heap.size + 1, [{ target := .collected w.heap.size, args := #[] }], W1, { target := .fn (.func gf) lb, args := #[.func (.yield (w.heap.size + 1)) #[] #[]] }, W1, gf,
    #[.func (.yield (w.heap.size + 1)) #[] #[]] ++ lb, W1, ?_, ?_, fun _ _ => trivial, ?_, (fun h => by cases h), ?_⟩
  · rw [← hW1, hR]
    exact run_enterLoop_outer _ _ _ _ _
  · simp only [resolve, hg]
    simp [go_sem]
  · simp [invoke, go_sem, eg]
  have low : ∀ {W W' : World} {row : Option Nat} {S : Blocks} {k : Nat} {o : Obj}, W.grownBy W' row → (∀ k, S k → w.heap.size + 2 ≤ k) → (∀ r, row = some r → S r) → k < w.heap.size + 2 → W.heap[k]? = some o → W'.heap[k]? = some o :=
    fun hg' hS hr hk ho => (hg'.block _ (Array.getElem?_eq_some_iff.1 ho).1 fun e => by have := hS _ (hr _ e.symm); omega).trans ho
  refine (hseq (w.heap.size + 1)
    (fun pre S W => I pre S W ∧ (∀ k, S k → w.heap.size + 2 ≤ k) ∧ W.heap[w.heap.size + 1]? = some (.loop (R .ready none)) ∧ W.heap[w.heap.size]? = some (.deferred (some [])))
    (fun pre S W => ∃ c, Ix c pre S W ∧ (∀ k, S k → w.heap.size + 2 ≤ k) ∧ W.heap[w.heap.size + 1]? = some (.loop (R .done (some c))) ∧ W.heap[w.heap.size]? = some (.deferred (some [])))
    W1 hs1 hlow
    ⟨fun s S X Y row hs hg' hr => ⟨hI.grown s S X Y row hs.1 hg' (fun r e => .inr (hr r e)), hs.2.1, low hg' hs.2.1 hr (by omega) hs.2.2.1, low hg' hs.2.1 hr (by omega) hs.2.2.2⟩,
      fun s S S' X hs hc => ⟨hI.claim s S S' X hs.1 hc, fun k hk => by
        rcases hc k hk with h | h
        · exact hs.2.1 k h
        · have := (Array.getElem?_eq_some_iff.1 hs.2.2.1).1
          omega, hs.2.2⟩⟩
    ⟨fun s S X Y row hs hg' hr => by
      obtain ⟨c, hc, hS, hl, hk⟩ := hs
      exact ⟨c, (hIx c).grown s S X Y row hc hg' (fun r e => .inr (hr r e)), hS, low hg' hS hr (by omega) hl, low hg' hS hr (by omega) hk⟩,
      fun s S S' X hs hcl => by
        obtain ⟨c, hc, hS, hl, hk⟩ := hs
        refine ⟨c, (hIx c).claim s S S' X hc hcl, fun k hk' => ?_, hl, hk⟩
        rcases hcl k hk' with h | h
        · exact hS k h
        · have := (Array.getElem?_eq_some_iff.1 hl).1
          omega⟩
    ?_ ⟨hI1, (fun _ h => h.elim), hL1, hK1⟩).mono ?_
  · rintro pre x S vs W ⟨hi, hS, hl, hk⟩ hpost henc
    have hlt : w.heap.size + 1 < W.heap.size := (Array.getElem?_eq_some_iff.1 hl).1
    have hy := run_yield (P := P) (args := vs) hl (by rw [hR]; exact hps x S vs W henc)
    rw [hR] at hy
    refine ⟨fn, _, assign, body, hy, roundIn_of_wpIn hfn (wpIn_mono (hround _ pre x S vs W hi hS hpost henc (by omega)) ?_)⟩
    rintro e a₁ Wa he
    cases e with
    | normal =>
      obtain ⟨hka, J, hJ, hJa, hbody⟩ := he
      have hla := hka.other _ _ (by omega) hl rfl
      have hkka := hka.other _ _ (Nat.le_refl _) hk rfl
      have hlta := (Array.getElem?_eq_some_iff.1 hla).1
      refine ⟨_, run_beginRound hla (by rw [hR]), ?_⟩
      obtain ⟨Wb, hWb⟩ : ∃ Wb, Wa.putObj (w.heap.size + 1) (.loop { R .ready none with state := .busy }) = Wb := ⟨_, rfl⟩
      rw [hWb]
      have hgb : Wa.grownBy Wb (some (w.heap.size + 1)) := by rw [← hWb]; exact grownBy_putObj' _ _ _
      have hlb : Wb.heap[w.heap.size + 1]? = some (.loop { R .ready none with state := .busy }) := by rw [← hWb]; exact World.putObj_heap_same hlta
      have hkb : Wb.heap[w.heap.size]? = some (.deferred (some [])) := (hgb.block _ (Array.getElem?_eq_some_iff.1 hkka).1 (by simp)).trans hkka
      have hJb : J Wb := hJ Wa Wb _ hJa hgb (fun r e => by cases e; exact ⟨by omega, _, hla, rfl⟩)
      refine wpIn_mono (hbody Wb hJb (by have := hgb.size; have := hka.size; omega)) ?_
      have fin : ∀ (jump : Option Code) (W3 : World), KeptP w.heap.size K S Wb W3 →
          W3.heap[w.heap.size + 1]? = some (.loop { R .ready none with state := .busy }) ∧
          (Instr.endRound (w.heap.size + 1) jump).run P W3 = .ok (.bool jump.isNone) (W3.putObj (w.heap.size + 1) (.loop (R (if jump.isNone then .ready else .done) jump))) ∧
          (W3.putObj (w.heap.size + 1) (.loop (R (if jump.isNone then .ready else .done) jump))).heap[w.heap.size + 1]? = some (.loop (R (if jump.isNone then .ready else .done) jump)) ∧
          (W3.putObj (w.heap.size + 1) (.loop (R (if jump.isNone then .ready else .done) jump))).heap[w.heap.size]? = some (.deferred (some [])) ∧
          ∀ k o, k ≠ w.heap.size + 1 → Wb.heap[k]? = some o → W3.heap[k]? = some o → (W3.putObj (w.heap.size + 1) (.loop (R (if jump.isNone then .ready else .done) jump))).heap[k]? = some o := fun jump W3 hk3 => by
        have hl3 := hk3.other _ _ (by omega) hlb rfl
        have hend := run_endRound (P := P) jump hl3
        refine ⟨hl3, ?_, World.putObj_heap_same (Array.getElem?_eq_some_iff.1 hl3).1, (World.putObj_heap_other (by omega)).trans (hk3.other _ _ (Nat.le_refl _) hkb rfl), fun k o hne _ h3 => (World.putObj_heap_other hne).trans h3⟩
        rw [hR] at hend ⊢
        exact hend
      rintro e a3 W3 hp
      cases e with
      | normal =>
        obtain ⟨hk3, hi3⟩ := hp
        obtain ⟨hl3, hr, hl4, hk4, hoth⟩ := fin none W3 hk3
        refine ⟨_, _, hr, .inl ⟨rfl, ⟨hI.putObj _ hi3 (by omega) hl3 rfl, hS, hl4, hk4⟩, ?_⟩⟩
        have hb : ∀ k o, k ≠ w.heap.size + 1 → Wa.heap[k]? = some o → Wb.heap[k]? = some o := fun k o hne h => (hgb.block k (Array.getElem?_eq_some_iff.1 h).1 (by simpa using hne)).trans h
        refine ⟨by have := hka.size; have := hgb.size; have := hk3.size; simp; omega, fun k o hB hk' ho => ?_, fun k o hs ho => ?_, fun k o hs ho => ?_⟩
        · by_cases e : k = w.heap.size + 1
          · subst e
            rw [hl] at hk'
            cases hk'
            exact hl4
          · have h1 := hb k o e (hka.other k o hB hk' ho)
            exact hoth k o e h1 (hk3.other k o hB h1 ho)
        · have hkK := hsb k hs
          have h1 := hb k o (by omega) (hka.box k o hs ho)
          exact hoth k o (by omega) h1 (hk3.box k o hs h1)
        · have hkS := hS k hs
          have h1 := hb k o (by omega) (hka.own k o hs ho)
          exact hoth k o (by omega) h1 (hk3.own k o hs h1)
      | ret =>
        obtain ⟨hk3, hi3⟩ := hp
        obtain ⟨hl3, hr, hl4, hk4, _⟩ := fin (some .ret) W3 hk3
        exact ⟨_, _, hr, .inr ⟨rfl, .ret, (hIx _).putObj _ hi3 (by omega) hl3 rfl, hS, hl4, hk4⟩⟩
      | exit id =>
        obtain ⟨hk3, hi3⟩ := hp
        obtain ⟨hl3, hr, hl4, hk4, _⟩ := fin (some (.exit id)) W3 hk3
        exact ⟨_, _, hr, .inr ⟨rfl, .exit id, (hIx _).putObj _ hi3 (by omega) hl3 rfl, hS, hl4, hk4⟩⟩
      | goto t =>
        obtain ⟨hk3, hi3⟩ := hp
        obtain ⟨hl3, hr, hl4, hk4, _⟩ := fin (some (.goto t)) W3 hk3
        exact ⟨_, _, hr, .inr ⟨rfl, .goto t, (hIx _).putObj _ hi3 (by omega) hl3 rfl, hS, hl4, hk4⟩⟩
      | panic ch => exact hp.elim
      | outgrown => exact hp.elim
    | ret => exact he
    | exit id => exact he
    | goto t => exact he
    | panic ch => exact he
    | outgrown => exact he
  · rintro e W2 ⟨⟨v, rfl⟩, (⟨S, hi, hS, hl, hk⟩ | ⟨S, pre, x, post, hx, c, hi, hS, hl, hk⟩)⟩
    · exact ⟨none, _, by have := run_endLoop (P := P) hl (by rw [hR]; simp [rec']); rw [hR] at this; rw [hR] at hl; exact this, hdone S _ (hI.putObj _ hi (by omega) hl rfl) ((World.putObj_heap_other (by omega)).trans hk)⟩
    · exact ⟨some c, _, by have := run_endLoop (P := P) hl (by rw [hR]; simp [rec']); rw [hR] at this; exact this, hstop c S pre x _ ⟨post, hx⟩ ((hIx c).putObj _ hi (by omega) hl rfl) ((World.putObj_heap_other (by omega)).trans hk)⟩
end Go.Proofs.YtngnlofjjlkcmaaGreatDoor

/- What within goes through: a value and all that is in it. -/
namespace Go.Proofs.YtngnlofjjlkcmaaGreatDoor
open Go.RowKit
attribute [local go_sem] Oper.semAt_some

/-- A value and all that is in it; n bounds how deep. -/
def partsF : Nat → Vl → List Vl
  | 0, _ => []
  | n + 1, v => v :: (v.items.map (partsF n)).flatten
def partsV (v : Vl) : List Vl := partsF v.size v
theorem partsF_more (n : Nat) : ∀ (m : Nat) (v : Vl), v.size ≤ n → n ≤ m → partsF m v = partsF n v := by
  induction n with
  | zero => intro m v h _; have := v.size_pos; omega
  | succ n ih =>
    intro m v h hm
    cases m with
    | zero => omega
    | succ m =>
      have e : v.items.map (partsF m) = v.items.map (partsF n) := List.map_congr_left fun x hx => ih m x (by have := Vl.size_item hx; omega) (by omega)
      rw [partsF, partsF, e]
theorem partsV_eq (v : Vl) : partsV v = v :: (v.items.map partsV).flatten := by
  have h0 := v.size_pos
  unfold partsV
  obtain ⟨n, hn⟩ : ∃ n, v.size = n + 1 := ⟨v.size - 1, by omega⟩
  have e : v.items.map (partsF n) = v.items.map (fun v => partsF v.size v) := List.map_congr_left fun x hx => partsF_more x.size n x (Nat.le_refl _) (by have := Vl.size_item hx; omega)
  rw [hn, partsF, e]
theorem partsV_len (n : Nat) : ∀ v : Vl, v.size ≤ n → (partsV v).length = v.size := by
  induction n with
  | zero => intro v h; have := v.size_pos; omega
  | succ n ih =>
    intro v h
    rw [partsV_eq, List.length_cons, List.length_flatten, List.map_map, Vl.size_eq v]
    congr 2
    exact List.map_congr_left fun x hx => ih x (by have := Vl.size_item hx; omega)
theorem parts_take (l : List Vl) (k : Nat) (h : k < l.length) : ((l.take (k + 1)).map partsV).flatten = ((l.take k).map partsV).flatten ++ partsV l[k] := by
  rw [List.take_succ_eq_append_getElem h, List.map_append, List.flatten_append]
  simp
theorem parts_split (l : List Vl) (k : Nat) (h : k < l.length) : (l.map partsV).flatten = ((l.take k).map partsV).flatten ++ (partsV l[k] ++ ((l.drop (k + 1)).map partsV).flatten) := by
  have e : l = l.take k ++ l[k] :: l.drop (k + 1) := by rw [← List.drop_eq_getElem_cons h, List.take_append_drop]
  have : (l.map partsV).flatten = ((l.take k ++ l[k] :: l.drop (k + 1)).map partsV).flatten := by rw [← e]
  rw [this, List.map_append, List.flatten_append, List.map_cons, List.flatten_cons]
/-- How a part is handed to a round. -/
def encP (B : Nat) (x : Vl) (S : Blocks) (vs : Array Value) (W : World) : Prop := ∃ n sl, vs = #[.agg (vcells x sl)] ∧ ItemsAt W B n sl x.items ∧ x.ok ∧ ∀ k, S k → k < W.heap.size
theorem yield_any {m m' : Nat} {P : Program} {l : Nat} {args : Array Value} {W : World} {R : Ending → World → Prop} (h : YieldAt Fence.wide m P l args W R) : YieldAt Fence.wide m' P l args W R := by
  obtain ⟨fn, tmps, assign, body, h1, h2⟩ := h
  exact ⟨fn, tmps, assign, body, h1, h2.1, fun c cs _ => h2.2 c cs (room_wide _)⟩
theorem items_keptP {B : Nat} {C : Nat} {S : Blocks} {W W' : World} {n : Nat} {sl : Value} {its : List Vl} (h : ItemsAt W C n sl its) (hk : KeptP B (fun k => k < C) S W W') (hC : C ≤ W.heap.size) : ItemsAt W' C n sl its :=
  h.kept fun b o hb => World.cell?_of_block (by
    have hlt : b < W.heap.size := by omega
    have e : W.heap[b]? = some W.heap[b] := Array.getElem?_eq_getElem hlt
    exact (hk.box b _ hb e).trans e.symm)
theorem KeptP.sub {B : Nat} {K S S' : Blocks} {W W' : World} (h : KeptP B K S' W W') (hs : ∀ k, S k → S' k) : KeptP B K S W W' := ⟨h.size, h.other, h.box, fun k o hk ho => h.own k o (hs k hk) ho⟩
/-- What a call of the inner function owes, within one ranging. -/
def DownC (l : Nat) (D B yb db : Nat) (xs : List Vl) (J Jx : List Vl → Blocks → World → Prop) (n : Nat) : Prop :=
  ∀ (v : Vl) (pre post : List Vl) (W : World) (S : Blocks) (sl : Value) (m : Nat), xs = pre ++ (partsV v ++ post) → J pre S W → ItemsAt W B n sl v.items → v.ok → v.size ≤ 1000000000 → B ≤ W.heap.size → (∀ k, S k → k < W.heap.size) → S yb → S db →
    Boxed W yb 53 (.func (.yield l) #[] #[]) → Boxed W db 53 (.func (.func 91) #[] #[.pointer (some ⟨yb, 0, none⟩), .pointer (some ⟨db, 0, none⟩)]) →
    CallsIn Fence.wide m Tryz.prog 91 #[.agg (vcells v sl), .pointer (some ⟨yb, 0, none⟩), .pointer (some ⟨db, 0, none⟩)] W fun e W' =>
      (e = .returned (.bool true) ∧ ∃ S', (∀ k, S k → S' k) ∧ J (pre ++ partsV v) S' W' ∧ KeptP D (fun k => k < B) S W W' ∧ ∀ k, S' k → k < W'.heap.size) ∨ (e = .returned (.bool false) ∧ ∃ S' p x q, xs = p ++ x :: q ∧ Jx (p ++ [x]) S' W')
set_option maxRecDepth 100000 in
set_option maxHeartbeats 4000000 in
theorem down_step {l D B yb db : Nat} {xs : List Vl} {J Jx : List Vl → Blocks → World → Prop} (hJ : OwnJ J) (hY : ∀ pre x S vs W1 m, J pre S W1 → (∃ post, xs = pre ++ x :: post) → encP B x S vs W1 → YieldAt Fence.wide m Tryz.prog l vs W1 fun e W' =>
      (e = .returned (.bool true) ∧ J (pre ++ [x]) S W' ∧ KeptP D (fun k => k < B) S W1 W') ∨ (e = .returned (.bool false) ∧ Jx (pre ++ [x]) S W')) {n : Nat} (hC : DownC l D B yb db xs J Jx n) : DownC l D B yb db xs J Jx (n + 1) := by
  intro v pre post W S sl m hxs hJ0 hi hok hsz hB hS hSy hSd hy hd
  obtain ⟨a, c, rfl, hla⟩ := hi.len
  unfold maxLen at hla
  obtain ⟨X, hX⟩ : ∃ X, W.alloc (.cells (vcells v (.slice a v.items.length c)) 26) = X := ⟨_, rfl⟩
  have bX : Below W.heap.size W X := by rw [← hX]; exact alloc_v (Below.refl _ _) _
  have zX : X.heap.size = W.heap.size + 1 := by rw [← hX]; simp
  have e1 : X.heap[W.heap.size]? = some (.cells (vcells v (.slice a v.items.length c)) 26 (0, 0)) := by rw [← hX]; exact World.alloc_heap_new W _
  have hJX : J pre (fun k => S k ∨ k = W.heap.size) X := hJ.below (hJ.claim _ S _ W hJ0 (fun k hk => by rcases hk with h | h; exact .inl h; exact .inr (by omega))) bX
  have hxv : ∃ post', xs = pre ++ v :: post' := ⟨(v.items.map partsV).flatten ++ post, by rw [hxs, partsV_eq]; simp⟩
  obtain ⟨fn, tmps, assign, body, hyy, hR⟩ := hY pre v (fun k => S k ∨ k = W.heap.size) #[.agg (vcells v (.slice a v.items.length c))] X (m - 1) hJX hxv ⟨n + 1, _, rfl, hi.below (bX.mono hB), hok, fun k hk => by rcases hk with h | h; have := hS k h; omega; omega⟩
  have y0 := (show Boxed X yb 53 (.func (.yield l) #[] #[]) from (bX.block _ (hS _ hSy)).trans hy).cell
  have HD1 := hide (show Boxed X yb 53 (.func (.yield l) #[] #[]) from (bX.block _ (hS _ hSy)).trans hy)
  have HD2 := hide (show Boxed X db 53 (.func (.func 91) #[] #[.pointer (some ⟨yb, 0, none⟩), .pointer (some ⟨db, 0, none⟩)]) from (bX.block _ (hS _ hSd)).trans hd)
  have HI := hide (hi.below (bX.mono hB))
  have x0 := cells_at e1 0 _ rfl
  have x1 := cells_at e1 1 _ rfl
  have x2 := cells_at e1 2 _ rfl
  have x3 := cells_at e1 3 _ rfl
  have x4 := cells_at e1 4 _ rfl
  have HE1 := hide e1
  have HXS := hide hxs
  have HC := hide hC
  have HKX := hide (KeptP.below (B := D) (K := fun k => k < B) (S := S) bX)
  have HS := hide (And.intro hS (And.intro hSy hSd))
  have hln : v.items.length ≤ 1000000000 := by have := size_len v; omega
  have HSZ := hide (fun (x : Vl) (hx : x ∈ v.items) => (show x.size ≤ 1000000000 from by have := Vl.size_item hx; omega))
  clear hxv hy hd hi e1 hxs hJX hJ0 hC
  refine callsIn_of_wp Tryz.func91 rfl trivial ?_ rfl
  simp only [Tryz.ntmps91, List.size_toArray, List.length_cons, List.length_nil, Nat.reduceAdd, Nat.reduceSub, Array.replicate_succ, Array.replicate_zero, List.push_toArray, List.append_toArray, List.nil_append, List.cons_append]
  gi_wp2
  refine ⟨(fun h => by cases h), hR.mono ?_⟩
  rintro e W4 (⟨rfl, hJ4, hk4⟩ | ⟨rfl, hJx4⟩)
  rotate_left
  · gi_wp2
    go_ret
    exact .inr ⟨rfl, _, pre, v, (v.items.map partsV).flatten ++ post, by rw [HXS.out, partsV_eq]; simp, hJx4⟩
  have f4 := hk4.own W.heap.size _ (.inr rfl) HE1.out
  have x4' := cells_at f4 4 _ rfl
  have HB1 := hide (show Boxed W4 yb 53 (.func (.yield l) #[] #[]) from hk4.own yb _ (.inl HS.out.2.1) HD1.out)
  have HB2 := hide (show Boxed W4 db 53 (.func (.func 91) #[] #[.pointer (some ⟨yb, 0, none⟩), .pointer (some ⟨db, 0, none⟩)]) from hk4.own db _ (.inl HS.out.2.2) HD2.out)
  have HI4 := hide (items_keptP HI.out hk4 (by omega))
  have HJ4 := hide hJ4
  have hz4 := hk4.size
  have HK4 := hide (HKX.out.trans (hk4.sub (fun k h => .inl h)))
  clear f4 hJ4 hk4 hyy hR y0 x0 x1 x2 x3 x4 HKX HD1 HD2 HI HE1
  gi_wp2
  clear x4'
  gi_loopw [6, 14] (fun _ i wr => ∃ (k : Nat) (S1 : Blocks), k ≤ v.items.length ∧ i = .int .i64 k ∧ (∀ k, S k → S1 k) ∧ (∀ k, S1 k → k < wr.heap.size) ∧ J (pre ++ v :: ((v.items.take k).map partsV).flatten) S1 wr ∧ KeptP D (fun k => k < B) S W wr ∧ Boxed wr yb 53 (.func (.yield l) #[] #[]) ∧ Boxed wr db 53 (.func (.func 91) #[] #[.pointer (some ⟨yb, 0, none⟩), .pointer (some ⟨db, 0, none⟩)]) ∧ ItemsAt wr B (n + 1) (.slice a v.items.length c) v.items) (fun _ i _ => v.items.length - (intOf i).toNat)
  case atStart => exact ⟨0, fun k => S k ∨ k = W.heap.size, Nat.zero_le _, rfl, fun k h => .inl h, fun k h => by rcases h with h | h; have := HS.out.1 k h; omega; omega, by simpa using HJ4.out, HK4.out, HB1.out, HB2.out, HI4.out⟩
  case round =>
    obtain ⟨k, S1, hk, rfl, hS1, hS1l, hJk, hKk, hb1, hb2, hik⟩ := hrel
    by_cases hlt : k < v.items.length
    · obtain ⟨b1, o1, s1, rfl, g1, p0, p1, p2, p3, p4, p5, p6⟩ := hik.item k hlt
      have hBr : B ≤ wr.heap.size := by have := hKk.size; omega
      have HX2 := hide (fun (o : Obj) (mm : Nat) => HC.out v.items[k] (pre ++ v :: ((v.items.take k).map partsV).flatten) (((v.items.drop (k + 1)).map partsV).flatten ++ post) (wr.alloc o) S1 s1 mm (by
          rw [HXS.out, partsV_eq v, parts_split v.items k hlt]
          simp only [List.cons_append, List.append_assoc]) (hJ.below hJk (alloc_v (Below.refl _ _) _)) (p5.below ((alloc_v (Below.refl _ _) _).mono hBr)) p6 (HSZ.out _ (List.getElem_mem hlt)) (by rw [World.size_alloc]; omega) (fun k h => by rw [World.size_alloc]; have := hS1l k h; omega) (hS1 _ HS.out.2.1) (hS1 _ HS.out.2.2) ((Below.heap_alloc _ _ _ hb1.lt).trans hb1) ((Below.heap_alloc _ _ _ hb2.lt).trans hb2))
      have d0 := hb2.cell
      have ldb : db < wr.heap.size := hb2.lt
      obtain ⟨xx1, yy1, rfl, _⟩ := p5.len
      have l1 : b1 < wr.heap.size := by omega
      have HR := hide (And.intro hS1 (And.intro hKk (And.intro hb1 (And.intro hb2 (And.intro hik (parts_take v.items k hlt))))))
      clear hJk hKk hb1 hb2 hik p5 p6 hS1 g1
      generalize v.items[k].items = xi at *
      generalize hxk : v.items[k] = xk at *
      gi_wp2_with (refine ⟨trivial, (fun h => by cases h), ?_⟩; gi_at_call 91; refine (HX2.out _ _).mono ?_; clear HX2)
      rintro e w5 (⟨rfl, S5, hS5, hJ5, hK5, hS5l⟩ | ⟨rfl, S5, p, x, q, hq, hJx5⟩)
      · have hr := HR.out
        have kA := KeptP.alloc D (fun k => k < B) S1 wr (.cells #[.int .i64 xk.kind, .int .i64 xk.int, .int .i64 xk.im, .string xk.text, .slice xx1 xi.length yy1] 26)
        have k5 := kA.trans hK5
        have R5 := hide (And.intro (fun k h => hS5 k (hr.1 k h)) (And.intro hS5l (And.intro hJ5 (And.intro (hr.2.1.trans (k5.sub hr.1)) (And.intro (k5.own yb _ (hr.1 _ HS.out.2.1) hr.2.2.1) (And.intro (k5.own db _ (hr.1 _ HS.out.2.2) hr.2.2.2.1) (items_keptP hr.2.2.2.2.1 k5 (by omega))))))))
        clear hr kA k5 hK5 hJ5 hS5l hS5 d0
        gi_wp2
        go_roundw
        case rel =>
          obtain ⟨r1, r2, r3, r4, r5, r6, r7⟩ := R5.out
          refine ⟨k + 1, S5, by omega, by go_num, r1, r2, ?_, r4, r5, r6, r7⟩
          have e := HR.out.2.2.2.2.2
          rw [e]
          have r3' := r3
          rw [List.append_assoc, List.cons_append] at r3'
          exact r3'
        case measure => simp [intOf]; omega
      · clear d0 HR
        gi_wp2
        go_ret
        exact .inr ⟨rfl, S5, p, x, q, hq, hJx5⟩
    · rw [List.take_of_length_le (by omega)] at hJk
      have R := hide (And.intro hS1 (And.intro hJk (And.intro hKk hS1l)))
      clear hJk hKk hb1 hb2 hik hS1 hS1l
      gi_wp2
      go_ret
      refine .inl ⟨rfl, S1, R.out.1, ?_, R.out.2.2.1, R.out.2.2.2⟩
      rw [partsV_eq]
      exact R.out.2.1
theorem down_k {l D B yb db : Nat} {xs : List Vl} {J Jx : List Vl → Blocks → World → Prop} (hJ : OwnJ J) (hY : ∀ pre x S vs W1 m, J pre S W1 → (∃ post, xs = pre ++ x :: post) → encP B x S vs W1 → YieldAt Fence.wide m Tryz.prog l vs W1 fun e W' =>
      (e = .returned (.bool true) ∧ J (pre ++ [x]) S W' ∧ KeptP D (fun k => k < B) S W1 W') ∨ (e = .returned (.bool false) ∧ Jx (pre ++ [x]) S W')) : ∀ n, DownC l D B yb db xs J Jx n
  | 0 => fun _ _ _ _ _ _ _ _ _ h => h.elim
  | n + 1 => down_step hJ hY (down_k hJ hY n)
set_option maxRecDepth 100000 in
set_option maxHeartbeats 4000000 in
/-- within: a value and all that is in it, in their order. -/
theorem within_seq (n N : Nat) (v : Vl) (vb B : Nat) (sl : Value) (w : World) (hvb : w.heap[vb]? = some (.cells (vcells v sl) 26 (0, 0))) (hi : ItemsAt w B N sl v.items) (hok : v.ok) (hsz : v.size ≤ 1000000000) (hB : B ≤ w.heap.size) :
    SeqP n Tryz.prog 90 #[.pointer (some ⟨vb, 0, none⟩)] (encP B) (fun k => k < B) (partsV v) w := fun l J Jx W hWs hWlow hJ hJx hY h0 => by
  have hvlt : vb < w.heap.size := (Array.getElem?_eq_some_iff.1 hvb).1
  have hvW := (hWlow vb hvlt).trans hvb
  have hiW : ItemsAt W B N sl v.items := hi.kept fun b o hb => World.cell?_of_block (hWlow b (by omega))
  obtain ⟨X, hX⟩ : ∃ X, W.alloc (.cells #[.func (.yield l) #[] #[]] 53) = X := ⟨_, rfl⟩
  have zX : X.heap.size = W.heap.size + 1 := by rw [← hX]; simp
  have bX : Below W.heap.size W X := by rw [← hX]; exact alloc_v (Below.refl _ _) _
  have e1 : Boxed X W.heap.size 53 (.func (.yield l) #[] #[]) := by rw [← hX]; exact World.alloc_heap_new W _
  obtain ⟨a, c, rfl, _⟩ := hi.len
  have hmf : ∀ (fn : Fn) (first cap : Array Value) (w : World), (Instr.makeFunc fn first cap).run Tryz.prog w = .ok (.func fn first cap) w := fun _ _ _ _ => rfl
  have hd := fun (Y : World) (hY1 : Boxed Y W.heap.size 53 (.func (.yield l) #[] #[])) (hY2 : Boxed Y X.heap.size 53 (.func (.func 91) #[] #[.pointer (some ⟨W.heap.size, 0, none⟩), .pointer (some ⟨X.heap.size, 0, none⟩)])) (b : Below W.heap.size W Y) (hJY : J [] (fun k => k = W.heap.size ∨ k = X.heap.size) Y) (m : Nat) =>
    down_k (D := w.heap.size) (B := B) (yb := W.heap.size) (db := X.heap.size) (xs := partsV v) (Jx := Jx) hJ (fun pre x S vs W1 m h1 h2 h3 => yield_any (hY pre x S vs W1 h1 h2 h3)) N v [] [] Y (fun k => k = W.heap.size ∨ k = X.heap.size) (.slice a v.items.length c) m (by simp) hJY (hiW.below (b.mono (by omega))) hok hsz (by have := b.size; omega) (fun k hk => by have := hY2.lt; rcases hk with rfl | rfl <;> omega) (.inl rfl) (.inr rfl) hY1 hY2
  have HD := hide hd
  have HJ0 := hide h0
  have hv2 := (bX.block vb (by omega)).trans hvW
  have hJY : J [] (fun k => k = W.heap.size ∨ k = X.heap.size) (X.alloc (.cells #[.func (.func 91) #[] #[.pointer (some ⟨W.heap.size, 0, none⟩), .pointer (some ⟨X.heap.size, 0, none⟩)]] 53)) :=
    hJ.below (hJ.claim _ _ _ W h0 (fun k hk => .inr (by rcases hk with rfl | rfl <;> omega))) (alloc_v bX _)
  have hb2 : Boxed (X.alloc (.cells #[.func (.func 91) #[] #[.pointer (some ⟨W.heap.size, 0, none⟩), .pointer (some ⟨X.heap.size, 0, none⟩)]] 53)) X.heap.size 53 (.func (.func 91) #[] #[.pointer (some ⟨W.heap.size, 0, none⟩), .pointer (some ⟨X.heap.size, 0, none⟩)]) := by
    have := World.alloc_heap_new X (.cells #[.func (.func 91) #[] #[.pointer (some ⟨W.heap.size, 0, none⟩), .pointer (some ⟨X.heap.size, 0, none⟩)]] 53)
    exact this
  have HC := hide (fun m => HD.out _ ((Below.heap_alloc _ _ _ (by omega)).trans e1) hb2 (alloc_v bX _) hJY m)
  have y0 := cells_at hv2 0 _ rfl
  have y1 := cells_at hv2 1 _ rfl
  have y2 := cells_at hv2 2 _ rfl
  have y3 := cells_at hv2 3 _ rfl
  have y4 := cells_at hv2 4 _ rfl
  have lvb : vb < X.heap.size := by omega
  clear hd hY hvW hiW hi hvb HD hJY hb2 hv2 e1 hWs hWlow hvlt hB zX
  refine callsIn_of_wp Tryz.func90 rfl trivial ?_ rfl
  simp only [Tryz.ntmps90, List.size_toArray, List.length_cons, List.length_nil, Nat.reduceAdd, Nat.reduceSub, Array.replicate_succ, Array.replicate_zero, List.push_toArray, List.append_toArray, List.nil_append, List.cons_append]
  gi_wp2_with (refine ⟨trivial, (fun h => by cases h), ?_⟩; gi_at_call 91; refine (HC.out _).mono ?_; clear HC)
  rintro e w5 (⟨rfl, S5, hS5, hJ5, hK5, hS5l⟩ | ⟨rfl, S5, p, x, q, hq, hJx5⟩)
  · clear hS5 hK5 hS5l
    gi_wp2
    go_end0
    exact ⟨⟨_, rfl⟩, .inl ⟨S5, hJ5⟩⟩
  · gi_wp2
    go_end0
    exact ⟨⟨_, rfl⟩, .inr ⟨S5, p, x, q, hq, hJx5⟩⟩
end Go.Proofs.YtngnlofjjlkcmaaGreatDoor

/- Nodes: how many parts a value has. -/
namespace Go.Proofs.YtngnlofjjlkcmaaGreatDoor
open Go.RowKit
attribute [local go_sem] Oper.semAt_some

/-- A counter in a block of its own, that a loop's rounds turn. -/
def Cn {α : Type} (nb : Nat) (X : World) (f : List α → Int) (pre : List α) (S : Blocks) (W : World) : Prop :=
  Boxed W nb 3 (.int .i64 (f pre)) ∧ Below nb X W ∧ ∀ k, S k → nb < k
theorem Cn.own {α : Type} {nb : Nat} {X : World} (f : List α → Int) (hX : nb < X.heap.size) : OwnL X.heap.size (Cn nb X f) := by
  refine ⟨?_, ?_⟩
  · rintro s S W W' row ⟨h1, h2, h3⟩ hg hr
    have hlow : ∀ r, row = some r → nb < r := fun r e => by
      rcases hr r e with h | h
      · have := h.1; omega
      · exact h3 r h
    exact ⟨h1.kept hg (fun e => by have := hlow nb e.symm; omega), h2.grown hg (by have := h2.size; omega) (fun k e => by have := hlow k e; omega), h3⟩
  · rintro s S S' W ⟨h1, h2, h3⟩ hc
    refine ⟨h1, h2, fun k hk => ?_⟩
    rcases hc k hk with h | h
    · exact h3 k h
    · have := h1.lt; omega
theorem Cn.put {α : Type} {nb : Nat} {X : World} {f : List α → Int} {pre : List α} {S : Blocks} {W : World} (h : Cn nb X f pre S W) (_hX : nb < X.heap.size) (post : List α) : Cn nb X f post S (W.setCell ⟨nb, 0, none⟩ (.int .i64 (f post))) :=
  ⟨h.1.set _, h.2.1.setCell (Nat.le_refl _) _, h.2.2⟩
theorem Cn.kept {α : Type} {nb : Nat} {X : World} {f : List α → Int} {pre : List α} {S K : Blocks} {W : World} (h : Cn nb X f pre S W) (hX : nb < X.heap.size) (hK : ∀ k, K k → k < nb) (v : Value) : KeptP X.heap.size K S W (W.setCell ⟨nb, 0, none⟩ v) :=
  KeptP.grown (row := some nb) ⟨rfl, rfl, rfl, by simp [World.setCell], fun k _ hne => Below.heap_setCell W _ v k (fun e => hne (by rw [e]))⟩
    (fun r e => by cases e; exact ⟨fun h' => by have := hK _ h'; omega, fun h' => by have := h.2.2 _ h'; omega, .inl (by omega)⟩)

theorem ownL_false {α : Type} (B : Nat) : OwnL B (fun (_ : α) (_ : Blocks) (_ : World) => False) := ⟨fun _ _ _ _ _ h _ _ => h, fun _ _ _ _ h _ => h⟩
theorem within_k (v : Vl) (a : Option Addr) (c : Nat) (w : World) : Calls Tryz.prog 42 #[.agg (vcells v (.slice a v.items.length c))] w fun e w' => e = .returned (.func (.func 90) #[] #[.pointer (some ⟨w.heap.size, 0, none⟩)]) ∧ w.alloc (.cells (vcells v (.slice a v.items.length c)) 26) = w' := by
  have hmf : ∀ (fn : Fn) (first cap : Array Value) (w : World), (Instr.makeFunc fn first cap).run Tryz.prog w = .ok (.func fn first cap) w := fun _ _ _ _ => rfl
  go_enter Tryz.func42, Tryz.ntmps42
  go_wp2
  go_ret
  exact ⟨rfl, rfl⟩
set_option maxRecDepth 100000 in
set_option maxHeartbeats 4000000 in
theorem nodes_k (v : Vl) (w : World) (N : Nat) (sl : Value) (hT : Tabs w) (hok : v.ok) (hz : v.size ≤ 1000000000) (hi : ItemsAt w w.heap.size N sl v.items) (hr : rightV v = true) :
    Calls Tryz.prog 25 #[.agg (vcells v sl)] w fun e w' => e = .returned (.int .i64 v.size) ∧ Below w.heap.size w w' := by
  obtain ⟨a, c, rfl, _⟩ := hi.len
  obtain ⟨W, hW⟩ : ∃ W, w.alloc (.cells (vcells v (.slice a v.items.length c)) 26) = W := ⟨_, rfl⟩
  have bW : Below w.heap.size w W := by rw [← hW]; exact alloc_v (Below.refl _ _) _
  have zW : W.heap.size = w.heap.size + 1 := by rw [← hW]; simp
  have e1 : W.heap[w.heap.size]? = some (.cells (vcells v (.slice a v.items.length c)) 26 (0, 0)) := by rw [← hW]; exact World.alloc_heap_new w _
  have x0 := cells_at e1 0 _ rfl
  have x1 := cells_at e1 1 _ rfl
  have x2 := cells_at e1 2 _ rfl
  have x3 := cells_at e1 3 _ rfl
  have x4 := cells_at e1 4 _ rfl
  have HR := hide (right_k v W N (.slice a v.items.length c) (hT.below bW) hok.1 ((hi.below bW).up bW.size))
  rw [hr] at HR
  have HE := hide e1
  have HI := hide hi
  clear hi hT hr e1 zW
  obtain ⟨nn, _⟩ : ∃ nn : Nat, True := ⟨8, trivial⟩
  refine (callsIn_wide (n := nn)).1 ?_
  refine callsIn_of_wp_marks Tryz.func25 rfl trivial ?_ rfl
  simp only [Tryz.ntmps25, List.size_toArray, List.length_cons, List.length_nil, Nat.reduceAdd, Nat.reduceSub, Array.replicate_succ, Array.replicate_zero, List.push_toArray, List.append_toArray, List.nil_append, List.cons_append]
  gi_wp2_with (first
    | (refine ⟨trivial, (fun h => by cases h), ?_⟩; gi_at_call 18; refine (callsIn_wide.2 HR.out).mono ?_; clear HR; rintro e w2 ⟨rfl, b2⟩; have f2 := (b2.block w.heap.size (Array.getElem?_eq_some_iff.1 HE.out).1).trans HE.out; have y0 := cells_at f2 0 _ rfl; have y1 := cells_at f2 1 _ rfl; have y2 := cells_at f2 2 _ rfl; have y3 := cells_at f2 3 _ rfl; have y4 := cells_at f2 4 _ rfl; have l2 : w.heap.size < w2.heap.size := (Array.getElem?_eq_some_iff.1 f2).1; have B2 := hide b2; clear b2 f2)
    | (refine ⟨trivial, (fun h => by cases h), ?_⟩; gi_at_call 42; refine (callsIn_wide.2 (within_k v a c _)).mono ?_; rintro e w3 ⟨rfl, rfl⟩))
  obtain ⟨X1, hX1⟩ : ∃ X1, (w2.alloc (.cells #[.int .i64 0] 3)).alloc (.cells (vcells v (.slice a v.items.length c)) 26) = X1 := ⟨_, rfl⟩
  have hz1 : X1.heap.size = w2.heap.size + 2 := by rw [← hX1]; simp
  have n1 : Boxed X1 w2.heap.size 3 (.int .i64 0) := by rw [← hX1]; exact (Below.heap_alloc _ _ _ (by simp)).trans (World.alloc_heap_new w2 _)
  have v1 : X1.heap[w2.heap.size + 1]? = some (.cells (vcells v (.slice a v.items.length c)) 26 (0, 0)) := by
    rw [← hX1]
    have := World.alloc_heap_new (w2.alloc (.cells #[.int .i64 0] 3)) (.cells (vcells v (.slice a v.items.length c)) 26)
    rwa [World.size_alloc] at this
  have b2X : Below w2.heap.size w2 X1 := by rw [← hX1]; exact alloc_v (alloc_v (Below.refl _ _) _) _
  have bw2 := trans_v bW B2.out
  have hlt1 : w2.heap.size < X1.heap.size := by omega
  rw [hX1]
  clear hX1 y0 y1 y2 y3 y4 x0 x1 x2 x3 x4 hW
  refine seqp_law (gf := 90) (lb := #[.pointer (some ⟨w2.heap.size + 1, 0, none⟩)]) rfl (enters_of Tryz.func90 (by kernel_rfl) rfl) (K := fun k => k < w.heap.size) (fun k hk => by omega)
    (within_seq _ N v (w2.heap.size + 1) w.heap.size (.slice a v.items.length c) X1 v1 (HI.out.below (trans_v bw2 b2X)) hok hz (by omega)) (fun _ _ _ _ h => by obtain ⟨_, _, rfl, _⟩ := h; rfl)
    (Cn w2.heap.size X1 (fun l : List Vl => (l.length : Int))) (fun _ _ _ _ => False) (Cn.own _ hlt1) (fun _ => ownL_false _) ⟨n1, Below.refl _ _, fun _ h => h.elim⟩ ?round1 ?done1 ?stop1
  case stop1 =>
    rintro c S pre x W _ h _
    exact h.elim
  case round1 =>
    rintro l pre x S vs W9 hC hS ⟨post, hpost⟩ ⟨_, sl9, rfl, _⟩ hsz
    have hlen : pre.length + 1 ≤ 1000000000 := by
      have := partsV_len v.size v (Nat.le_refl _)
      rw [hpost] at this
      simp at this
      omega
    clear hpost
    gi_wp2
    refine ⟨KeptP.refl _ _ _ _, fun W => Cn w2.heap.size X1 (fun l : List Vl => (l.length : Int)) pre S W, fun X Y row h hg hr => (Cn.own _ hlt1).grown pre S X Y row h hg (fun r e => .inl (hr r e)), hC, ?_⟩
    clear hC
    rintro W₂ hC hsz2
    have c1 := hC.1.cell
    have c2 := hC.1.frozen
    have k1 := hC.put hlt1 (pre ++ [x])
    have k2 := hC.kept (K := fun k => k < w.heap.size) hlt1 (fun k hk => by omega) (.int .i64 ((pre ++ [x]).length : Int))
    have R := hide (And.intro k2 k1)
    have hsn : (((pre ++ [x]).length : Nat) : Int) = (pre.length : Int) + 1 := by simp
    have hadd : IntKind.i64.wrap ((pre.length : Int) + 1) = (pre.length : Int) + 1 := by rw [IntKind.wrap_i64]; omega
    simp only [hsn] at R
    rw [hz1] at R
    clear k1 k2 hC hsn
    gi_wp2
    exact R.out
  case done1 =>
    rintro S W9 ⟨hc1, hc2, _⟩ hK
    have c1 := hc1.cell
    have hl := partsV_len v.size v (Nat.le_refl _)
    simp only [hl] at c1
    rw [hz1] at hK ⊢
    have bF : Below w.heap.size w W9 := (trans_v bw2 b2X).trans (hc2.mono (by omega))
    clear hc1 hc2 hl
    gi_wp2
    refine ⟨by simp, .inl ⟨_, _, rfl, run_takeDeferred hK, ?_⟩⟩
    exact ⟨_, results_tmp rfl _ _ _, rfl, bF.trans (belowK_b (w := w) (Nat.le_refl _) _ _ _ _ (by omega) hK rfl rfl)⟩
end Go.Proofs.YtngnlofjjlkcmaaGreatDoor
