/- A range over a function whose iterator makes blocks of its own as it goes: what the iterator owes, what a round owes, and the loop's law, at the wide fence. -/
import Derived.Test.YthmhcpghfbifiaaGreatDoorGText
import Derived.RangeFuncOwn
import Derived.Test.YthmhcpghfbifiaaGreatDoorGE2
import Derived.Laws.EntriesVeiled
import Derived.RangeFuncKeeps
import Derived.Test.YthmhcpghfbifiaaGreatDoorGEM
namespace Go.Proofs.YthmhcpghfbifiaaGreatDoor
open Go.RowKit

/-- The iterator's own blocks. -/
abbrev Blocks := Nat → Prop

/-- What a round leaves as it was: what is no cells from B on; the blocks K; the iterator's own blocks. -/
structure KeptP (B : Nat) (K S : Blocks) (W W' : World) : Prop where
  size : W.heap.size ≤ W'.heap.size
  other : ∀ (k : Nat) (o : Obj), B ≤ k → W.heap[k]? = some o → o.isCells = false → W'.heap[k]? = some o
  box : ∀ (k : Nat) (o : Obj), K k → W.heap[k]? = some o → W'.heap[k]? = some o
  own : ∀ (k : Nat) (o : Obj), S k → W.heap[k]? = some o → W'.heap[k]? = some o

theorem KeptP.refl (B : Nat) (K S : Blocks) (W : World) : KeptP B K S W W := ⟨Nat.le_refl _, fun _ _ _ h _ => h, fun _ _ _ h => h, fun _ _ _ h => h⟩
theorem KeptP.trans {B : Nat} {K S : Blocks} {X Y Z : World} (h : KeptP B K S X Y) (k : KeptP B K S Y Z) : KeptP B K S X Z :=
  ⟨Nat.le_trans h.size k.size, fun i o hB hi ho => k.other i o hB (h.other i o hB hi ho) ho, fun i o hs hi => k.box i o hs (h.box i o hs hi), fun i o hs hi => k.own i o hs (h.own i o hs hi)⟩
theorem KeptP.grown {B : Nat} {K S : Blocks} {W W' : World} {row : Option Nat} (hg : W.grownBy W' row)
    (hr : ∀ r, row = some r → ¬ K r ∧ ¬ S r ∧ (r < B ∨ ∀ o, W.heap[r]? = some o → o.isCells = true)) : KeptP B K S W W' := by
  have same : ∀ k o, W.heap[k]? = some o → some k ≠ row → W'.heap[k]? = some o := fun k o hk hne => (hg.block k (Array.getElem?_eq_some_iff.1 hk).1 hne).trans hk
  refine ⟨hg.size, fun k o hB hk ho => same k o hk fun e => ?_, fun k o hs ho => same _ o ho fun e => (hr _ e.symm).1 hs, fun k o hs ho => same _ o ho fun e => (hr _ e.symm).2.1 hs⟩
  rcases (hr _ e.symm).2.2 with h | h
  · omega
  · rw [h o hk] at ho
    cases ho
theorem KeptP.below {B : Nat} {K S : Blocks} {W W' : World} (hb : Below W.heap.size W W') : KeptP B K S W W' :=
  have same : ∀ k o, W.heap[k]? = some o → W'.heap[k]? = some o := fun k _ hk => (hb.block k (Array.getElem?_eq_some_iff.1 hk).1).trans hk
  ⟨hb.size, fun k o _ hk _ => same k o hk, fun k o _ ho => same k o ho, fun k o _ ho => same k o ho⟩
theorem KeptP.alloc (B : Nat) (K S : Blocks) (W : World) (o : Obj) : KeptP B K S W (W.alloc o) := KeptP.grown (World.grownBy_alloc W o none) (fun _ e => by cases e)

/-- A loop's invariant does not mind new blocks, nor a turn of a block that is no cells from B on, or that is the iterator's; and a block that is not there yet may become the iterator's. -/
structure OwnL {β : Type} (B : Nat) (I : β → Blocks → World → Prop) : Prop where
  grown : ∀ s S W W' row, I s S W → W.grownBy W' row → (∀ r, row = some r → (B ≤ r ∧ ∃ o : Obj, W.heap[r]? = some o ∧ o.isCells = false) ∨ S r) → I s S W'
  claim : ∀ s S S' W, I s S W → (∀ k, S' k → S k ∨ W.heap.size ≤ k) → I s S' W
/-- The same from the iterator's side. -/
structure OwnJ {β : Type} (J : β → Blocks → World → Prop) : Prop where
  grown : ∀ s S W W' row, J s S W → W.grownBy W' row → (∀ r, row = some r → S r) → J s S W'
  claim : ∀ s S S' W, J s S W → (∀ k, S' k → S k ∨ W.heap.size ≤ k) → J s S' W

theorem OwnJ.below {β : Type} {J : β → Blocks → World → Prop} (h : OwnJ J) {s : β} {S : Blocks} {W W' : World} (hs : J s S W) (hb : Below W.heap.size W W') : J s S W' :=
  h.grown s S W W' none hs (grown_below hb) (fun _ e => by cases e)
theorem OwnL.alloc {β : Type} {B : Nat} {I : β → Blocks → World → Prop} (h : OwnL B I) {s : β} {S : Blocks} {W : World} (o : Obj) (hs : I s S W) : I s S (W.alloc o) :=
  h.grown s S W _ none hs (World.grownBy_alloc W o none) (fun _ e => by cases e)
theorem OwnL.putObj {β : Type} {B : Nat} {I : β → Blocks → World → Prop} (h : OwnL B I) {s : β} {S : Blocks} {W : World} {l : Nat} {o : Obj} (o' : Obj) (hs : I s S W) (hB : B ≤ l) (hl : W.heap[l]? = some o) (hc : o.isCells = false) : I s S (W.putObj l o') :=
  h.grown s S W _ (some l) hs (grownBy_putObj' _ _ _) (fun r e => by cases e; exact .inl ⟨hB, o, hl, hc⟩)

/-- How the body of a round may be left. -/
def roundPostP {α : Type} (B : Nat) (K S : Blocks) (I : List α → Blocks → World → Prop) (Ix : Code → List α → Blocks → World → Prop) (xs : List α) (W : World) : Exit → Act → World → Prop
  | .normal, _, W' => KeptP B K S W W' ∧ I xs S W'
  | .ret, _, W' => KeptP B K S W W' ∧ Ix .ret xs S W'
  | .exit id, _, W' => KeptP B K S W W' ∧ Ix (.exit id) xs S W'
  | .goto t, _, W' => KeptP B K S W W' ∧ Ix (.goto t) xs S W'
  | .panic _, _, _ => False
  | .outgrown, _, _ => False

/-- What the iterator owes to a loop that begins in w. -/
def SeqP {α : Type} (n : Nat) (P : Program) (g : Nat) (lb : Array Value) (Enc : α → Blocks → Array Value → World → Prop) (K : Blocks) (xs : List α) (w : World) : Prop :=
  ∀ (l : Nat) (J Jx : List α → Blocks → World → Prop) (W : World), W.heap.size = w.heap.size + 2 → (∀ k, k < w.heap.size → W.heap[k]? = w.heap[k]?) → OwnJ J → OwnJ Jx →
    (∀ pre x S vs W1, J pre S W1 → (∃ post, xs = pre ++ x :: post) → Enc x S vs W1 → YieldAt Fence.wide (n - 1) P l vs W1 fun e W' =>
      (e = .returned (.bool true) ∧ J (pre ++ [x]) S W' ∧ KeptP w.heap.size K S W1 W') ∨ (e = .returned (.bool false) ∧ Jx (pre ++ [x]) S W')) →
    J [] (fun _ => False) W →
    CallsIn Fence.wide n P g (#[.func (.yield l) #[] #[]] ++ lb) W fun e W' => (∃ v, e = .returned v) ∧ ((∃ S, J xs S W') ∨ (∃ S pre x post, xs = pre ++ x :: post ∧ Jx (pre ++ [x]) S W'))

theorem seqp_law {α : Type} {n : Nat} {P : Program} {g : Operand} {ps : Array Tmp} {assign body : Code} {Q : Exit → Act → World → Prop} {a : Act} {w : World}
    {gf : Nat} {lb : Array Value} (hg : a.eval g = .func (.func gf) #[] lb) (eg : ∀ args w, (callFunc gf args).run P w = .ok (.enter gf args) w)
    {Enc : α → Blocks → Array Value → World → Prop} {K : Blocks} (hsb : ∀ k, K k → k < w.heap.size) {xs : List α} (hseq : SeqP (n - 1) P gf lb Enc K xs w) (hps : ∀ x S vs W, Enc x S vs W → vs.size = ps.size)
    (I : List α → Blocks → World → Prop) (Ix : Code → List α → Blocks → World → Prop) (hI : OwnL w.heap.size I) (hIx : ∀ c, OwnL w.heap.size (Ix c)) (h0 : I [] (fun _ => False) w)
    (hround : ∀ (l : Nat) (pre : List α) (x : α) (S : Blocks) (vs : Array Value) (W : World), I pre S W → (∀ k, S k → w.heap.size + 2 ≤ k) → (∃ post, xs = pre ++ x :: post) → Enc x S vs W → w.heap.size + 2 ≤ W.heap.size →
      assign.wpIn (Fence.wide.inRound l) (n - 1 - 1) P (Exit.then (fun a₁ W₁ => KeptP w.heap.size K S W W₁ ∧ ∃ J : World → Prop, (∀ X Y row, J X → X.grownBy Y row → (∀ r, row = some r → w.heap.size ≤ r ∧ ∃ o : Obj, X.heap[r]? = some o ∧ o.isCells = false) → J Y) ∧ J W₁ ∧
          ∀ W₂, J W₂ → w.heap.size + 2 ≤ W₂.heap.size → body.wpIn (Fence.wide.inRound l) (n - 1 - 1) P (roundPostP w.heap.size K S I Ix (pre ++ [x]) W₂) a₁ W₂) (fun _ _ _ => False))
        { tmps := (ps.zip vs).foldl (fun t (p, v) => t.setIfInBounds p v) a.tmps, defers := [] } W)
    (hdone : ∀ (S : Blocks) (W : World), I xs S W → W.heap[w.heap.size]? = some (.deferred (some [])) → Q .normal { a with defers := { target := .collected w.heap.size, args := #[] } :: a.defers } W)
    (hstop : ∀ (c : Code) (S : Blocks) (pre : List α) (x : α) (W : World), (∃ post, xs = pre ++ x :: post) → Ix c (pre ++ [x]) S W → W.heap[w.heap.size]? = some (.deferred (some [])) → c.wpIn Fence.wide n P Q { a with defers := { target := .collected w.heap.size, args := #[] } :: a.defers } W) :
    (Code.rangeFunc g ps assign body).wpIn Fence.wide n P Q a w := by
  refine wpIn_rangeFunc ?_
  intro fn hfn
  let rec' : LoopState → Option Code → Loop := fun st pe => { state := st, pending := pe, fn, tmps := a.tmps, params := ps, assign, body, defers := w.heap.size }
  obtain ⟨R, hR⟩ : ∃ R : LoopState → Option Code → Loop, R = rec' := ⟨_, rfl⟩
  obtain ⟨W1, hW1⟩ : ∃ W1, (w.alloc (.deferred (some []))).alloc (.loop (R .ready none)) = W1 := ⟨_, rfl⟩
  have hs1 : W1.heap.size = w.heap.size + 2 := by rw [← hW1]; simp
  have hlow : ∀ k, k < w.heap.size → W1.heap[k]? = w.heap[k]? := fun k hk => by
    rw [← hW1]
    exact (Below.heap_alloc _ _ _ (by simp; omega)).trans (Below.heap_alloc _ _ _ hk)
  have hL1 : W1.heap[w.heap.size + 1]? = some (.loop (R .ready none)) := by
    rw [← hW1]
    have := World.alloc_heap_new (w.alloc (.deferred (some []))) (.loop (R .ready none))
    rwa [World.size_alloc] at this
  have hK1 : W1.heap[w.heap.size]? = some (.deferred (some [])) := by
    rw [← hW1]
    exact (Below.heap_alloc _ _ _ (by simp)).trans (World.alloc_heap_new w _)
  have hI1 : I [] (fun _ => False) W1 := by rw [← hW1]; exact hI.alloc _ (hI.alloc _ h0)
  refine ⟨w.heap.size + 1, [{ target := .collected w.heap.size, args := #[] }], W1, { target := .fn (.func gf) lb, args := #[.func (.yield (w.heap.size + 1)) #[] #[]] }, W1, gf,
    #[.func (.yield (w.heap.size + 1)) #[] #[]] ++ lb, W1, ?_, ?_, fun _ _ => trivial, ?_, (fun h => by cases h), ?_⟩
  · rw [← hW1, hR]
    exact run_enterLoop_outer _ _ _ _ _
  · simp only [resolve, hg]
    simp [go_sem]
  · simp [invoke, go_sem, eg]
  have low : ∀ {W W' : World} {row : Option Nat} {S : Blocks} {k : Nat} {o : Obj}, W.grownBy W' row → (∀ k, S k → w.heap.size + 2 ≤ k) → (∀ r, row = some r → S r) → k < w.heap.size + 2 → W.heap[k]? = some o → W'.heap[k]? = some o :=
    fun hg' hS hr hk ho => (hg'.block _ (Array.getElem?_eq_some_iff.1 ho).1 fun e => by have := hS _ (hr _ e.symm); omega).trans ho
  refine (hseq (w.heap.size + 1)
    (fun pre S W => I pre S W ∧ (∀ k, S k → w.heap.size + 2 ≤ k) ∧ W.heap[w.heap.size + 1]? = some (.loop (R .ready none)) ∧ W.heap[w.heap.size]? = some (.deferred (some [])))
    (fun pre S W => ∃ c, Ix c pre S W ∧ (∀ k, S k → w.heap.size + 2 ≤ k) ∧ W.heap[w.heap.size + 1]? = some (.loop (R .done (some c))) ∧ W.heap[w.heap.size]? = some (.deferred (some [])))
    W1 hs1 hlow
    ⟨fun s S X Y row hs hg' hr => ⟨hI.grown s S X Y row hs.1 hg' (fun r e => .inr (hr r e)), hs.2.1, low hg' hs.2.1 hr (by omega) hs.2.2.1, low hg' hs.2.1 hr (by omega) hs.2.2.2⟩,
      fun s S S' X hs hc => ⟨hI.claim s S S' X hs.1 hc, fun k hk => by
        rcases hc k hk with h | h
        · exact hs.2.1 k h
        · have := (Array.getElem?_eq_some_iff.1 hs.2.2.1).1
          omega, hs.2.2⟩⟩
    ⟨fun s S X Y row hs hg' hr => by
      obtain ⟨c, hc, hS, hl, hk⟩ := hs
      exact ⟨c, (hIx c).grown s S X Y row hc hg' (fun r e => .inr (hr r e)), hS, low hg' hS hr (by omega) hl, low hg' hS hr (by omega) hk⟩,
      fun s S S' X hs hcl => by
        obtain ⟨c, hc, hS, hl, hk⟩ := hs
        refine ⟨c, (hIx c).claim s S S' X hc hcl, fun k hk' => ?_, hl, hk⟩
        rcases hcl k hk' with h | h
        · exact hS k h
        · have := (Array.getElem?_eq_some_iff.1 hl).1
          omega⟩
    ?_ ⟨hI1, (fun _ h => h.elim), hL1, hK1⟩).mono ?_
  · rintro pre x S vs W ⟨hi, hS, hl, hk⟩ hpost henc
    have hlt : w.heap.size + 1 < W.heap.size := (Array.getElem?_eq_some_iff.1 hl).1
    have hy := run_yield (P := P) (args := vs) hl (by rw [hR]; exact hps x S vs W henc)
    rw [hR] at hy
    refine ⟨fn, _, assign, body, hy, roundIn_of_wpIn hfn (wpIn_mono (hround _ pre x S vs W hi hS hpost henc (by omega)) ?_)⟩
    rintro e a₁ Wa he
    cases e with
    | normal =>
      obtain ⟨hka, J, hJ, hJa, hbody⟩ := he
      have hla := hka.other _ _ (by omega) hl rfl
      have hkka := hka.other _ _ (Nat.le_refl _) hk rfl
      have hlta := (Array.getElem?_eq_some_iff.1 hla).1
      refine ⟨_, run_beginRound hla (by rw [hR]), ?_⟩
      obtain ⟨Wb, hWb⟩ : ∃ Wb, Wa.putObj (w.heap.size + 1) (.loop { R .ready none with state := .busy }) = Wb := ⟨_, rfl⟩
      rw [hWb]
      have hgb : Wa.grownBy Wb (some (w.heap.size + 1)) := by rw [← hWb]; exact grownBy_putObj' _ _ _
      have hlb : Wb.heap[w.heap.size + 1]? = some (.loop { R .ready none with state := .busy }) := by rw [← hWb]; exact World.putObj_heap_same hlta
      have hkb : Wb.heap[w.heap.size]? = some (.deferred (some [])) := (hgb.block _ (Array.getElem?_eq_some_iff.1 hkka).1 (by simp)).trans hkka
      have hJb : J Wb := hJ Wa Wb _ hJa hgb (fun r e => by cases e; exact ⟨by omega, _, hla, rfl⟩)
      refine wpIn_mono (hbody Wb hJb (by have := hgb.size; have := hka.size; omega)) ?_
      have fin : ∀ (jump : Option Code) (W3 : World), KeptP w.heap.size K S Wb W3 →
          W3.heap[w.heap.size + 1]? = some (.loop { R .ready none with state := .busy }) ∧
          (Instr.endRound (w.heap.size + 1) jump).run P W3 = .ok (.bool jump.isNone) (W3.putObj (w.heap.size + 1) (.loop (R (if jump.isNone then .ready else .done) jump))) ∧
          (W3.putObj (w.heap.size + 1) (.loop (R (if jump.isNone then .ready else .done) jump))).heap[w.heap.size + 1]? = some (.loop (R (if jump.isNone then .ready else .done) jump)) ∧
          (W3.putObj (w.heap.size + 1) (.loop (R (if jump.isNone then .ready else .done) jump))).heap[w.heap.size]? = some (.deferred (some [])) ∧
          ∀ k o, k ≠ w.heap.size + 1 → Wb.heap[k]? = some o → W3.heap[k]? = some o → (W3.putObj (w.heap.size + 1) (.loop (R (if jump.isNone then .ready else .done) jump))).heap[k]? = some o := fun jump W3 hk3 => by
        have hl3 := hk3.other _ _ (by omega) hlb rfl
        have hend := run_endRound (P := P) jump hl3
        refine ⟨hl3, ?_, World.putObj_heap_same (Array.getElem?_eq_some_iff.1 hl3).1, (World.putObj_heap_other (by omega)).trans (hk3.other _ _ (Nat.le_refl _) hkb rfl), fun k o hne _ h3 => (World.putObj_heap_other hne).trans h3⟩
        rw [hR] at hend ⊢
        exact hend
      rintro e a3 W3 hp
      cases e with
      | normal =>
        obtain ⟨hk3, hi3⟩ := hp
        obtain ⟨hl3, hr, hl4, hk4, hoth⟩ := fin none W3 hk3
        refine ⟨_, _, hr, .inl ⟨rfl, ⟨hI.putObj _ hi3 (by omega) hl3 rfl, hS, hl4, hk4⟩, ?_⟩⟩
        have hb : ∀ k o, k ≠ w.heap.size + 1 → Wa.heap[k]? = some o → Wb.heap[k]? = some o := fun k o hne h => (hgb.block k (Array.getElem?_eq_some_iff.1 h).1 (by simpa using hne)).trans h
        refine ⟨by have := hka.size; have := hgb.size; have := hk3.size; simp; omega, fun k o hB hk' ho => ?_, fun k o hs ho => ?_, fun k o hs ho => ?_⟩
        · by_cases e : k = w.heap.size + 1
          · subst e
            rw [hl] at hk'
            cases hk'
            exact hl4
          · have h1 := hb k o e (hka.other k o hB hk' ho)
            exact hoth k o e h1 (hk3.other k o hB h1 ho)
        · have hkK := hsb k hs
          have h1 := hb k o (by omega) (hka.box k o hs ho)
          exact hoth k o (by omega) h1 (hk3.box k o hs h1)
        · have hkS := hS k hs
          have h1 := hb k o (by omega) (hka.own k o hs ho)
          exact hoth k o (by omega) h1 (hk3.own k o hs h1)
      | ret =>
        obtain ⟨hk3, hi3⟩ := hp
        obtain ⟨hl3, hr, hl4, hk4, _⟩ := fin (some .ret) W3 hk3
        exact ⟨_, _, hr, .inr ⟨rfl, .ret, (hIx _).putObj _ hi3 (by omega) hl3 rfl, hS, hl4, hk4⟩⟩
      | exit id =>
        obtain ⟨hk3, hi3⟩ := hp
        obtain ⟨hl3, hr, hl4, hk4, _⟩ := fin (some (.exit id)) W3 hk3
        exact ⟨_, _, hr, .inr ⟨rfl, .exit id, (hIx _).putObj _ hi3 (by omega) hl3 rfl, hS, hl4, hk4⟩⟩
      | goto t =>
        obtain ⟨hk3, hi3⟩ := hp
        obtain ⟨hl3, hr, hl4, hk4, _⟩ := fin (some (.goto t)) W3 hk3
        exact ⟨_, _, hr, .inr ⟨rfl, .goto t, (hIx _).putObj _ hi3 (by omega) hl3 rfl, hS, hl4, hk4⟩⟩
      | panic ch => exact hp.elim
      | outgrown => exact hp.elim
    | ret => exact he
    | exit id => exact he
    | goto t => exact he
    | panic ch => exact he
    | outgrown => exact he
  · rintro e W2 ⟨⟨v, rfl⟩, (⟨S, hi, hS, hl, hk⟩ | ⟨S, pre, x, post, hx, c, hi, hS, hl, hk⟩)⟩
    · exact ⟨none, _, by have := run_endLoop (P := P) hl (by rw [hR]; simp [rec']); rw [hR] at this; rw [hR] at hl; exact this, hdone S _ (hI.putObj _ hi (by omega) hl rfl) ((World.putObj_heap_other (by omega)).trans hk)⟩
    · exact ⟨some c, _, by have := run_endLoop (P := P) hl (by rw [hR]; simp [rec']); rw [hR] at this; exact this, hstop c S pre x _ ⟨post, hx⟩ ((hIx c).putObj _ hi (by omega) hl rfl) ((World.putObj_heap_other (by omega)).trans hk)⟩
end Go.Proofs.YthmhcpghfbifiaaGreatDoor

/- What within goes through: a value and all that is in it. -/
namespace Go.Proofs.YthmhcpghfbifiaaGreatDoor
open Go.RowKit
attribute [local go_sem] Oper.semAt_some

/-- A value and all that is in it; n bounds how deep. -/
def partsF : Nat → Vl → List Vl
  | 0, _ => []
  | n + 1, v => v :: (v.items.map (partsF n)).flatten
def partsV (v : Vl) : List Vl := partsF v.size v
theorem partsF_more (n : Nat) : ∀ (m : Nat) (v : Vl), v.size ≤ n → n ≤ m → partsF m v = partsF n v := by
  induction n with
  | zero => intro m v h _; have := v.size_pos; omega
  | succ n ih =>
    intro m v h hm
    cases m with
    | zero => omega
    | succ m =>
      have e : v.items.map (partsF m) = v.items.map (partsF n) := List.map_congr_left fun x hx => ih m x (by have := Vl.size_item hx; omega) (by omega)
      rw [partsF, partsF, e]
theorem partsV_eq (v : Vl) : partsV v = v :: (v.items.map partsV).flatten := by
  have h0 := v.size_pos
  unfold partsV
  obtain ⟨n, hn⟩ : ∃ n, v.size = n + 1 := ⟨v.size - 1, by omega⟩
  have e : v.items.map (partsF n) = v.items.map (fun v => partsF v.size v) := List.map_congr_left fun x hx => partsF_more x.size n x (Nat.le_refl _) (by have := Vl.size_item hx; omega)
  rw [hn, partsF, e]
theorem partsV_len (n : Nat) : ∀ v : Vl, v.size ≤ n → (partsV v).length = v.size := by
  induction n with
  | zero => intro v h; have := v.size_pos; omega
  | succ n ih =>
    intro v h
    rw [partsV_eq, List.length_cons, List.length_flatten, List.map_map, Vl.size_eq v]
    congr 2
    exact List.map_congr_left fun x hx => ih x (by have := Vl.size_item hx; omega)
theorem parts_take (l : List Vl) (k : Nat) (h : k < l.length) : ((l.take (k + 1)).map partsV).flatten = ((l.take k).map partsV).flatten ++ partsV l[k] := by
  rw [List.take_succ_eq_append_getElem h, List.map_append, List.flatten_append]
  simp
theorem parts_split (l : List Vl) (k : Nat) (h : k < l.length) : (l.map partsV).flatten = ((l.take k).map partsV).flatten ++ (partsV l[k] ++ ((l.drop (k + 1)).map partsV).flatten) := by
  have e : l = l.take k ++ l[k] :: l.drop (k + 1) := by rw [← List.drop_eq_getElem_cons h, List.take_append_drop]
  have : (l.map partsV).flatten = ((l.take k ++ l[k] :: l.drop (k + 1)).map partsV).flatten := by rw [← e]
  rw [this, List.map_append, List.flatten_append, List.map_cons, List.flatten_cons]
/-- How a part is handed to a round. -/
def encP (B : Nat) (x : Vl) (S : Blocks) (vs : Array Value) (W : World) : Prop := ∃ n sl, vs = #[.agg (vcells x sl)] ∧ ItemsAt W B n sl x.items ∧ x.ok ∧ ∀ k, S k → k < W.heap.size
theorem yield_any {m m' : Nat} {P : Program} {l : Nat} {args : Array Value} {W : World} {R : Ending → World → Prop} (h : YieldAt Fence.wide m P l args W R) : YieldAt Fence.wide m' P l args W R := by
  obtain ⟨fn, tmps, assign, body, h1, h2⟩ := h
  exact ⟨fn, tmps, assign, body, h1, h2.1, fun c cs _ => h2.2 c cs (room_wide _)⟩
theorem items_keptP {B : Nat} {C : Nat} {S : Blocks} {W W' : World} {n : Nat} {sl : Value} {its : List Vl} (h : ItemsAt W C n sl its) (hk : KeptP B (fun k => k < C) S W W') (hC : C ≤ W.heap.size) : ItemsAt W' C n sl its :=
  h.kept fun b o hb => World.cell?_of_block (by
    have hlt : b < W.heap.size := by omega
    have e : W.heap[b]? = some W.heap[b] := Array.getElem?_eq_getElem hlt
    exact (hk.box b _ hb e).trans e.symm)
theorem KeptP.sub {B : Nat} {K S S' : Blocks} {W W' : World} (h : KeptP B K S' W W') (hs : ∀ k, S k → S' k) : KeptP B K S W W' := ⟨h.size, h.other, h.box, fun k o hk ho => h.own k o (hs k hk) ho⟩
end Go.Proofs.YthmhcpghfbifiaaGreatDoor

/- Nodes: how many parts a value has. -/
namespace Go.Proofs.YthmhcpghfbifiaaGreatDoor
open Go.RowKit
attribute [local go_sem] Oper.semAt_some

/-- A counter in a block of its own, that a loop's rounds turn. -/
def Cn {α : Type} (nb : Nat) (X : World) (f : List α → Int) (pre : List α) (S : Blocks) (W : World) : Prop :=
  Boxed W nb 3 (.int .i64 (f pre)) ∧ Below nb X W ∧ ∀ k, S k → nb < k
theorem Cn.own {α : Type} {nb : Nat} {X : World} (f : List α → Int) (hX : nb < X.heap.size) : OwnL X.heap.size (Cn nb X f) := by
  refine ⟨?_, ?_⟩
  · rintro s S W W' row ⟨h1, h2, h3⟩ hg hr
    have hlow : ∀ r, row = some r → nb < r := fun r e => by
      rcases hr r e with h | h
      · have := h.1; omega
      · exact h3 r h
    exact ⟨h1.kept hg (fun e => by have := hlow nb e.symm; omega), h2.grown hg (by have := h2.size; omega) (fun k e => by have := hlow k e; omega), h3⟩
  · rintro s S S' W ⟨h1, h2, h3⟩ hc
    refine ⟨h1, h2, fun k hk => ?_⟩
    rcases hc k hk with h | h
    · exact h3 k h
    · have := h1.lt; omega
theorem Cn.put {α : Type} {nb : Nat} {X : World} {f : List α → Int} {pre : List α} {S : Blocks} {W : World} (h : Cn nb X f pre S W) (_hX : nb < X.heap.size) (post : List α) : Cn nb X f post S (W.setCell ⟨nb, 0, none⟩ (.int .i64 (f post))) :=
  ⟨h.1.set _, h.2.1.setCell (Nat.le_refl _) _, h.2.2⟩
theorem Cn.kept {α : Type} {nb : Nat} {X : World} {f : List α → Int} {pre : List α} {S K : Blocks} {W : World} (h : Cn nb X f pre S W) (hX : nb < X.heap.size) (hK : ∀ k, K k → k < nb) (v : Value) : KeptP X.heap.size K S W (W.setCell ⟨nb, 0, none⟩ v) :=
  KeptP.grown (row := some nb) ⟨rfl, rfl, rfl, by simp [World.setCell], fun k _ hne => Below.heap_setCell W _ v k (fun e => hne (by rw [e]))⟩
    (fun r e => by cases e; exact ⟨fun h' => by have := hK _ h'; omega, fun h' => by have := h.2.2 _ h'; omega, .inl (by omega)⟩)

theorem ownL_false {α : Type} (B : Nat) : OwnL B (fun (_ : α) (_ : Blocks) (_ : World) => False) := ⟨fun _ _ _ _ _ h _ _ => h, fun _ _ _ _ h _ => h⟩
end Go.Proofs.YthmhcpghfbifiaaGreatDoor

/- depth and Deep. -/
namespace Go.Proofs.YthmhcpghfbifiaaGreatDoor
open Go.RowKit

/-- The greatest of what f says of them, and of d. -/
def maxL (f : Vl → Nat) : List Vl → Nat → Nat
  | [], d => d
  | v :: l, d => maxL f l (max d (f v))
def depF : Nat → Vl → Nat
  | 0, _ => 0
  | n + 1, v => maxL (depF n) v.items 0 + 1
def depV (v : Vl) : Nat := depF v.size v
theorem maxL_congr {f g : Vl → Nat} : ∀ {l : List Vl} {d : Nat}, (∀ x ∈ l, f x = g x) → maxL f l d = maxL g l d
  | [], _, _ => rfl
  | x :: l, d, h => by rw [maxL, maxL, h x (by simp), maxL_congr fun y hy => h y (by simp [hy])]
theorem depF_more (n : Nat) : ∀ (m : Nat) (v : Vl), v.size ≤ n → n ≤ m → depF m v = depF n v := by
  induction n with
  | zero => intro m v h _; have := v.size_pos; omega
  | succ n ih =>
    intro m v h hm
    cases m with
    | zero => omega
    | succ m => rw [depF, depF, maxL_congr fun x hx => ih m x (by have := Vl.size_item hx; omega) (by omega)]
theorem depV_eq (v : Vl) : depV v = maxL depV v.items 0 + 1 := by
  have h0 := v.size_pos
  unfold depV
  obtain ⟨n, hn⟩ : ∃ n, v.size = n + 1 := ⟨v.size - 1, by omega⟩
  rw [hn, depF, maxL_congr (g := depV) fun x hx => depF_more x.size n x (Nat.le_refl _) (by have := Vl.size_item hx; omega)]
  rfl
theorem maxL_snoc (f : Vl → Nat) : ∀ (l : List Vl) (d : Nat) (x : Vl), maxL f (l ++ [x]) d = max (maxL f l d) (f x)
  | [], _, _ => rfl
  | v :: l, d, x => by rw [List.cons_append, maxL, maxL, maxL_snoc f l]
theorem maxL_take (f : Vl → Nat) (l : List Vl) (k : Nat) (hk : k < l.length) : maxL f (l.take (k + 1)) 0 = max (maxL f (l.take k) 0) (f l[k]) := by
  rw [List.take_succ_eq_append_getElem hk, maxL_snoc]
theorem depV_size (v : Vl) : depV v ≤ v.size := by
  have h : ∀ n (v : Vl), v.size ≤ n → depV v ≤ v.size := by
    intro n
    induction n with
    | zero => intro v h; have := v.size_pos; omega
    | succ n ih =>
      intro v h
      have hl : ∀ (l : List Vl) (d : Nat), (∀ x ∈ l, depV x ≤ x.size) → maxL depV l d ≤ max d (l.map Vl.size).sum := by
        intro l
        induction l with
        | nil => intro d _; rw [maxL]; omega
        | cons x l il =>
          intro d hx
          have h1 := il (max d (depV x)) fun y hy => hx y (by simp [hy])
          have h2 := hx x (by simp)
          rw [maxL, List.map_cons, List.sum_cons]
          omega
      have := hl v.items 0 fun x hx => ih x (by have := Vl.size_item hx; omega)
      rw [depV_eq, Vl.size_eq v]
      omega
  exact h _ v (Nat.le_refl _)
end Go.Proofs.YthmhcpghfbifiaaGreatDoor
