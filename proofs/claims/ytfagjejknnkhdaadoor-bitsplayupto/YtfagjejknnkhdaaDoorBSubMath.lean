/- Rows of rising places, in their order: plain mathematics. -/
namespace Go.Proofs.YtfagjejknnkhdaaDoor

/-- The places behind the last one that can be moved, looked for from place k down. -/
def nxt (n size : Nat) (ps : List Nat) : Nat → Option (List Nat)
  | 0 => none
  | k + 1 => if ps.getD k 0 = n - size + k then nxt n size ps k else some ((List.range size).map fun j => if j < k then ps.getD j 0 else ps.getD k 0 + 1 + (j - k))
def nextP (n : Nat) (ps : List Nat) : Option (List Nat) := nxt n ps.length ps ps.length

/-- All rows of k rising places from a place on, below n: as the document counts them. The fuel is n. -/
def combos (n : Nat) : Nat → Nat → List (List Nat)
  | 0, _ => [[]]
  | k + 1, a => (List.range (n - (a + k))).flatMap fun i => (combos n k (a + i + 1)).map (fun r => (a + i) :: r)

/-- A row of places, and what follows. -/
def chainB (n : Nat) : List Nat → List (List Nat) → Bool
  | _, [] => false
  | ps, q :: t => (ps == q) && (ps.all fun x => decide (x < n)) && (match nextP n ps with
    | none => t == []
    | some r => chainB n r t)
theorem combos_chain : ∀ n, n < 11 → ∀ size, size < 11 → 1 ≤ size → size ≤ n → chainB n (List.range size) (combos n size 0) = true := by decide +kernel

/-- All rows of places, by their lengths from size on. -/
def placesFrom (n : Nat) (size : Nat) : Nat → List (List Nat)
  | 0 => []
  | f + 1 => combos n size 0 ++ placesFrom n (size + 1) f
/-- What Subsets goes through. -/
def subs (its : List Int) : List (List Int) := if its.length ≤ 10 then (placesFrom its.length 1 its.length).map (fun ps => ps.map fun p => its.getD p 0) else []

theorem chain_len {n : Nat} : ∀ {ps : List Nat} {L : List (List Nat)}, chainB n ps L = true → ∀ q ∈ L, q.length = ps.length := by
  intro ps L
  induction L generalizing ps with
  | nil => intro h; simp [chainB] at h
  | cons q t ih =>
    intro h r hr
    simp only [chainB, Bool.and_eq_true, beq_iff_eq] at h
    obtain ⟨⟨rfl, _⟩, h3⟩ := h
    rcases List.mem_cons.1 hr with rfl | hr
    · rfl
    · have hl : ∀ k r, nxt n ps.length ps k = some r → r.length = ps.length := by
        intro k
        induction k with
        | zero => intro r h; simp [nxt] at h
        | succ k ih =>
          intro r h
          rw [nxt] at h
          split at h
          · exact ih r h
          · cases h
            simp
      cases hn : nextP n ps with
      | none =>
        rw [hn] at h3
        simp at h3
        subst h3
        cases hr
      | some r' =>
        rw [hn] at h3
        rw [ih h3 r hr]
        exact hl _ _ hn
end Go.Proofs.YtfagjejknnkhdaaDoor
