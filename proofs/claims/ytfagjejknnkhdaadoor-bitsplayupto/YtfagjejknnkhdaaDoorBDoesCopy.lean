/- does: a set is put in another's place. -/
import Derived.Test.YtfagjejknnkhdaaDoorBDoes
namespace Go.Proofs.YtfagjejknnkhdaaDoor
open Go.RowKit

theorem st_ne {w : World} {base g n cap sb : Nat} {e t : TypeId} {cs : Array Value} {fr : Nat × Nat} {xs : List Value} (h : w.ownsRow base e 1 (.slice (some ⟨g, 0, none⟩) n cap) n xs) (h' : w.heap[sb]? = some (.cells cs t fr)) (hne : e ≠ t) : g ≠ sb := fun e' => by
  obtain ⟨cur, hc⟩ := row_block_is h
  rw [← e', hc] at h'
  simp at h'
  exact hne h'.2.1
/-- A row of words that is none of the two's is turned. -/
theorem Two.kept {L : Nat} {W W' : World} {sr tr : Nat} {s : Nat → Side} {r b n cap : Nat} {xs : List Value} (h : Two L W sr tr s) (hg : W.grownBy W' (some r)) (hr : W.ownsRow b 56 1 (.slice (some ⟨r, 0, none⟩) n cap) n xs) (hne : ∀ j, j < 2 → r ≠ (s j).g) : Two L W' sr tr s := by
  have e1 : r ≠ sr := row_type hr h.srow (by decide)
  have e2 : r ≠ tr := row_type hr h.trow (by decide)
  refine ⟨h.srow.kept hg (.inr (by simpa [Value.ownBlock] using Ne.symm e1)), h.trow.kept hg (.inr (by simpa [Value.ownBlock] using Ne.symm e2)), fun j hj => ?_, h.lo, h.apart⟩
  have hB := h.each j hj
  exact hB.kept hg (st_ne hr hB.set.st (by decide)) (hne j hj) (st_ne hr hB.ref.st (by decide)) (row_type hr hB.ref.row (by decide))
/-- Another set is put in the place of one, with the same words. -/
theorem Two.moved {L : Nat} {W W1 : World} {sr tr : Nat} {s : Nat → Side} (h : Two L W sr tr s) (hL : L ≤ W.heap.size) (k : Nat) (hk : k < 2) (hb : Below W.heap.size W W1) {sb' g' cap' : Nat} (hS : SetAt W1 sb' g' cap' (s k).n (s k).ws) (hs1 : W.heap.size ≤ sb') (hg1 : W.heap.size ≤ g') :
    Two L (W1.setCell ⟨sr, k, none⟩ (.pointer (some ⟨sb', 0, none⟩))) sr tr (upd s k { (s k) with sb := sb', g := g', cap := cap' }) ∧ W1.grownBy (W1.setCell ⟨sr, k, none⟩ (.pointer (some ⟨sb', 0, none⟩))) (some sr) := by
  have h1 := h.below hb
  have hst := h1.srow.stored k (.pointer (some ⟨sb', 0, none⟩))
  have lsr := (h.srow.lt sr rfl).2
  have hgr := hst.2
  have hk2 : k = 0 ∨ k = 1 := by omega
  refine ⟨⟨?_, ?_, fun j hj => ?_, fun j hj => ?_, fun i j hi hj hne => ?_⟩, hgr⟩
  · have := hst.1
    rcases hk2 with rfl | rfl <;> simpa [upd] using this
  · have e : sr ≠ tr := row_type h1.srow h1.trow (by decide)
    have := h1.trow.kept hgr (.inr (by simpa [Value.ownBlock] using Ne.symm e))
    rcases hk2 with rfl | rfl <;> simpa [upd] using this
  · have hB := h1.each j hj
    have q1 : sr ≠ (s j).pb := st_ne h1.srow hB.ref.st (by decide)
    have q2 : sr ≠ (s j).hb := row_type h1.srow hB.ref.row (by decide)
    by_cases e : j = k
    · subst e
      have : upd s j { (s j) with sb := sb', g := g', cap := cap' } j = { (s j) with sb := sb', g := g', cap := cap' } := by simp [upd]
      rw [this]
      exact ⟨hS.kept hgr (by simp; omega) (by simp; omega), hB.ref.kept hgr (by simpa using q1) (by simpa using q2), hB.rel, hB.len⟩
    · have : upd s k { (s k) with sb := sb', g := g', cap := cap' } j = s j := by simp [upd, e]
      rw [this]
      exact hB.kept hgr (st_ne h1.srow hB.set.st (by decide)) (row_type h1.srow hB.set.row (by decide)) q1 q2
  · have := h.lo j hj
    unfold upd
    split
    · rename_i e; subst e; exact ⟨by show L ≤ g'; omega, this.2⟩
    · exact this
  · have ap := h.apart i j hi hj hne
    have gi := (h.each i hi).set.glt
    have gj := (h.each j hj).set.glt
    unfold upd
    split <;> split
    · omega
    · rename_i e _; subst e; exact ⟨by show g' ≠ (s j).g; omega, ap.2⟩
    · rename_i _ e; subst e; exact ⟨by show (s i).g ≠ g'; omega, ap.2⟩
    · exact ap

/-- What stands when a copy has been put in the place of a set. -/
theorem Two.copied {L : Nat} {W W1 : World} {sr tr : Nat} {s : Nat → Side} (h : Two L W sr tr s) (hL : L ≤ W.heap.size) (k : Nat) (hk : k < 2) (b2 : Below W.heap.size W W1) {sb' g' cap' : Nat} (s2 : SetAt W1 sb' g' cap' (s k).n (s k).ws) (q1 : W.heap.size ≤ sb') (q2 : W.heap.size ≤ g') :
    W1.cell? ⟨sr, k, none⟩ = some (.pointer (some ⟨(s k).sb, 0, none⟩)) ∧ W1.frozen? ⟨sr, k, none⟩ = false ∧ (W1.setCell ⟨sr, k, none⟩ (.pointer (some ⟨sb', 0, none⟩))).cell? ⟨sr, k, none⟩ = some (.pointer (some ⟨sb', 0, none⟩)) ∧
      Hid (SetAt (W1.setCell ⟨sr, k, none⟩ (.pointer (some ⟨sb', 0, none⟩))) (s k).sb (s k).g (s k).cap (s k).n (s k).ws ∧ Two L (W1.setCell ⟨sr, k, none⟩ (.pointer (some ⟨sb', 0, none⟩))) sr tr (upd s k { (s k) with sb := sb', g := g', cap := cap' }) ∧ W1.grownBy (W1.setCell ⟨sr, k, none⟩ (.pointer (some ⟨sb', 0, none⟩))) (some sr) ∧
        ∀ j, j < 2 → (s k).g ≠ (upd s k { (s k) with sb := sb', g := g', cap := cap' } j).g) := by
  obtain ⟨t3, g3⟩ := h.moved hL k hk b2 s2 q1 q2
  have hB := h.below b2
  have d2 := (hB.ptr k hk).1
  have sO := (hB.each k hk).set
  have hA := (h.each k hk).set
  refine ⟨d2, hB.srow.frozenAt k, World.cell?_setCell_same W1 ⟨sr, k, none⟩ _ d2, sO.kept g3 (by simpa using st_ne hB.srow sO.st (by decide)) (by simpa using row_type hB.srow sO.row (by decide)), t3, g3, fun j hj => ?_⟩
  have := hA.glt
  unfold upd
  split
  · show (s k).g ≠ g'; omega
  · rename_i e; exact (h.apart k j hk hj (Ne.symm e)).1

set_option maxRecDepth 100000 in
set_option maxHeartbeats 4000000 in
theorem does_copy {L : Nat} {W : World} {sr tr : Nat} {s : Nat → Side} (h : Two L W sr tr s) (hL : L ≤ W.heap.size) (k o : Nat) (hk : k < 2) (on x : Int) (ot : Bool) :
    Calls Tryd.prog 7 #[.slice (some ⟨sr, 0, none⟩) 2 2, .slice (some ⟨tr, 0, none⟩) 2 2, .agg #[.int .i64 6, .int .i64 on, .int .i64 x, .bool ot], .int .i64 (k : Int), .int .i64 (o : Int)] W fun e W' => e = .returned (.bool true) ∧
      ∃ s', Two L W' sr tr s' ∧ (∀ j, (s' j).n = (s j).n) ∧ Below L W W' ∧ KeepC W W' := by
  obtain ⟨W1, hW1⟩ : ∃ W1, W.alloc (.cells #[.int .i64 6, .int .i64 on, .int .i64 x, .bool ot] 37) = W1 := ⟨_, rfl⟩
  have b1 : Below W.heap.size W W1 := by rw [← hW1]; exact (Below.refl _ _).alloc (Nat.le_refl _) _
  have h1 := h.below b1
  have hL1 : L ≤ W1.heap.size := Nat.le_trans hL b1.size
  have hx : W1.heap[W.heap.size]? = some (.cells #[.int .i64 6, .int .i64 on, .int .i64 x, .bool ot] 37 (0, 0)) := by rw [← hW1]; exact World.alloc_heap_new _ _
  have c0 : W1.cell? ⟨W.heap.size, 0, none⟩ = some (.int .i64 6) := by simp [World.cell?, hx]
  have BL := hide (b1.mono hL)
  have KB := hide (keepC_below b1)
  obtain ⟨d1, _⟩ := h1.ptr k hk
  have l1 := World.block_lt_of_cell? W1 _ d1
  have hA := h1.each k hk
  have p0 : (0 : Int) ≤ (k : Int) := by omega
  have p1 : (k : Int) < 2 := by omega
  have HC := hide (copy_k hA.set)
  have HA := hide hA
  have H1 := hide h1
  clear h1 h hx b1 hA
  go_enter Tryd.func7, Tryd.ntmps7
  have HD := hide (fun (U : World) (ws : List Nat) (hU : SetAt U (s k).sb (s k).g (s k).cap (s k).n ws) => drop_any hU 1)
  go_wp2_with (first
    | (go_at_call 23; refine HC.out.mono ?_; clear HC; rintro e w2 ⟨sb', g', cap', rfl, s2, q1, q2, b2⟩; obtain ⟨d2, d3, d4, F3⟩ := H1.out.copied hL1 k hk b2 s2 q1 q2; have B2 := hide b2; clear b2 s2 q1 q2)
    | (go_at_call 13; refine (put_any F3.out.1 0).mono ?_; rintro e w4 ⟨rfl, s4, g4⟩; have S4 := hide s4; have G4 := hide g4; have T4 := hide (F3.out.2.1.kept g4 F3.out.1.row F3.out.2.2.2); clear s4 g4)
    | (go_at_call 18; refine (HD.out _ _ S4.out).mono ?_; clear HD; rintro e w5 ⟨rfl, s5, g5⟩; have G5 := hide g5; have T5 := hide (T4.out.kept g5 S4.out.row F3.out.2.2.2); clear s5 g5))
  go_ret
  refine ⟨rfl, _, T5.out, fun j => by unfold upd; split <;> simp_all, ?_⟩
  have lo := H1.out.lo k hk
  have lsr := (H1.out.srow.lt sr rfl).1
  exact ⟨below_gr (below_gr (below_gr (BL.out.trans (B2.out.mono hL1)) F3.out.2.2.1 lsr hL) G4.out lo.1 hL) G5.out lo.1 hL, (((KB.out.trans (keepC_below B2.out)).trans (keepC_row F3.out.2.2.1 (H1.out.below B2.out).srow (by decide))).trans (keepC_row G4.out F3.out.1.row (by decide))).trans (keepC_row G5.out S4.out.row (by decide))⟩
end Go.Proofs.YtfagjejknnkhdaaDoor
