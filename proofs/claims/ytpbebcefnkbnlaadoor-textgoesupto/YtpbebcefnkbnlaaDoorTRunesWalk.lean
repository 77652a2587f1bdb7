/- The walk of the statement on runes. -/
import Derived.Test.YtpbebcefnkbnlaaDoorTRefSpots
import Derived.Test.YtpbebcefnkbnlaaDoorTRegion
namespace Go.Proofs.YtpbebcefnkbnlaaDoor
open Go.RowKit

set_option maxRecDepth 100000 in
theorem same_yes (a b c : Int) (w : World) :
    Calls Tryd.prog 11 #[.agg #[.int .i64 a, .int .i64 b, .int .i64 c], .agg #[.int .i64 a, .int .i64 b, .int .i64 c]] w fun e w' => e = .returned (.bool true) ∧ Below w.heap.size w w' := by
  go_enter Tryd.func11, Tryd.ntmps11
  go_wp2
  go_ret
  exact ⟨rfl, ((Below.refl _ w).alloc (Nat.le_refl _) _).alloc (by simp) _⟩

theorem spotCells_at : ∀ (x : List El) (k : Nat) (h : k < x.length), (spotCells x)[k * 3]? = some (.int .i64 (x[k]'h).off) ∧ (spotCells x)[k * 3 + 1]? = some (.int .i64 (x[k]'h).line) ∧ (spotCells x)[k * 3 + 2]? = some (.int .i64 (x[k]'h).col)
  | [], k, h => absurd h (by simp)
  | c :: r, 0, _ => ⟨rfl, rfl, rfl⟩
  | c :: r, k + 1, h => by
    have := spotCells_at r k (by simpa using h)
    have e : spotCells (c :: r) = [.int .i64 c.off, .int .i64 c.line, .int .i64 c.col] ++ spotCells r := rfl
    have e1 : (k + 1) * 3 = k * 3 + 3 := by omega
    rw [e, e1]
    exact this
theorem runeVals_at (x : List El) (k : Nat) (h : k < x.length) : (runeVals x)[k]? = some (.int .i32 (x[k]'h).r) := by
  unfold runeVals
  rw [List.getElem?_map, List.getElem?_eq_getElem h]
  rfl
theorem elS_rs : ∀ (t : List (Int × Nat)) (off line col k : Nat) (h : k < (elS off line col t).length) (h' : k < (rsT off t).length), ((elS off line col t)[k]'h).r = ((rsT off t)[k]'h').1 ∧ ((elS off line col t)[k]'h).off = ((rsT off t)[k]'h').2.1
  | [], _, _, _, _, h, _ => absurd h (by simp [elS])
  | (r, k) :: t, off, line, col, 0, _, _ => by
    simp only [elS_step, rsT, List.getElem_cons_zero]
    exact ⟨trivial, trivial⟩
  | (r, k) :: t, off, line, col, j + 1, h, h' => by
    simp only [elS_step, rsT, List.getElem_cons_succ]
    exact elS_rs t _ _ _ j _ _

theorem ru_bound : ∀ l : List UInt8, ∀ p ∈ ru l, -1 ≤ p.1 ∧ p.1 ≤ 1114111 := by
  refine ru_ind (by simp [ru_nil]) ?_
  intro l hl ih p hp
  rw [ru_step l hl] at hp
  rcases List.mem_cons.1 hp with rfl | hp
  · exact ⟨rv_lo l, rv_hi l⟩
  · exact ih p hp
theorem elS_bound : ∀ (t : List (Int × Nat)) (_ : ∀ p ∈ t, -1 ≤ p.1 ∧ p.1 ≤ 1114111) (off line col k : Nat) (h : k < (elS off line col t).length), -1 ≤ ((elS off line col t)[k]'h).r ∧ ((elS off line col t)[k]'h).r ≤ 1114111
  | [], _, _, _, _, _, h => absurd h (by simp [elS])
  | (r, k) :: t, hb, off, line, col, 0, _ => by
    simp only [elS_step, List.getElem_cons_zero]
    exact hb (r, k) (by simp)
  | (r, k) :: t, hb, off, line, col, j + 1, h => by
    simp only [elS_step, List.getElem_cons_succ]
    exact elS_bound t (fun p hp => hb p (by simp [hp])) _ _ _ j _

/-- Lists of spots and of runes, cell by cell. -/
def SpAt (x : List El) (a : Option Addr) (W : World) : Prop := ∀ k (h : k < x.length), ∃ g, a = some ⟨g, 0, none⟩ ∧ W.cell? ⟨g, k * 3, none⟩ = some (.int .i64 (x[k]'h).off) ∧ W.cell? ⟨g, k * 3 + 1, none⟩ = some (.int .i64 (x[k]'h).line) ∧ W.cell? ⟨g, k * 3 + 2, none⟩ = some (.int .i64 (x[k]'h).col)
def RnAt (x : List El) (a : Option Addr) (W : World) : Prop := ∀ k (h : k < x.length), ∃ g, a = some ⟨g, 0, none⟩ ∧ W.cell? ⟨g, k, none⟩ = some (.int .i32 (x[k]'h).r)
theorem SpAt.below {x : List El} {a : Option Addr} {W W' : World} (h : SpAt x a W) (hb : Below W.heap.size W W') : SpAt x a W' := fun k hk => by
  obtain ⟨g, e, h1, h2, h3⟩ := h k hk
  exact ⟨g, e, keepCell h1 hb, keepCell h2 hb, keepCell h3 hb⟩
theorem RnAt.below {x : List El} {a : Option Addr} {W W' : World} (h : RnAt x a W) (hb : Below W.heap.size W W') : RnAt x a W' := fun k hk => by
  obtain ⟨g, e, h1⟩ := h k hk
  exact ⟨g, e, keepCell h1 hb⟩
theorem spAt_of {x : List El} {W : World} {base : Nat} {t : TypeId} {a : Option Addr} {n c : Nat} (h : W.ownsRow base t 3 (.slice a n c) n (spotCells x)) (hn : n = x.length) : SpAt x a W := fun k hk => by
  obtain ⟨M, hM⟩ : ∃ M, n = M + 1 := ⟨_, (Nat.sub_add_cancel (by omega : 1 ≤ n)).symm⟩
  obtain ⟨q1, q2, q3⟩ := spotCells_at x k hk
  rw [hM] at h
  obtain ⟨g1, c1, e⟩ := ownsRow_succ h
  cases e
  exact ⟨g1, rfl, rowCell h _ _ q1, rowCell h _ _ q2, rowCell h _ _ q3⟩
theorem rnAt_of {x : List El} {W : World} {base : Nat} {t : TypeId} {a : Option Addr} {n c : Nat} (h : W.ownsRow base t 1 (.slice a n c) n (runeVals x)) (hn : n = x.length) : RnAt x a W := fun k hk => by
  obtain ⟨M, hM⟩ : ∃ M, n = M + 1 := ⟨_, (Nat.sub_add_cancel (by omega : 1 ≤ n)).symm⟩
  have q1 := runeVals_at x k hk
  rw [hM] at h
  obtain ⟨g1, c1, e⟩ := ownsRow_succ h
  cases e
  exact ⟨g1, rfl, rowCell h _ _ q1⟩
theorem runes_cells (s : ByteArray) (hs : s.size ≤ 1048576) (w : World) :
    Calls Tryd.prog 17 #[.string s] w fun e w' => ∃ a c a' c', e = .returned (.tuple #[.slice a (ru s.data.toList).length c, .slice a' (ru s.data.toList).length c']) ∧ SpAt (els s.data.toList) a w' ∧ RnAt (els s.data.toList) a' w' ∧ Below w.heap.size w w' := by
  refine (runes_k s hs w).mono ?_
  rintro e w' ⟨va, vb, rfl, ⟨h1, h2⟩, hb⟩
  rw [els_length] at h1 h2
  obtain ⟨a, c, rfl⟩ := row_slice h1
  obtain ⟨a', c', rfl⟩ := row_slice h2
  exact ⟨a, c, a', c', rfl, spAt_of h1 (els_length _).symm, rnAt_of h2 (els_length _).symm, hb⟩
theorem refSpots_cells (t0 : List (Int × Nat)) (a : Option Addr) (cp : Nat) (w : World) (hx : RsAt (rsT 0 t0) a w) (hM : t0.length ≤ 1048576) :
    Calls Tryd.prog 19 #[.slice a t0.length cp] w fun e w' => ∃ a' c', e = .returned (.slice a' t0.length c') ∧ SpAt (elS 0 1 1 t0) a' w' ∧ Below w.heap.size w w' := by
  refine (refSpots_k t0 a cp w hx hM).mono ?_
  rintro e w' ⟨v, rfl, h1, hb⟩
  obtain ⟨a', c', rfl⟩ := row_slice h1
  exact ⟨a', c', rfl, spAt_of h1 (elS_length _ _ _ _).symm, hb⟩

set_option maxRecDepth 100000 in
set_option maxHeartbeats 4000000 in
theorem textRunes_walk (s : ByteArray) (hs : s.size ≤ 1048576) (w : World) (ht : Tabs w) :
    Calls Tryd.prog 4 #[.string s] w fun e w' => e = .returned (.bool true) ∧ Below w.heap.size w w' := by
  have h1 := runes_cells s hs w
  have h2 := refRunes_cells s hs
  have hle : (ru s.data.toList).length ≤ 1048576 := by
    have := rs_le s
    rw [rs_length] at this
    omega
  rw [rs_length] at h2
  unfold rs at h2
  unfold els at h1
  have h3 := refSpots_cells (ru s.data.toList)
  have hru := ru_bound s.data.toList
  have hal := alive_k
  generalize ru s.data.toList = t0 at *
  obtain ⟨M, hM⟩ : ∃ M, t0.length = M := ⟨_, rfl⟩
  rw [hM] at h1 h2 h3 hle
  go_enter Tryd.func4, Tryd.ntmps4
  go_wp2_with (first
    | (go_at_call 17; refine h1.mono ?_; clear h1; rintro e w1 ⟨a1, c1, a2, c2, rfl, p1, p2, b1⟩; have P1 := hide p1; have P2 := hide p2; clear p1 p2)
    | (go_at_call 18; refine (h2 _).mono ?_; clear h2; rintro e w2 ⟨a3, c3, rfl, p3, b2⟩)
    | (go_at_call 19; refine (h3 _ _ _ p3 hle).mono ?_; clear h3; rintro e w3 ⟨a4, c4, rfl, p4, b3⟩; have P3 := hide p3; have P4 := hide p4; clear p3 p4))
  have Q1 := hide ((P1.out.below b2).below b3)
  have Q2 := hide ((P2.out.below b2).below b3)
  have Q3 := hide (P3.out.below b3)
  clear P1 P2 P3
  have s1 := b1.size
  have s2 := b2.size
  have BB : Below w.heap.size w w3 := (b1.trans (b2.mono (by omega))).trans (b3.mono (by omega))
  have t3 : Tabs w3 := ((ht.below b1).below b2).below b3
  clear b1 b2 b3 s1 s2
  go_loopw [7] (fun vi wr => ∃ k : Nat, vi = .int .i64 (k : Int) ∧ k ≤ M ∧ Below w3.heap.size w3 wr) (fun v _ => M - (Lib.intOf v).toNat)
  case atStart => exact ⟨0, rfl, Nat.zero_le _, Below.refl _ _⟩
  case round =>
    obtain ⟨k, rfl, hk, hbel⟩ := hrel
    by_cases hlt : k < M
    · have hl1 : k < (elS 0 1 1 t0).length := by rw [elS_length]; omega
      have hl2 : k < (rsT 0 t0).length := by rw [rsT_length]; omega
      obtain ⟨g1, rfl, x1, x2, x3⟩ := Q1.out.below hbel k hl1
      obtain ⟨g2, rfl, y1⟩ := Q2.out.below hbel k hl1
      obtain ⟨g3, rfl, z1, -, -⟩ := Q3.out.below hbel k hl2
      obtain ⟨g4, rfl, u1, u2, u3⟩ := P4.out.below hbel k hl1
      have hrr := (elS_rs t0 0 1 1 k hl1 hl2).1
      rw [← hrr] at z1
      have hlo := (elS_bound t0 hru 0 1 1 k hl1).1
      have hhi := (elS_bound t0 hru 0 1 1 k hl1).2
      generalize (elS 0 1 1 t0)[k] = x at *
      clear hrr hl1 hl2
      have hsame := fun w => same_yes x.off x.line x.col w
      go_wp2
      have hq1 : (x.r == x.r) = true := by simp
      have hq2 : IntKind.i64.wrap x.r = x.r := by rw [IntKind.wrap_i64]; omega
      have y1' := fun q : Wb wr => q.cell y1
      have z1' := fun q : Wb wr => q.cell z1
      have x1' := fun q : Wb wr => q.cell x1
      have x2' := fun q : Wb wr => q.cell x2
      have x3' := fun q : Wb wr => q.cell x3
      have u1' := fun q : Wb wr => q.cell u1
      have u2' := fun q : Wb wr => q.cell u2
      have u3' := fun q : Wb wr => q.cell u3
      have hany := Wb.any wr
      refine wp_region_below (by kernel_rfl) (by kernel_rfl) ?_
      repeat (go_big_quiet_step ((go_at_call 11; exact Wb.calls _ (hsame _))))
      refine wpQuiet_nil ?_
      intro _ hw'
      obtain ⟨q, rfl⟩ := hw'
      go_wp2
      go_roundw
      case rel => exact ⟨k + 1, by simp, by omega, hbel.trans (q.below.mono hbel.size)⟩
      case measure =>
        simp [Lib.intOf]
        omega
    · go_wp2_with (go_at_call 16; refine (hal _ (t3.below hbel)).mono ?_; rintro e w4 ⟨rfl, b4⟩)
      go_ret
      have s3 := BB.size
      have s4 := hbel.size
      exact ⟨rfl, (BB.trans (hbel.mono s3)).trans (b4.mono (by omega))⟩
end Go.Proofs.YtpbebcefnkbnlaaDoor
