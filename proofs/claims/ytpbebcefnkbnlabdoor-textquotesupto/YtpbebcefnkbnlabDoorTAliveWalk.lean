/- alive's walk. -/
import Derived.Test.YtpbebcefnkbnlabDoorTAlive
namespace Go.Proofs.YtpbebcefnkbnlabDoor
open Go.RowKit

theorem keepCell {w w' : World} {a : Addr} {v : Value} (h : w.cell? a = some v) (hb : Below w.heap.size w w') : w'.cell? a = some v := (hb.cell (World.block_lt_of_cell? w a h)).trans h
theorem rowCell {w : World} {base : Nat} {e : TypeId} {size g k cap : Nat} {xs : List Value} (h : w.ownsRow base e size (.slice (some ⟨g, 0, none⟩) k cap) k xs) (j : Nat) (u : Value) (hj : xs[j]? = some u) : w.cell? ⟨g, j, none⟩ = some u := by
  have := h.cells (g := g) rfl j u hj
  rw [Addr.add_lit, Nat.zero_add] at this
  exact this

theorem aRunes (w : World) : Calls Tryd.prog 32 #[.string ⟨#[97, 206, 178, 255]⟩] w fun e w' => ∃ g1 c1 g2 c2, e = .returned (.tuple #[.slice (some ⟨g1, 0, none⟩) 3 c1, .slice (some ⟨g2, 0, none⟩) 3 c2]) ∧
    w'.cell? ⟨g1, 6, none⟩ = some (.int .i64 3) ∧ w'.cell? ⟨g2, 1, none⟩ = some (.int .i32 946) ∧ w'.cell? ⟨g2, 2, none⟩ = some (.int .i32 (-1)) ∧ Below w.heap.size w w' := by
  refine (runes_k ⟨#[97, 206, 178, 255]⟩ (by decide) w).mono ?_
  rintro e w' ⟨va, vb, rfl, ⟨h1, h2⟩, hb⟩
  rw [show (⟨#[97, 206, 178, 255]⟩ : ByteArray).data.toList = [97, 206, 178, 255] from rfl, els_a] at h1 h2
  obtain ⟨g1, c1, rfl⟩ := ownsRow_succ h1
  obtain ⟨g2, c2, rfl⟩ := ownsRow_succ h2
  exact ⟨g1, c1, g2, c2, rfl, rowCell h1 6 _ rfl, rowCell h2 1 _ rfl, rowCell h2 2 _ rfl, hb⟩
theorem aLines (w : World) : Calls Tryd.prog 33 #[.string ⟨#[97, 10, 10, 98]⟩] w fun e w' => ∃ g1 c1 g2 c2, e = .returned (.tuple #[.slice (some ⟨g1, 0, none⟩) 3 c1, .slice (some ⟨g2, 0, none⟩) 3 c2]) ∧
    w'.cell? ⟨g1, 2, none⟩ = some (.int .i64 3) ∧ w'.cell? ⟨g2, 2, none⟩ = some (.string ⟨#[98]⟩) ∧ Below w.heap.size w w' := by
  refine (lines_k ⟨#[97, 10, 10, 98]⟩ (by decide) w).mono ?_
  rintro e w' ⟨va, vb, rfl, ⟨h1, h2⟩, hb⟩
  rw [show (⟨#[97, 10, 10, 98]⟩ : ByteArray).data.toList = [97, 10, 10, 98] from rfl, lines_a] at h1 h2
  obtain ⟨g1, c1, rfl⟩ := ownsRow_succ h1
  obtain ⟨g2, c2, rfl⟩ := ownsRow_succ h2
  exact ⟨g1, c1, g2, c2, rfl, rowCell h1 2 _ rfl, rowCell h2 2 _ rfl, hb⟩
theorem aWords (w : World) : Calls Tryd.prog 34 #[.string ⟨#[32, 32, 105, 110, 118, 32, 112, 49, 32, 35, 120]⟩, .int .i64 7] w fun e w' => ∃ g1 c1, e = .returned (.slice (some ⟨g1, 0, none⟩) 2 c1) ∧
    w'.cell? ⟨g1, 0, none⟩ = some (.string ⟨#[105, 110, 118]⟩) ∧ w'.cell? ⟨g1, 1, none⟩ = some (.int .i64 2) ∧ w'.cell? ⟨g1, 2, none⟩ = some (.int .i64 7) ∧ w'.cell? ⟨g1, 3, none⟩ = some (.int .i64 3) ∧ Below w.heap.size w w' := by
  refine (words_k ⟨#[32, 32, 105, 110, 118, 32, 112, 49, 32, 35, 120]⟩ (by decide) 7 w).mono ?_
  rintro e w' ⟨va, rfl, h1, hb⟩
  rw [show (⟨#[32, 32, 105, 110, 118, 32, 112, 49, 32, 35, 120]⟩ : ByteArray).data.toList = [32, 32, 105, 110, 118, 32, 112, 49, 32, 35, 120] from rfl, words_a] at h1
  obtain ⟨g1, c1, rfl⟩ := ownsRow_succ h1
  exact ⟨g1, c1, rfl, rowCell h1 0 _ rfl, rowCell h1 1 _ rfl, rowCell h1 2 _ rfl, rowCell h1 3 _ rfl, hb⟩
theorem aNumber (w : World) (ht : Tabs w) : Calls Tryd.prog 14 #[.string ⟨#[45, 49, 50]⟩] w fun e w' => e = .returned (.tuple #[.int .i64 (-12), .int .i64 0]) ∧ Below w.heap.size w w' := by
  have h := number_k ⟨#[45, 49, 50]⟩ (by decide) w ht
  have e0 : (⟨#[45, 49, 50]⟩ : ByteArray).data.toList = [45, 49, 50] := rfl
  have e1 : numV [45, 49, 50] = -12 := by unfold numV; rw [wrap_a, dec12, if_pos rfl]
  have e2 : numE [45, 49, 50] = 0 := by unfold numE; rw [wrap_a, dec12, if_pos rfl]
  rw [e0, e1, e2] at h
  exact h
theorem aQuote (w : World) : Calls Tryd.prog 20 #[.string ⟨#[97, 10, 34, 206, 178]⟩] w fun e w' => e = .returned (.string ⟨#[34, 97, 92, 110, 92, 34, 206, 178, 34]⟩) ∧ Below w.heap.size w w' := by
  have h := quote_k ⟨#[97, 10, 34, 206, 178]⟩ (by decide) w
  have e0 : (⟨#[97, 10, 34, 206, 178]⟩ : ByteArray).data.toList = [97, 10, 34, 206, 178] := rfl
  rw [e0, qt_a] at h
  exact h
theorem aUnquote (w : World) : Calls Tryd.prog 18 #[.string ⟨#[34, 97, 92, 110, 92, 34, 206, 178, 34]⟩] w fun e w' => e = .returned (.tuple #[.string ⟨#[97, 10, 34, 206, 178]⟩, .int .i64 0]) ∧ Below w.heap.size w w' := by
  have h := unquote_k ⟨#[34, 97, 92, 110, 92, 34, 206, 178, 34]⟩ (by decide) w
  have e0 : (⟨#[34, 97, 92, 110, 92, 34, 206, 178, 34]⟩ : ByteArray).data.toList = [34, 97, 92, 110, 92, 34, 206, 178, 34] := rfl
  have e1 : unT [34, 97, 92, 110, 92, 34, 206, 178, 34] = [97, 10, 34, 206, 178] := by unfold unT; rw [une_a, qt_a, if_pos rfl]
  have e2 : unE [34, 97, 92, 110, 92, 34, 206, 178, 34] = 0 := by unfold unE; rw [une_a, qt_a, if_pos rfl]
  rw [e0, e1, e2] at h
  exact h
theorem aPad (w : World) : Calls Tryd.prog 22 #[.string ⟨#[206, 178]⟩, .int .i64 3] w fun e w' => e = .returned (.tuple #[.string ⟨#[206, 178, 32, 32]⟩, .int .i64 0]) ∧ Below w.heap.size w w' := by
  have h := pad_k ⟨#[206, 178]⟩ (by decide) 3 w
  have e0 : (⟨#[206, 178]⟩ : ByteArray).data.toList = [206, 178] := rfl
  rw [e0, pad_a] at h
  exact h
theorem aName1 (w : World) (ht : Tabs w) : Calls Tryd.prog 11 #[.string ⟨#[206, 187, 49]⟩] w fun e w' => e = .returned (.int .i64 0) ∧ Below w.heap.size w w' := by
  have h := name_k ⟨#[206, 187, 49]⟩ (by decide) w ht
  have e0 : (⟨#[206, 187, 49]⟩ : ByteArray).data.toList = [206, 187, 49] := rfl
  rw [e0, name_a] at h
  exact h
theorem aName2 (w : World) (ht : Tabs w) : Calls Tryd.prog 11 #[.string ⟨#[49, 97]⟩] w fun e w' => e = .returned (.int .i64 21) ∧ Below w.heap.size w w' := by
  have h := name_k ⟨#[49, 97]⟩ (by decide) w ht
  have e0 : (⟨#[49, 97]⟩ : ByteArray).data.toList = [49, 97] := rfl
  rw [e0, name_b] at h
  exact h
theorem aWidth (w : World) : Calls Tryd.prog 24 #[.string ⟨#[97, 206, 178, 10, 99]⟩] w fun e w' => e = .returned (.int .i64 4) ∧ Below w.heap.size w w' := by
  have h := width_k ⟨#[97, 206, 178, 10, 99]⟩ (by decide) w
  have e0 : (⟨#[97, 206, 178, 10, 99]⟩ : ByteArray).data.toList = [97, 206, 178, 10, 99] := rfl
  rw [e0, width_a] at h
  exact h
theorem aDecimal (w : World) (ht : Tabs w) : Calls Tryd.prog 16 #[.int .i64 0] w fun e w' => e = .returned (.string ⟨#[48]⟩) ∧ Below w.heap.size w w' := by
  have h := decimal_k 0 (by decide) (by decide) w ht
  rw [dec0] at h
  exact h
set_option maxRecDepth 100000 in
theorem num_k (x : Int) (w : World) : Calls Tryd.prog 10 #[.int .i64 x] w fun e w' => e = .returned (.int .i64 x) ∧ w = w' := by
  go_enter Tryd.func10, Tryd.ntmps10
  go_wp2
  go_ret
  exact ⟨rfl, rfl⟩
theorem wordEq (w : World) : (binOp BinOp.eql 73 (.agg #[.string ⟨#[105, 110, 118]⟩, .int .i64 2, .int .i64 7, .int .i64 3]) (.agg #[.string ⟨#[105, 110, 118]⟩, .int .i64 2, .int .i64 7, .int .i64 3])).run Tryd.prog w = .ok (.bool true) w := by kernel_rfl

set_option maxRecDepth 100000 in
set_option maxHeartbeats 4000000 in
theorem alive_k (w : World) (ht : Tabs w) : Calls Tryd.prog 13 #[] w fun e w' => e = .returned (.bool true) ∧ Below w.heap.size w w' := by
  have hwe := wordEq
  go_enter Tryd.func13, Tryd.ntmps13
  go_wp2_with (go_at_call 32; refine (aRunes _).mono ?_; rintro e w1 ⟨g1, c1, g2, c2, rfl, x1, x2, x3, b1⟩)
  go_wp2_with (go_at_call 33; refine (aLines _).mono ?_; rintro e w2 ⟨g3, c3, g4, c4, rfl, y1, y2, b2⟩)
  go_wp2_with (go_at_call 34; refine (aWords _).mono ?_; rintro e w3 ⟨g5, c5, rfl, z1, z2, z3, z4, b3⟩)
  have t3 := ((ht.below b1).below b2).below b3
  go_wp2_with (go_at_call 14; refine (aNumber _ t3).mono ?_; rintro e w4 ⟨rfl, b4⟩)
  go_wp2_with (go_at_call 20; refine (aQuote _).mono ?_; rintro e w5 ⟨rfl, b5⟩)
  go_wp2_with (go_at_call 18; refine (aUnquote _).mono ?_; rintro e w6 ⟨rfl, b6⟩)
  have K1 := fun {a : Addr} {v : Value} (h : w1.cell? a = some v) => keepCell (keepCell (keepCell (keepCell (keepCell h b2) b3) b4) b5) b6
  have K2 := fun {a : Addr} {v : Value} (h : w2.cell? a = some v) => keepCell (keepCell (keepCell (keepCell h b3) b4) b5) b6
  have K3 := fun {a : Addr} {v : Value} (h : w3.cell? a = some v) => keepCell (keepCell (keepCell h b4) b5) b6
  replace x1 := K1 x1
  replace x2 := K1 x2
  replace x3 := K1 x3
  replace y1 := K2 y1
  replace y2 := K2 y2
  replace z1 := K3 z1
  replace z2 := K3 z2
  replace z3 := K3 z3
  replace z4 := K3 z4
  clear K1 K2 K3
  have t6 := ((t3.below b4).below b5).below b6
  have s1 := b1.size
  have s2 := b2.size
  have s3 := b3.size
  have s4 := b4.size
  have s5 := b5.size
  have s6 := b6.size
  have B6 : Below w.heap.size w w6 := ((((b1.trans (b2.mono (by omega))).trans (b3.mono (by omega))).trans (b4.mono (by omega))).trans (b5.mono (by omega))).trans (b6.mono (by omega))
  have HS := hide (show w.heap.size ≤ w6.heap.size by omega)
  clear b1 b2 b3 b4 b5 b6 s1 s2 s3 s4 s5 s6 t3 ht
  have HN1 := aName1
  have HN2 := aName2
  go_wp2_with (first
    | (go_at_call 22; refine (aPad _).mono ?_; rintro e w7 ⟨rfl, b7⟩; have u1 := keepCell x1 b7; have u2 := keepCell x2 b7; have u3 := keepCell x3 b7; have u4 := keepCell y1 b7; have u5 := keepCell y2 b7; have u6 := keepCell z1 b7; have u7 := keepCell z2 b7; have u8 := keepCell z3 b7; have u9 := keepCell z4 b7; have t7 := t6.below b7)
    | (go_at_call 10; refine (num_k _ _).mono ?_; rintro e w' ⟨rfl, rfl⟩)
    | (go_at_call 11; refine (HN1 _ t7).mono ?_; clear HN1; rintro e w8 ⟨rfl, b8⟩; have t8 := t7.below b8)
    | (go_at_call 11; refine (HN2 _ t8).mono ?_; clear HN2; rintro e w9 ⟨rfl, b9⟩; have t9 := t8.below b9)
    | (go_at_call 24; refine (aWidth _).mono ?_; rintro e w10 ⟨rfl, b10⟩; have t10 := t9.below b10)
    | (go_at_call 16; refine (aDecimal _ t10).mono ?_; rintro e w11 ⟨rfl, b11⟩))
  go_ret
  have s7 := b7.size
  have s8 := b8.size
  have s9 := b9.size
  have s10 := b10.size
  have h6 := HS.out
  exact ⟨rfl, ((((B6.trans (b7.mono (by omega))).trans (b8.mono (by omega))).trans (b9.mono (by omega))).trans (b10.mono (by omega))).trans (b11.mono (by omega))⟩
end Go.Proofs.YtpbebcefnkbnlabDoor
