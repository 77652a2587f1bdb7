/- slices.Clone, Words and Copy: new memory with the same words. -/
import Derived.Test.YtfagjejknnkhdaaDoorBSet
namespace Go.Proofs.YtfagjejknnkhdaaDoor
open Go.RowKit

theorem row_is {w : World} {base : Nat} {e : TypeId} {size : Nat} {v : Value} {n : Nat} {xs : List Value} (h : w.ownsRow base e size v n xs) (hv : v ≠ .slice none 0 0) : ∃ g cap, v = .slice (some ⟨g, 0, none⟩) n cap ∧ base ≤ g := by
  rcases h.2 with ⟨h, _⟩ | ⟨g, cap, cur, h, hb, _⟩
  · exact absurd h hv
  · exact ⟨g, cap, h, hb⟩
theorem row_cells {w : World} {base : Nat} {e : TypeId} {g n cap : Nat} {xs : List Value} (h : w.ownsRow base e 1 (.slice (some ⟨g, 0, none⟩) n cap) n xs) : ∀ j u, xs[j]? = some u → w.cell? ((⟨g, 0, none⟩ : Addr).add j) = some u :=
  fun j u hu => h.cells (g := g) rfl j u hu
theorem row_from {w : World} {b b' : Nat} {e : TypeId} {size : Nat} {v : Value} {k : Nat} {xs : List Value} (h : w.ownsRow b e size v k xs) (hb : b' ≤ b) : w.ownsRow b' e size v k xs := by
  refine ⟨h.1, ?_⟩
  rcases h.2 with hn | ⟨g, cap, cur, rfl, hbg, rest⟩
  · exact .inl hn
  · exact .inr ⟨g, cap, cur, rfl, by omega, rest⟩

set_option maxRecDepth 100000 in
set_option maxHeartbeats 1000000 in
theorem cloneW_k {w : World} {g k cap : Nat} {xs : List Value} (hr : w.ownsRow 0 56 1 (.slice (some ⟨g, 0, none⟩) k cap) k xs) (hx : ∀ u ∈ xs, u.oneCell' = true) (hk : k ≤ 1048576) :
    Calls Tryd.prog 37 #[.slice (some ⟨g, 0, none⟩) k cap] w fun e w' => ∃ g' cap', e = .returned (.slice (some ⟨g', 0, none⟩) k cap') ∧ w'.ownsRow w.heap.size 56 1 (.slice (some ⟨g', 0, none⟩) k cap') k xs ∧ Below w.heap.size w w' := by
  obtain ⟨i0, hi, hz0, hz1, hz2⟩ := info_parts infoWord
  have HR := hide hr
  have hl := hr.1
  clear hr
  have hnil := fun w => Lib.run_eql_slice_nil (P := Tryd.prog) w 43 56 (some ⟨g, 0, none⟩) k cap 0 0 Tryd.underlying43
  go_enter Tryd.func37, Tryd.ntmps37
  go_wp2_with (at_builtin; refine wpList_append_own _ rfl _ _ 43 rfl w.heap.size 56 i0 (.int .u64 0) 1 8 Tryd.underlying43 hi hz0 hz1 hz2 rfl (by decide) _ _ _ rfl (World.ownsRow_made w #[] 0 (Nat.le_refl _) (by unfold maxLen; omega) rfl) ⟨g, 0, none⟩ k cap xs rfl ?c0 ?c1 hx ?c3 ?c4 ?c5 ?_)
  case c0 => exact hl
  case c1 => exact row_cells (HR.out.alloc _)
  case c3 => unfold maxLen; omega
  case c4 => omega
  case c5 => simp
  · intro v' w1 hown hgrow hne
    have hbel : Below w.heap.size w w1 := ((Below.refl _ _).alloc (Nat.le_refl _) _).grown hgrow (by simp) (fun k hk => by simp [Value.ownBlock] at hk; omega)
    obtain ⟨g', cap', rfl, _⟩ := row_is hown hne
    have R := hide (And.intro hown hbel)
    clear hown hgrow hne hbel
    go_wp2
    go_ret
    exact ⟨g', cap', rfl, R.out.1, R.out.2⟩

set_option maxRecDepth 100000 in
set_option maxHeartbeats 1000000 in
theorem cloneI_k {w : World} {g k cap : Nat} {xs : List Value} (hr : w.ownsRow 0 3 1 (.slice (some ⟨g, 0, none⟩) k cap) k xs) (hx : ∀ u ∈ xs, u.oneCell' = true) (hk : k ≤ 1048576) :
    Calls Tryd.prog 40 #[.slice (some ⟨g, 0, none⟩) k cap] w fun e w' => ∃ g' cap', e = .returned (.slice (some ⟨g', 0, none⟩) k cap') ∧ w'.ownsRow w.heap.size 3 1 (.slice (some ⟨g', 0, none⟩) k cap') k xs ∧ Below w.heap.size w w' := by
  obtain ⟨i0, hi, hz0, hz1, hz2⟩ := info_parts infoInt
  have HR := hide hr
  have hl := hr.1
  clear hr
  have hnil := fun w => Lib.run_eql_slice_nil (P := Tryd.prog) w 55 3 (some ⟨g, 0, none⟩) k cap 0 0 Tryd.underlying55
  go_enter Tryd.func40, Tryd.ntmps40
  go_wp2_with (at_builtin; refine wpList_append_own _ rfl _ _ 55 rfl w.heap.size 3 i0 (.int .i64 0) 1 8 Tryd.underlying55 hi hz0 hz1 hz2 rfl (by decide) _ _ _ rfl (World.ownsRow_made w #[] 0 (Nat.le_refl _) (by unfold maxLen; omega) rfl) ⟨g, 0, none⟩ k cap xs rfl ?c0 ?c1 hx ?c3 ?c4 ?c5 ?_)
  case c0 => exact hl
  case c1 => exact row_cells (HR.out.alloc _)
  case c3 => unfold maxLen; omega
  case c4 => omega
  case c5 => simp
  · intro v' w1 hown hgrow hne
    have hbel : Below w.heap.size w w1 := ((Below.refl _ _).alloc (Nat.le_refl _) _).grown hgrow (by simp) (fun k hk => by simp [Value.ownBlock] at hk; omega)
    obtain ⟨g', cap', rfl, _⟩ := row_is hown hne
    have R := hide (And.intro hown hbel)
    clear hown hgrow hne hbel
    go_wp2
    go_ret
    exact ⟨g', cap', rfl, R.out.1, R.out.2⟩

theorem below_row {w w' : World} {B base : Nat} {e : TypeId} {size : Nat} {v : Value} {k : Nat} {xs : List Value} (h : w.ownsRow base e size v k xs) (hb : Below B w w') (hB : w.heap.size ≤ B) : w'.ownsRow base e size v k xs := by
  refine ⟨h.1, ?_⟩
  rcases h.2 with hn | ⟨g, cap, cur, rfl, hbg, hg, rest⟩
  · exact .inl hn
  · exact .inr ⟨g, cap, cur, rfl, hbg, (hb.block g (by have := (Array.getElem?_eq_some_iff.1 hg).1; omega)).trans hg, rest⟩

set_option maxRecDepth 100000 in
theorem words_k {w : World} {sb g cap n : Nat} {ws : List Nat} (h : SetAt w sb g cap n ws) :
    Calls Tryd.prog 14 #[.pointer (some ⟨sb, 0, none⟩)] w fun e w' => ∃ g' cap', e = .returned (.slice (some ⟨g', 0, none⟩) ws.length cap') ∧ w'.ownsRow w.heap.size 56 1 (.slice (some ⟨g', 0, none⟩) ws.length cap') ws.length (u64s ws) ∧ Below w.heap.size w w' := by
  obtain ⟨c0, c1, c2⟩ := h.cells
  have HU := hide (usable_k h)
  have HC := hide (cloneW_k h.row (u64s_one ws) (by have := h.len; have := h.room; omega))
  clear h
  go_enter Tryd.func14, Tryd.ntmps14
  go_wp2_with (first
    | (go_at_call 36; refine HU.out.mono ?_; rintro e w1 ⟨rfl, rfl⟩)
    | (go_at_call 37; refine HC.out.mono ?_; rintro e w1 ⟨g', cap', rfl, A1, A2⟩; have B1 := hide A1; have B2 := hide A2; clear A1 A2))
  go_ret
  exact ⟨g', cap', rfl, B1.out, B2.out⟩
set_option maxRecDepth 100000 in
theorem words_no {w : World} {v : Value} (h : NoSet w v) :
    Calls Tryd.prog 14 #[v] w fun e w' => e = .returned (.slice none 0 0) ∧ w = w' := by
  have HU := hide (usable_no h)
  clear h
  go_enter Tryd.func14, Tryd.ntmps14
  go_wp2_with (go_at_call 36; refine HU.out.mono ?_; rintro e w1 ⟨rfl, rfl⟩)
  go_ret
  exact ⟨rfl, rfl⟩
set_option maxRecDepth 100000 in
theorem copy_no {w : World} {v : Value} (h : NoSet w v) :
    Calls Tryd.prog 23 #[v] w fun e w' => e = .returned (.pointer none) ∧ w = w' := by
  have HU := hide (usable_no h)
  clear h
  go_enter Tryd.func23, Tryd.ntmps23
  go_wp2_with (go_at_call 36; refine HU.out.mono ?_; rintro e w1 ⟨rfl, rfl⟩)
  go_ret
  exact ⟨rfl, rfl⟩
theorem allMake_k (p : Option Addr) (w : World) :
    Calls Tryd.prog 15 #[.pointer p] w fun e w' => e = .returned (.func (.func 38) #[] #[.pointer (some ⟨w.heap.size, 0, none⟩)]) ∧ w.alloc (.cells #[.pointer p] 23) = w' := by
  go_enter Tryd.func15, Tryd.ntmps15
  go_wp2
  go_ret
  exact ⟨rfl, rfl⟩
theorem allNil (x : Array Value) (w : World) : (binOp BinOp.eql 50 (.func (.func 38) #[] x) .nilFunc).run Tryd.prog w = .ok (.bool false) w := by
  simp only [binOp, Sem.run_bind, Op.equal, Op.maxDepth]
  rw [Op.equalIn, Sem.run_bind, run_underlying Tryd.underlying50]
  rfl
end Go.Proofs.YtfagjejknnkhdaaDoor
