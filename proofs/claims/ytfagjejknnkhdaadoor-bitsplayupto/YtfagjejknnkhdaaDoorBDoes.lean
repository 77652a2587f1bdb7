/- does: a call of both. -/
import Derived.Test.YtfagjejknnkhdaaDoorBPlay
import Derived.Test.YtfagjejknnkhdaaDoorBPutAny
import Derived.Deep.RegionHeld3
import Derived.Deep.AppendLies
namespace Go.Proofs.YtfagjejknnkhdaaDoor
open Go.RowKit

theorem Two.below {L : Nat} {W W' : World} {sr tr : Nat} {s : Nat → Side} (h : Two L W sr tr s) (hb : Below W.heap.size W W') : Two L W' sr tr s :=
  ⟨below_row h.srow hb (Nat.le_refl _), below_row h.trow hb (Nat.le_refl _), fun j hj => (h.each j hj).below hb, h.lo, h.apart⟩
theorem Two.drewN {L : Nat} {W : World} {sr tr : Nat} {s : Nat → Side} (h : Two L W sr tr s) (m : Nat) : Two L (W.drewN m) sr tr s :=
  ⟨h.srow, h.trow, fun j hj => ⟨(h.each j hj).set.drewN m, (h.each j hj).ref.drewN m, (h.each j hj).rel, (h.each j hj).len⟩, h.lo, h.apart⟩
theorem below_drewN {L : Nat} {W W' : World} (h : Below L W W') (m : Nat) : Below L W (W'.drewN m) := ⟨h.os, h.tape, h.output, h.size, h.block⟩
/-- Calls that lie in memory stay as they are. -/
def KeepC (W W' : World) : Prop := ∀ (b : Nat) (cs : Array Value), W.heap[b]? = some (Obj.cells cs 37 (0, 0)) → W'.heap[b]? = some (Obj.cells cs 37 (0, 0))
theorem keepC_below {W W' : World} (h : Below W.heap.size W W') : KeepC W W' := fun b _ e => (h.block b (Array.getElem?_eq_some_iff.1 e).1).trans e
theorem KeepC.trans {W W1 W2 : World} (h : KeepC W W1) (k : KeepC W1 W2) : KeepC W W2 := fun b cs e => k b cs (h b cs e)
theorem keepC_row {W W' : World} {r b n cap : Nat} {e : TypeId} {xs : List Value} (hg : W.grownBy W' (some r)) (hr : W.ownsRow b e 1 (.slice (some ⟨r, 0, none⟩) n cap) n xs) (hne : e ≠ 37) : KeepC W W' := fun b cs h => by
  obtain ⟨cur, hc⟩ := row_block_is hr
  refine (hg.block b (Array.getElem?_eq_some_iff.1 h).1 ?_).trans h
  intro eq
  cases eq
  rw [hc] at h
  simp at h
  exact hne h.2
theorem Two.keepC {L : Nat} {W W1 W2 : World} {sr tr : Nat} {s : Nat → Side} (h : Two L W sr tr s) (k : Nat) (hk : k < 2) (g1 : W.grownBy W1 (some (s k).g)) (g2 : W1.grownBy W2 (some (s k).hb)) : KeepC W W2 := by
  have hA := h.each k hk
  have a1 := RefAt.apart hA.set hA.ref
  exact (keepC_row g1 hA.set.row (by decide)).trans (keepC_row g2 (hA.ref.kept g1 (by simpa using Ne.symm a1.1) (by simpa using Ne.symm a1.2.1)).row (by decide))
theorem rel_put {ws : List Nat} {bs : List Bool} {n : Nat} (h : Rel ws bs) (hl : bs.length = n) (i : Int) : Rel (if 0 ≤ i ∧ i < (n : Int) then putW ws i.toNat else ws) (turnB bs i true) := by
  unfold turnB
  rw [hl]
  split
  · exact h.put _ (by omega)
  · exact h
set_option maxRecDepth 100000 in
set_option maxHeartbeats 4000000 in
theorem does_put {L : Nat} {W : World} {sr tr : Nat} {s : Nat → Side} (h : Two L W sr tr s) (hL : L ≤ W.heap.size) (k o : Nat) (hk : k < 2) (on x : Int) (ot : Bool) :
    Calls Tryd.prog 7 #[.slice (some ⟨sr, 0, none⟩) 2 2, .slice (some ⟨tr, 0, none⟩) 2 2, .agg #[.int .i64 1, .int .i64 on, .int .i64 x, .bool ot], .int .i64 (k : Int), .int .i64 (o : Int)] W fun e W' => e = .returned (.bool true) ∧
      ∃ s', Two L W' sr tr s' ∧ (∀ j, (s' j).n = (s j).n) ∧ Below L W W' ∧ KeepC W W' := by
  obtain ⟨W1, hW1⟩ : ∃ W1, W.alloc (.cells #[.int .i64 1, .int .i64 on, .int .i64 x, .bool ot] 37) = W1 := ⟨_, rfl⟩
  have b1 : Below W.heap.size W W1 := by rw [← hW1]; exact (Below.refl _ _).alloc (Nat.le_refl _) _
  have h1 := h.below b1
  have hx : W1.heap[W.heap.size]? = some (.cells #[.int .i64 1, .int .i64 on, .int .i64 x, .bool ot] 37 (0, 0)) := by rw [← hW1]; exact World.alloc_heap_new _ _
  have c0 : W1.cell? ⟨W.heap.size, 0, none⟩ = some (.int .i64 1) := by simp [World.cell?, hx]
  have c2 : W1.cell? ⟨W.heap.size, 2, none⟩ = some (.int .i64 x) := by simp [World.cell?, hx]
  obtain ⟨d1, d2⟩ := h1.ptr k hk
  have hA := h1.each k hk
  have HP := hide (fun m => put_any (hA.set.drewN m) x)
  go_enter Tryd.func7, Tryd.ntmps7
  go_wp2
  have lx := World.block_lt_of_cell? W1 _ c2
  have l1 := World.block_lt_of_cell? W1 _ d1
  have l2 := World.block_lt_of_cell? W1 _ d2
  have e1 : (s k).g ≠ sr := row_type hA.set.row h1.srow (by decide)
  have e2 : (s k).g ≠ tr := row_type hA.set.row h1.trow (by decide)
  have e3 : (s k).g ≠ W.heap.size := by have := hA.set.glt; have := (h.each k hk).set.glt; omega
  have e4 : (s k).hb ≠ sr := row_type hA.ref.row h1.srow (by decide)
  have e5 : (s k).hb ≠ tr := row_type hA.ref.row h1.trow (by decide)
  have e6 : (s k).hb ≠ W.heap.size := by have := (h.each k hk).ref.glt; omega
  have HG := hide (fun (V : World) (r : Nat) (hg : W1.grownBy V (some r)) (q1 : r ≠ sr) (q2 : r ≠ tr) (q3 : r ≠ W.heap.size) => (⟨(hg.cell_far ⟨W.heap.size, 2, none⟩ lx (by simpa using Ne.symm q3)).trans c2, (hg.cell_far ⟨sr, k, none⟩ l1 (by simpa using Ne.symm q1)).trans d1, (hg.cell_far ⟨tr, k, none⟩ l2 (by simpa using Ne.symm q2)).trans d2⟩ : _ ∧ _ ∧ _))
  have a1 := RefAt.apart hA.set hA.ref
  have e7 : (s k).g ≠ (s k).pb := Ne.symm a1.1
  have e8 : (s k).g ≠ (s k).hb := Ne.symm a1.2.1
  have HH := hide (fun (U V : World) (hc : U.cell? ⟨W.heap.size, 2, none⟩ = some (.int .i64 x) ∧ U.cell? ⟨sr, k, none⟩ = some (.pointer (some ⟨(s k).sb, 0, none⟩)) ∧ U.cell? ⟨tr, k, none⟩ = some (.pointer (some ⟨(s k).pb, 0, none⟩))) (hg : U.grownBy V (some (s k).hb)) => (⟨(hg.cell_far ⟨W.heap.size, 2, none⟩ (World.block_lt_of_cell? U _ hc.1) (by simpa using Ne.symm e6)).trans hc.1, (hg.cell_far ⟨sr, k, none⟩ (World.block_lt_of_cell? U _ hc.2.1) (by simpa using Ne.symm e4)).trans hc.2.1, (hg.cell_far ⟨tr, k, none⟩ (World.block_lt_of_cell? U _ hc.2.2) (by simpa using Ne.symm e5)).trans hc.2.2⟩ : _ ∧ _ ∧ _))
  have p0 : (0 : Int) ≤ (k : Int) := by omega
  have p1 : (k : Int) < 2 := by omega
  have BL := hide (b1.mono hL)
  have KB := hide (keepC_below b1)
  have HA := hide hA
  have H1 := hide h1
  clear hA h1 h hx c0 b1 hW1
  go_region_held3 (fun w' => w'.cell? ⟨W.heap.size, 2, none⟩ = some (.int .i64 x) ∧ w'.cell? ⟨sr, k, none⟩ = some (.pointer (some ⟨(s k).sb, 0, none⟩)) ∧ w'.cell? ⟨tr, k, none⟩ = some (.pointer (some ⟨(s k).pb, 0, none⟩)))
    (first | go_keep | exact HG2.out | exact HG3.out)
    (first
      | ((go_at_call 13; refine (HP.out 1).mono ?_; rintro e w2 ⟨rfl, s2, g2⟩; have S2 := hide s2; have G2 : Hid (W1.grownBy w2 (some (s k).g)) := hide ⟨g2.os, g2.tape, g2.output, g2.size, g2.block⟩; have HG2 := hide (HG.out _ _ G2.out e1 e2 e3); have HT := hide (refTurn_k (HA.out.ref.kept G2.out (by simpa using e7) (by simpa using e8)) x true); clear s2 g2))
      | ((go_at_call 17; refine HT.out.mono ?_; rintro e w3 ⟨rfl, s3, g3⟩; have S3 := hide s3; have G3 := hide g3; have HG3 := hide (HH.out _ _ HG2.out g3); clear s3 g3)))
  have hE : (tk (s k).n x == tk (s k).bs.length x) = true := by rw [HA.out.len]; simp
  have bL : Below L W W1 := BL.out
  go_wp2
  go_ret
  refine ⟨by rw [← hE]; rfl, _, Two.turned H1.out k hk G2.out S2.out G3.out S3.out (rel_put HA.out.rel HA.out.len x) (by rw [turnB_len]; exact HA.out.len), fun j => by unfold upd; split <;> simp_all, ?_⟩
  have lo := H1.out.lo k hk
  exact ⟨below_gr (below_gr bL G2.out lo.1 hL) G3.out lo.2 hL, KB.out.trans (H1.out.keepC k hk G2.out G3.out)⟩
theorem rel_drop {ws : List Nat} {bs : List Bool} {n : Nat} (h : Rel ws bs) (hl : bs.length = n) (i : Int) : Rel (if 0 ≤ i ∧ i < (n : Int) then dropW ws i.toNat else ws) (turnB bs i false) := by
  unfold turnB
  rw [hl]
  split
  · exact h.drop _ (by omega)
  · exact h
theorem drop_any {w : World} {sb g cap n : Nat} {ws : List Nat} (h : SetAt w sb g cap n ws) (i : Int) :
    Calls Tryd.prog 18 #[.pointer (some ⟨sb, 0, none⟩), .int .i64 i] w fun e w' => e = .returned (.int .i64 (tk n i)) ∧ SetAt w' sb g cap n (if 0 ≤ i ∧ i < (n : Int) then dropW ws i.toNat else ws) ∧ w.grownBy w' (some g) := by
  by_cases hi : 0 ≤ i ∧ i < (n : Int)
  · obtain ⟨k, rfl⟩ : ∃ k : Nat, i = (k : Int) := ⟨i.toNat, by omega⟩
    have e : tk n (k : Int) = 0 := if_pos hi
    rw [e, if_pos hi, Int.toNat_natCast]
    exact drop_k h k (by omega)
  · rw [tk_out hi, if_neg hi]
    refine (drop_out h i hi).mono ?_
    rintro e w' ⟨rfl, rfl⟩
    exact ⟨rfl, h, grown_refl _ _⟩
set_option maxRecDepth 100000 in
set_option maxHeartbeats 4000000 in
theorem does_drop {L : Nat} {W : World} {sr tr : Nat} {s : Nat → Side} (h : Two L W sr tr s) (hL : L ≤ W.heap.size) (k o : Nat) (hk : k < 2) (on x : Int) (ot : Bool) :
    Calls Tryd.prog 7 #[.slice (some ⟨sr, 0, none⟩) 2 2, .slice (some ⟨tr, 0, none⟩) 2 2, .agg #[.int .i64 2, .int .i64 on, .int .i64 x, .bool ot], .int .i64 (k : Int), .int .i64 (o : Int)] W fun e W' => e = .returned (.bool true) ∧
      ∃ s', Two L W' sr tr s' ∧ (∀ j, (s' j).n = (s j).n) ∧ Below L W W' ∧ KeepC W W' := by
  obtain ⟨W1, hW1⟩ : ∃ W1, W.alloc (.cells #[.int .i64 2, .int .i64 on, .int .i64 x, .bool ot] 37) = W1 := ⟨_, rfl⟩
  have b1 : Below W.heap.size W W1 := by rw [← hW1]; exact (Below.refl _ _).alloc (Nat.le_refl _) _
  have h1 := h.below b1
  have hx : W1.heap[W.heap.size]? = some (.cells #[.int .i64 2, .int .i64 on, .int .i64 x, .bool ot] 37 (0, 0)) := by rw [← hW1]; exact World.alloc_heap_new _ _
  have c0 : W1.cell? ⟨W.heap.size, 0, none⟩ = some (.int .i64 2) := by simp [World.cell?, hx]
  have c2 : W1.cell? ⟨W.heap.size, 2, none⟩ = some (.int .i64 x) := by simp [World.cell?, hx]
  obtain ⟨d1, d2⟩ := h1.ptr k hk
  have hA := h1.each k hk
  have HP := hide (fun m => drop_any (hA.set.drewN m) x)
  go_enter Tryd.func7, Tryd.ntmps7
  go_wp2
  have lx := World.block_lt_of_cell? W1 _ c2
  have l1 := World.block_lt_of_cell? W1 _ d1
  have l2 := World.block_lt_of_cell? W1 _ d2
  have e1 : (s k).g ≠ sr := row_type hA.set.row h1.srow (by decide)
  have e2 : (s k).g ≠ tr := row_type hA.set.row h1.trow (by decide)
  have e3 : (s k).g ≠ W.heap.size := by have := hA.set.glt; have := (h.each k hk).set.glt; omega
  have e4 : (s k).hb ≠ sr := row_type hA.ref.row h1.srow (by decide)
  have e5 : (s k).hb ≠ tr := row_type hA.ref.row h1.trow (by decide)
  have e6 : (s k).hb ≠ W.heap.size := by have := (h.each k hk).ref.glt; omega
  have HG := hide (fun (V : World) (r : Nat) (hg : W1.grownBy V (some r)) (q1 : r ≠ sr) (q2 : r ≠ tr) (q3 : r ≠ W.heap.size) => (⟨(hg.cell_far ⟨W.heap.size, 2, none⟩ lx (by simpa using Ne.symm q3)).trans c2, (hg.cell_far ⟨sr, k, none⟩ l1 (by simpa using Ne.symm q1)).trans d1, (hg.cell_far ⟨tr, k, none⟩ l2 (by simpa using Ne.symm q2)).trans d2⟩ : _ ∧ _ ∧ _))
  have a1 := RefAt.apart hA.set hA.ref
  have e7 : (s k).g ≠ (s k).pb := Ne.symm a1.1
  have e8 : (s k).g ≠ (s k).hb := Ne.symm a1.2.1
  have HH := hide (fun (U V : World) (hc : U.cell? ⟨W.heap.size, 2, none⟩ = some (.int .i64 x) ∧ U.cell? ⟨sr, k, none⟩ = some (.pointer (some ⟨(s k).sb, 0, none⟩)) ∧ U.cell? ⟨tr, k, none⟩ = some (.pointer (some ⟨(s k).pb, 0, none⟩))) (hg : U.grownBy V (some (s k).hb)) => (⟨(hg.cell_far ⟨W.heap.size, 2, none⟩ (World.block_lt_of_cell? U _ hc.1) (by simpa using Ne.symm e6)).trans hc.1, (hg.cell_far ⟨sr, k, none⟩ (World.block_lt_of_cell? U _ hc.2.1) (by simpa using Ne.symm e4)).trans hc.2.1, (hg.cell_far ⟨tr, k, none⟩ (World.block_lt_of_cell? U _ hc.2.2) (by simpa using Ne.symm e5)).trans hc.2.2⟩ : _ ∧ _ ∧ _))
  have p0 : (0 : Int) ≤ (k : Int) := by omega
  have p1 : (k : Int) < 2 := by omega
  have BL := hide (b1.mono hL)
  have KB := hide (keepC_below b1)
  have HA := hide hA
  have H1 := hide h1
  clear hA h1 h hx c0 b1 hW1
  go_region_held3 (fun w' => w'.cell? ⟨W.heap.size, 2, none⟩ = some (.int .i64 x) ∧ w'.cell? ⟨sr, k, none⟩ = some (.pointer (some ⟨(s k).sb, 0, none⟩)) ∧ w'.cell? ⟨tr, k, none⟩ = some (.pointer (some ⟨(s k).pb, 0, none⟩)))
    (first | go_keep | exact HG2.out | exact HG3.out)
    (first
      | ((go_at_call 18; refine (HP.out 1).mono ?_; rintro e w2 ⟨rfl, s2, g2⟩; have S2 := hide s2; have G2 : Hid (W1.grownBy w2 (some (s k).g)) := hide ⟨g2.os, g2.tape, g2.output, g2.size, g2.block⟩; have HG2 := hide (HG.out _ _ G2.out e1 e2 e3); have HT := hide (refTurn_k (HA.out.ref.kept G2.out (by simpa using e7) (by simpa using e8)) x false); clear s2 g2))
      | ((go_at_call 17; refine HT.out.mono ?_; rintro e w3 ⟨rfl, s3, g3⟩; have S3 := hide s3; have G3 := hide g3; have HG3 := hide (HH.out _ _ HG2.out g3); clear s3 g3)))
  have hE : (tk (s k).n x == tk (s k).bs.length x) = true := by rw [HA.out.len]; simp
  have bL : Below L W W1 := BL.out
  go_wp2
  go_ret
  refine ⟨by rw [← hE]; rfl, _, Two.turned H1.out k hk G2.out S2.out G3.out S3.out (rel_drop HA.out.rel HA.out.len x) (by rw [turnB_len]; exact HA.out.len), fun j => by unfold upd; split <;> simp_all, ?_⟩
  have lo := H1.out.lo k hk
  exact ⟨below_gr (below_gr bL G2.out lo.1 hL) G3.out lo.2 hL, KB.out.trans (H1.out.keepC k hk G2.out G3.out)⟩
end Go.Proofs.YtfagjejknnkhdaaDoor
