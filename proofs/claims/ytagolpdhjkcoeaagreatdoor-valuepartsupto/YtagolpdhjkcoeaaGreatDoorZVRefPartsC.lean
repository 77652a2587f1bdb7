/- The reference's parts and Parts: what they hold. -/
import Derived.Test.YtagolpdhjkcoeaaGreatDoorGRefP
import Derived.Test.YtagolpdhjkcoeaaGreatDoorGSetM
import Derived.Test.YtagolpdhjkcoeaaGreatDoorGSeq
namespace Go.Proofs.YtagolpdhjkcoeaaGreatDoor
open Go.RowKit

theorem ItemsAt.deep {w : World} {B : Nat} : ∀ {n : Nat} {sl : Value} {its : List Vl}, ItemsAt w B n sl its → ItemsAt w B (n + 1) sl its
  | 0, _, _, h => h.elim
  | n + 1, _, its, h => by
    obtain ⟨a, c, e, hl, hc⟩ := h
    refine ⟨a, c, e, hl, fun j hj => ?_⟩
    obtain ⟨b, off, s', e, hb, h0, h1, h2, h3, h4, h5, h6⟩ := hc j hj
    exact ⟨b, off, s', e, hb, h0, h1, h2, h3, h4, ItemsAt.deep h5, h6⟩
theorem ItemsAt.deepTo {w : World} {B n : Nat} {sl : Value} {its : List Vl} (h : ItemsAt w B n sl its) {N : Nat} (hn : n ≤ N) : ItemsAt w B N sl its := by
  induction N with
  | zero => obtain rfl : n = 0 := by omega
            exact h
  | succ N ih =>
    by_cases e : n = N + 1
    · subst e; exact h
    · exact (ih (by omega)).deep
/-- A row of values put together since the world X, and what it holds. -/
def RowP (X : World) (L B N : Nat) (g0 : Option Nat) (w : World) (v : Value) (its : List Vl) : Prop := RowN X L g0 w v its.length ∧ RowS 0 w L B N v its
theorem RowS.any {lo : Nat} {w : World} {L B n : Nat} {v : Value} {its : List Vl} (h : RowS lo w L B n v its) : ∃ xs, w.ownsRow L 25 5 v its.length xs := by
  obtain ⟨ss, hl, hr, _⟩ := h
  exact ⟨_, hr⟩
theorem RowP.start {X : World} {L B N : Nat} {v : Value} {its : List Vl} (h : RowS 0 X L B N v its) : RowP X L B N v.ownBlock X v its := ⟨RowN.start h.any, h⟩
theorem RowP.below {X w w' : World} {L B N : Nat} {g0 : Option Nat} {v : Value} {its : List Vl} (h : RowP X L B N g0 w v its) (hb : Below w.heap.size w w') (hB : B ≤ w.heap.size) : RowP X L B N g0 w' v its := ⟨h.1.below hb, h.2.below hB hb⟩
theorem RowP.more {X w w' : World} {L B N : Nat} {g0 : Option Nat} {v v' : Value} {its js : List Vl} (h : RowP X L B N g0 w v its) (q : RowP w L B N v.ownBlock w' v' js) : RowP X L B N g0 w' v' js := ⟨h.1.more q.1, q.2⟩
theorem RowP.push {X W : World} {L B N : Nat} {g0 : Option Nat} {v s : Value} {its : List Vl} {x : Vl} (h : RowP X L B N g0 W v its) (hL : L ≤ X.heap.size) (hB : B ≤ L) (hx : ItemsLo 0 W B N s x.items) (ht : x.ok) (hn : its.length + 1 ≤ 1000000000) (ty : TypeId) :
    ∃ v' w', (Builtin.append_ #[23, 23] ty #[v, .slice (some ⟨W.heap.size, 0, none⟩) 1 1]).run Tryz.prog (W.alloc (.cells #[.int .i64 x.kind, .int .i64 x.int, .int .i64 x.im, .string x.text, s] 25)) = .ok v' w' ∧ RowP X L B N g0 w' v' (its ++ [x]) := by
  have hz := h.1.gr.size
  obtain ⟨v1, w1, r1, s1, _⟩ := h.2.push (by omega) hB hx ht hn ty
  obtain ⟨sa, sc, rfl, _⟩ := hx.len
  obtain ⟨v2, w2, r2, n2⟩ := h.1.push hL x sa x.items.length sc hn ty
  rw [r1] at r2
  cases r2
  exact ⟨v1, w1, r1, by rw [List.length_append, List.length_singleton]; exact n2, s1⟩
theorem parts_sum (l : List Vl) : ((l.map partsV).flatten).length = sumV l := by
  rw [List.length_flatten, List.map_map]
  unfold sumV
  congr 1
  exact List.map_congr_left fun x _ => partsV_len x.size x (Nat.le_refl _)
def RefPartsH (N n : Nat) : Prop := ∀ (v : Vl) (w : World) (B L : Nat) (sl row : Value) (pre : List Vl), n ≤ N → v.ok → B ≤ L → L ≤ w.heap.size → ItemsAt w B n sl v.items → RowS 0 w L B N row pre → pre.length + v.size ≤ 1000000000 →
  Calls Tryz.prog 28 #[.agg (vcells v sl), row] w fun e w' => ∃ v', e = .returned v' ∧ RowP w L B N row.ownBlock w' v' (pre ++ partsV v)
set_option maxRecDepth 100000 in
set_option maxHeartbeats 1000000 in
theorem refPartsC_step {N n : Nat} (hC : RefPartsH N n) : RefPartsH N (n + 1) := by
  intro v w B L sl row pre hnN hok hBL hL hi hrS hK
  obtain ⟨K, hKe⟩ : ∃ K, pre.length = K := ⟨_, rfl⟩
  rw [hKe] at hK
  have hr := hrS.any
  rw [hKe] at hr
  have HCC := hide hC
  have hve : v.size = sumV v.items + 1 := by have := Vl.size_eq v; unfold sumV; omega
  obtain ⟨a, c, rfl, hla⟩ := hi.len
  unfold maxLen at hla
  obtain ⟨W, hW⟩ : ∃ W, w.alloc (.cells (vcells v (.slice a v.items.length c)) 25) = W := ⟨_, rfl⟩
  have bW : Below w.heap.size w W := by rw [← hW]; exact alloc_v (Below.refl _ _) _
  have e1 : W.heap[w.heap.size]? = some (.cells (vcells v (.slice a v.items.length c)) 25 (0, 0)) := by rw [← hW]; exact World.alloc_heap_new w _
  have zW : w.heap.size < W.heap.size := (Array.getElem?_eq_some_iff.1 e1).1
  have hne : some w.heap.size ≠ row.ownBlock := fun e => by obtain ⟨xs, hr⟩ := hr; have := (hr.lt _ e.symm).2; omega
  have hbv : ∀ k, row.ownBlock = some k → B ≤ k := fun k e => by obtain ⟨xs, hr⟩ := hr; have := (hr.lt _ e).1; omega
  have HB := hide (fun (U : World) (g : W.grownBy U row.ownBlock) => (g.block _ zW hne).trans e1)
  have R0 := (RowP.start hrS).below bW (by omega)
  have RW : RowP W L B N row.ownBlock W row pre := RowP.start R0.2
  have HEND := hide (fun (U : World) (v' : Value) (m : List Vl) (q : RowP W L B N row.ownBlock U v' m) => R0.more q)
  have HI := hide (hi.below (bW.mono (by omega)))
  obtain ⟨v1, w1, hrun, r1⟩ := RW.push (by omega) hBL ((hi.below (bW.mono (by omega))).deepTo hnN).lo hok (by omega) 23
  have HR2 := hide hrun
  have HR3 := hide r1
  have x0 := cells_at e1 0 _ rfl
  have x1 := cells_at e1 1 _ rfl
  have x2 := cells_at e1 2 _ rfl
  have x3 := cells_at e1 3 _ rfl
  have x4 := cells_at e1 4 _ rfl
  have hP := partsV_eq v
  clear hi hC e1 hr hrS R0 RW hrun r1
  go_enter Tryz.func28, Tryz.ntmps28
  go_wp2_with (at_builtin; refine Lib.wpList_append_run _ rfl (.tmp 6) (.tmp 8) 23 23 rfl _ _ rfl rfl _ _ HR2.out ?_; clear HR2)
  clear x0 x1 x2 x3 x4 hW
  go_loopw [1, 5] (fun b i wr => ∃ k : Nat, k ≤ v.items.length ∧ i = .int .i64 k ∧ RowP W L B N row.ownBlock wr b (pre ++ [v] ++ ((v.items.take k).map partsV).flatten)) (fun _ i _ => v.items.length - (intOf i).toNat)
  case atStart => exact ⟨0, Nat.zero_le _, rfl, by simpa using HR3.out⟩
  case round =>
    obtain ⟨k, hk, rfl, hR⟩ := hrel
    have x4 := cells_at (HB.out wr hR.1.gr) 4 _ rfl
    by_cases hlt : k < v.items.length
    · obtain ⟨b1, o1, s1, rfl, g1, p0, p1, p2, p3, p4, p5, p6⟩ := (HI.out.grownO hR.1.gr hbv (by omega)).item k hlt
      have gz := hR.1.gr.size
      have l1 : b1 < wr.heap.size := by omega
      have HC := hide (HCC.out v.items[k] wr B L s1 _ _ (by omega) p6 hBL (by omega) p5 hR.2 (by rw [List.length_append, List.length_append, parts_sum, List.length_singleton]; have := sum_take v.items k hlt; have := sum_le v.items (k + 1); omega))
      have HM := hide (fun (U' : World) (v' : Value) (r : RowP wr L B N _ U' v' (pre ++ [v] ++ ((v.items.take k).map partsV).flatten ++ partsV v.items[k])) => (show RowP W L B N row.ownBlock U' v' (pre ++ [v] ++ ((v.items.take (k + 1)).map partsV).flatten) from by rw [parts_take _ _ hlt, ← List.append_assoc]; exact hR.more r))
      obtain ⟨xx1, yy1, rfl, _⟩ := p5.len
      clear p5 p6 g1 hR gz
      generalize v.items[k].items = xi at *
      generalize v.items[k] = x at *
      go_wp2_with (go_at_call 28; refine HC.out.mono ?_; clear HC; rintro e w5 ⟨v5, rfl, r5⟩; have R5 := hide (HM.out _ _ r5); clear r5 HM)
      go_roundw
      case rel => exact ⟨k + 1, by omega, by go_num, R5.out⟩
      case measure => simp [intOf]; omega
    · rw [List.take_of_length_le (by omega)] at hR
      have HR := hide (HEND.out _ _ _ hR)
      clear hR
      go_wp2
      go_ret
      refine ⟨_, rfl, ?_⟩
      rw [hP]
      simpa using HR.out
theorem refPartsC_n (N : Nat) : ∀ n, RefPartsH N n
  | 0 => fun _ _ _ _ _ _ _ _ _ _ _ h => h.elim
  | n + 1 => refPartsC_step (refPartsC_n N n)
set_option maxRecDepth 100000 in
/-- Parts: the value's parts, or none. -/
theorem refPartsC_k (v : Vl) (w : World) (n : Nat) (sl : Value) (hok : v.ok) (hv : v.size ≤ 1000000000) (hs : ItemsAt w w.heap.size n sl v.items) :
    Calls Tryz.prog 6 #[.agg (vcells v sl)] w fun e w' => (∃ s, e = .returned s ∧ ItemsAt w' w'.heap.size (n + 1) s (if rightV v then partsV v else [])) ∧ Below w.heap.size w w' := by
  obtain ⟨W, hW⟩ : ∃ W, w.alloc (.cells (vcells v sl) 25) = W := ⟨_, rfl⟩
  have bW : Below w.heap.size w W := by rw [← hW]; exact alloc_v (Below.refl _ _) _
  have e1 : W.heap[w.heap.size]? = some (.cells (vcells v sl) 25 (0, 0)) := by rw [← hW]; exact World.alloc_heap_new w _
  have zW : w.heap.size < W.heap.size := (Array.getElem?_eq_some_iff.1 e1).1
  have x0 := cells_at e1 0 _ rfl
  have x1 := cells_at e1 1 _ rfl
  have x2 := cells_at e1 2 _ rfl
  have x3 := cells_at e1 3 _ rfl
  have x4 := cells_at e1 4 _ rfl
  have HR := hide (refRight_k v W n sl hok.1 ((hs.below bW).up bW.size))
  have HD := hide (fun (U : World) (b : Below W.heap.size W U) => refPartsC_n n n v U w.heap.size U.heap.size sl (.slice none 0 0) [] (Nat.le_refl _) hok (trans_v bW b).size (Nat.le_refl _) (hs.below (trans_v bW b)) (RowS.nil _ _ _ _ _) (by simpa using hv))
  have HLN := hide (partsV_len v.size v (Nat.le_refl _))
  obtain ⟨a, c, rfl, _⟩ := hs.len
  clear hs e1
  generalize rightV v = x at *
  cases x
  · go_enter Tryz.func6, Tryz.ntmps6
    go_wp2_with (go_at_call 27; refine HR.out.mono ?_; clear HR; rintro e w2 ⟨rfl, b2⟩; have hc := (bcellV b2).1)
    go_ret
    exact ⟨⟨_, rfl, none, 0, rfl, by simp, fun j hj => absurd hj (by simp)⟩, trans_v bW b2⟩
  · go_enter Tryz.func6, Tryz.ntmps6
    go_wp2_with (first
      | (go_at_call 27; refine HR.out.mono ?_; clear HR; rintro e w2 ⟨rfl, b2⟩; have hc := (bcellV b2).1)
      | (go_at_call 28; refine (HD.out _ b2).mono ?_; clear HD; rintro e w3 ⟨v3, rfl, r3⟩; have b3 := hide (below_of_none r3.1.gr); have I3 := hide (r3.2.items (by have := b3.out.size; have := (trans_v bW b2).size; omega) (by rw [List.nil_append, HLN.out]; unfold maxLen; omega) (Nat.zero_le _)).at; clear r3))
    go_ret
    exact ⟨⟨v3, rfl, by simpa using I3.out⟩, trans_v (trans_v bW b2) b3.out⟩
end Go.Proofs.YtagolpdhjkcoeaaGreatDoor
