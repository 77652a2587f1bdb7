/- The reference's deep and Deep; Nodes of a value that is not right. -/
import Derived.Test.YtagolpdhjkcoeaaGreatDoorGSeq
import Derived.Test.YtagolpdhjkcoeaaGreatDoorZVEncode
namespace Go.Proofs.YtagolpdhjkcoeaaGreatDoor
open Go.RowKit

set_option maxRecDepth 100000 in
theorem nodes_no (v : Vl) (w : World) (n : Nat) (sl : Value) (hT : Tabs w) (htx : v.text.size ≤ 1048576) (hs : ItemsAt w w.heap.size n sl v.items) (hr : rightV v = false) :
    Calls Tryz.prog 45 #[.agg (vcells v sl)] w fun e w' => e = .returned (.int .i64 0) ∧ Below w.heap.size w w' := by
  obtain ⟨W, hW⟩ : ∃ W, w.alloc (.cells (vcells v sl) 25) = W := ⟨_, rfl⟩
  have bW : Below w.heap.size w W := by rw [← hW]; exact alloc_v (Below.refl _ _) _
  have e1 : W.heap[w.heap.size]? = some (.cells (vcells v sl) 25 (0, 0)) := by rw [← hW]; exact World.alloc_heap_new w _
  have zW : w.heap.size < W.heap.size := (Array.getElem?_eq_some_iff.1 e1).1
  have x0 := cells_at e1 0 _ rfl
  have x1 := cells_at e1 1 _ rfl
  have x2 := cells_at e1 2 _ rfl
  have x3 := cells_at e1 3 _ rfl
  have x4 := cells_at e1 4 _ rfl
  have HR := hide (right_k v W n sl (hT.below bW) htx ((hs.below bW).up bW.size))
  rw [hr] at HR
  obtain ⟨a, c, rfl, _⟩ := hs.len
  clear hs e1 hT hr
  go_enter Tryz.func45, Tryz.ntmps45
  go_wp2_with (go_at_call 29; refine HR.out.mono ?_; clear HR; rintro e w2 ⟨rfl, b2⟩; have hc := (bcellV b2).1)
  go_ret
  exact ⟨rfl, trans_v bW b2⟩
/-- Nodes. -/
theorem nodes_all (v : Vl) (w : World) (n : Nat) (sl : Value) (hT : Tabs w) (hok : v.ok) (hz : v.size ≤ 1000000000) (hs : ItemsAt w w.heap.size n sl v.items) :
    Calls Tryz.prog 45 #[.agg (vcells v sl)] w fun e w' => e = .returned (.int .i64 (if rightV v then (v.size : Int) else 0)) ∧ Below w.heap.size w w' := by
  cases h : rightV v
  · simpa using nodes_no v w n sl hT hok.1 hs h
  · simpa using nodes_k v w n sl hT hok hz hs h
end Go.Proofs.YtagolpdhjkcoeaaGreatDoor

/- The reference's parts and Parts: how many they are. -/
namespace Go.Proofs.YtagolpdhjkcoeaaGreatDoor
open Go.RowKit

/-- A row of values of one's own, put together since the world X: how many it holds. -/
structure RowN (X : World) (L : Nat) (g0 : Option Nat) (w : World) (v : Value) (k : Nat) : Prop where
  row : ∃ xs, w.ownsRow L 25 5 v k xs
  gr : X.grownBy w g0
  own : v.ownBlock = g0 ∨ ∀ k, v.ownBlock = some k → X.heap.size ≤ k
theorem RowN.start {X : World} {L : Nat} {v : Value} {k : Nat} (h : ∃ xs, X.ownsRow L 25 5 v k xs) : RowN X L v.ownBlock X v k := ⟨h, grown_self _ _, .inl rfl⟩
theorem RowN.below {X w w' : World} {L : Nat} {g0 : Option Nat} {v : Value} {k : Nat} (h : RowN X L g0 w v k) (hb : Below w.heap.size w w') : RowN X L g0 w' v k := by
  obtain ⟨xs, hr⟩ := h.row
  exact ⟨⟨xs, hr.kept (grown_of_below (r := none) hb) (by cases v.ownBlock <;> simp)⟩, grown_more h.gr (grown_of_below hb), h.own⟩
theorem RowN.more {X w w' : World} {L : Nat} {g0 : Option Nat} {v v' : Value} {k m : Nat} (h : RowN X L g0 w v k) (q : RowN w L v.ownBlock w' v' m) : RowN X L g0 w' v' m := by
  have hz := h.gr.size
  refine ⟨q.row, ⟨q.gr.os.trans h.gr.os, q.gr.tape.trans h.gr.tape, q.gr.output.trans h.gr.output, Nat.le_trans hz q.gr.size, fun j hj hne => ?_⟩, ?_⟩
  · refine (q.gr.block j (by omega) (fun e => ?_)).trans (h.gr.block j hj hne)
    rcases h.own with o | o
    · exact hne (e.trans o)
    · have := o j e.symm
      omega
  · rcases q.own with o | o
    · rw [o]
      exact h.own
    · exact .inr fun j hj => by have := o j hj; omega
/-- A value is laid behind. -/
theorem RowN.push {X W : World} {L : Nat} {g0 : Option Nat} {v : Value} {k : Nat} (h : RowN X L g0 W v k) (hL : L ≤ X.heap.size) (x : Vl) (sa : Option Addr) (sn sc : Nat) (hk : k + 1 ≤ 1000000000) (ty : TypeId) :
    ∃ v' w', (Builtin.append_ #[23, 23] ty #[v, .slice (some ⟨W.heap.size, 0, none⟩) 1 1]).run Tryz.prog (W.alloc (.cells #[.int .i64 x.kind, .int .i64 x.int, .int .i64 x.im, .string x.text, .slice sa sn sc] 25)) = .ok v' w' ∧ RowN X L g0 w' v' (k + 1) := by
  obtain ⟨i0, hi, hz0, hz1, hz2⟩ := info_partsV infoVal
  have hbA : Below W.heap.size W (W.alloc (.cells #[.int .i64 x.kind, .int .i64 x.int, .int .i64 x.im, .string x.text, .slice sa sn sc] 25)) := alloc_v (Below.refl _ _) _
  have eA := World.alloc_heap_new W (.cells #[.int .i64 x.kind, .int .i64 x.int, .int .i64 x.im, .string x.text, .slice sa sn sc] 25)
  have hA := h.below hbA
  have hz := h.gr.size
  obtain ⟨xs, hrA⟩ := hA.row
  obtain ⟨g, cap, w', hrun, A1, A2, A3, A4⟩ := run_append_lies (P := Tryz.prog) (W.alloc (.cells #[.int .i64 x.kind, .int .i64 x.int, .int .i64 x.im, .string x.text, .slice sa sn sc] 25)) 23 ty L 25 i0 _ 5 64 Tryz.underlying23 hi hz0 hz1 hz2 rfl (by decide) v k xs hrA ⟨W.heap.size, 0, none⟩ 1 1 (cells5 x (.slice sa sn sc)) rfl (fun j u hj => by
      rw [Addr.add_lit, Nat.zero_add]
      exact cells_at eA j u (by simpa [cells5] using hj)) (fun u hu => by simp [cells5] at hu; rcases hu with rfl | rfl | rfl | rfl | rfl <;> rfl) (by omega) (by unfold maxLen; omega) (by omega) (by rw [World.size_alloc]; omega) (W.heap.size + 1) (by rw [World.size_alloc])
  refine ⟨_, w', hrun, hA.more ⟨⟨_, A1⟩, A2, ?_⟩⟩
  rcases A3 with A3 | A3
  · exact .inl A3.symm
  · exact .inr fun k hk => by simp only [Value.ownBlock, Option.some.injEq] at hk; rw [World.size_alloc]; omega
theorem RowN.form {X w : World} {L : Nat} {g0 : Option Nat} {v : Value} {k : Nat} (h : RowN X L g0 w v k) : ∃ a c, v = .slice a k c := by
  obtain ⟨xs, hr⟩ := h.row
  rcases hr.2 with ⟨hv, h0⟩ | ⟨g, cap, cur, hv, _⟩
  · exact ⟨none, 0, by rw [hv, h0]⟩
  · exact ⟨_, _, hv⟩
def sumV (l : List Vl) : Nat := (l.map Vl.size).sum
theorem sum_take (l : List Vl) (k : Nat) (hk : k < l.length) : sumV (l.take (k + 1)) = sumV (l.take k) + l[k].size := by
  unfold sumV
  rw [List.take_succ_eq_append_getElem hk, List.map_append, List.sum_append]
  simp
theorem sum_le (l : List Vl) (k : Nat) : sumV (l.take k) ≤ sumV l := by
  have : sumV l = sumV (l.take k) + sumV (l.drop k) := by
    unfold sumV
    rw [← List.sum_append, ← List.map_append, List.take_append_drop]
  omega
def RefPartsC (n : Nat) : Prop := ∀ (v : Vl) (w : World) (B L : Nat) (sl row : Value) (k : Nat), B ≤ L → L ≤ w.heap.size → ItemsAt w B n sl v.items → (∃ xs, w.ownsRow L 25 5 row k xs) → k + v.size ≤ 1000000000 →
  Calls Tryz.prog 28 #[.agg (vcells v sl), row] w fun e w' => ∃ v', e = .returned v' ∧ RowN w L row.ownBlock w' v' (k + v.size)
set_option maxRecDepth 100000 in
set_option maxHeartbeats 1000000 in
theorem refParts_step {n : Nat} (hC : RefPartsC n) : RefPartsC (n + 1) := by
  intro v w B L sl row K hBL hL hi hr hK
  have HCC := hide hC
  have hve : v.size = sumV v.items + 1 := by have := Vl.size_eq v; unfold sumV; omega
  obtain ⟨a, c, rfl, hla⟩ := hi.len
  unfold maxLen at hla
  obtain ⟨W, hW⟩ : ∃ W, w.alloc (.cells (vcells v (.slice a v.items.length c)) 25) = W := ⟨_, rfl⟩
  have bW : Below w.heap.size w W := by rw [← hW]; exact alloc_v (Below.refl _ _) _
  have e1 : W.heap[w.heap.size]? = some (.cells (vcells v (.slice a v.items.length c)) 25 (0, 0)) := by rw [← hW]; exact World.alloc_heap_new w _
  have zW : w.heap.size < W.heap.size := (Array.getElem?_eq_some_iff.1 e1).1
  have hne : some w.heap.size ≠ row.ownBlock := fun e => by obtain ⟨xs, hr⟩ := hr; have := (hr.lt _ e.symm).2; omega
  have hbv : ∀ k, row.ownBlock = some k → B ≤ k := fun k e => by obtain ⟨xs, hr⟩ := hr; have := (hr.lt _ e).1; omega
  have HB := hide (fun (U : World) (g : W.grownBy U row.ownBlock) => (g.block _ zW hne).trans e1)
  have R0 := (RowN.start hr).below bW
  have RW : RowN W L row.ownBlock W row K := RowN.start R0.row
  have HEND := hide (fun (U : World) (v' : Value) (m : Nat) (q : RowN W L row.ownBlock U v' m) => R0.more q)
  have HI := hide (hi.below (bW.mono (by omega)))
  obtain ⟨v1, w1, hrun, r1⟩ := RW.push (by omega) v a v.items.length c (by omega) 23
  have HR2 := hide hrun
  have HR3 := hide r1
  have x0 := cells_at e1 0 _ rfl
  have x1 := cells_at e1 1 _ rfl
  have x2 := cells_at e1 2 _ rfl
  have x3 := cells_at e1 3 _ rfl
  have x4 := cells_at e1 4 _ rfl
  clear hi hC e1 hr R0 RW hrun r1
  go_enter Tryz.func28, Tryz.ntmps28
  go_wp2_with (at_builtin; refine Lib.wpList_append_run _ rfl (.tmp 6) (.tmp 8) 23 23 rfl _ _ rfl rfl _ _ HR2.out ?_; clear HR2)
  clear x0 x1 x2 x3 x4 hW
  go_loopw [1, 5] (fun b i wr => ∃ k : Nat, k ≤ v.items.length ∧ i = .int .i64 k ∧ RowN W L row.ownBlock wr b (K + 1 + sumV (v.items.take k))) (fun _ i _ => v.items.length - (intOf i).toNat)
  case atStart => exact ⟨0, Nat.zero_le _, rfl, by simpa [sumV] using HR3.out⟩
  case round =>
    obtain ⟨k, hk, rfl, hR⟩ := hrel
    have x4 := cells_at (HB.out wr hR.gr) 4 _ rfl
    by_cases hlt : k < v.items.length
    · obtain ⟨b1, o1, s1, rfl, g1, p0, p1, p2, p3, p4, p5, p6⟩ := (HI.out.grownO hR.gr hbv (by omega)).item k hlt
      have gz := hR.gr.size
      have l1 : b1 < wr.heap.size := by omega
      have HC := hide (HCC.out v.items[k] wr B L s1 _ _ hBL (by omega) p5 hR.row (by have := sum_take v.items k hlt; have := sum_le v.items (k + 1); omega))
      have HM := hide (fun (U' : World) (v' : Value) (r : RowN wr L _ U' v' (K + 1 + sumV (v.items.take k) + v.items[k].size)) => (show RowN W L row.ownBlock U' v' (K + 1 + sumV (v.items.take (k + 1))) from by rw [sum_take v.items k hlt, ← Nat.add_assoc]; exact hR.more r))
      obtain ⟨xx1, yy1, rfl, _⟩ := p5.len
      clear p5 p6 g1 hR gz
      generalize v.items[k].items = xi at *
      generalize v.items[k] = x at *
      go_wp2_with (go_at_call 28; refine HC.out.mono ?_; clear HC; rintro e w5 ⟨v5, rfl, r5⟩; have R5 := hide (HM.out _ _ r5); clear r5 HM)
      go_roundw
      case rel => exact ⟨k + 1, by omega, by go_num, R5.out⟩
      case measure => simp [intOf]; omega
    · rw [List.take_of_length_le (by omega)] at hR
      have HR := hide (HEND.out _ _ _ hR)
      clear hR
      go_wp2
      go_ret
      refine ⟨_, rfl, ?_⟩
      rw [hve]
      have := HR.out
      rwa [show K + 1 + sumV v.items = K + (sumV v.items + 1) by omega] at this
theorem refParts_n : ∀ n, RefPartsC n
  | 0 => fun _ _ _ _ _ _ _ _ _ h => h.elim
  | n + 1 => refParts_step (refParts_n n)
theorem below_of_none {w w' : World} (h : w.grownBy w' none) : Below w.heap.size w w' := ⟨h.os, h.tape, h.output, h.size, fun b hb => h.block b hb (by simp)⟩
set_option maxRecDepth 100000 in
/-- Parts: as many as the value has, or none. -/
theorem refParts_k (v : Vl) (w : World) (n : Nat) (sl : Value) (htx : v.text.size ≤ 1048576) (hv : v.size ≤ 1000000000) (hs : ItemsAt w w.heap.size n sl v.items) :
    Calls Tryz.prog 6 #[.agg (vcells v sl)] w fun e w' => (∃ a c, e = .returned (.slice a (if rightV v then v.size else 0) c)) ∧ Below w.heap.size w w' := by
  obtain ⟨W, hW⟩ : ∃ W, w.alloc (.cells (vcells v sl) 25) = W := ⟨_, rfl⟩
  have bW : Below w.heap.size w W := by rw [← hW]; exact alloc_v (Below.refl _ _) _
  have e1 : W.heap[w.heap.size]? = some (.cells (vcells v sl) 25 (0, 0)) := by rw [← hW]; exact World.alloc_heap_new w _
  have zW : w.heap.size < W.heap.size := (Array.getElem?_eq_some_iff.1 e1).1
  have x0 := cells_at e1 0 _ rfl
  have x1 := cells_at e1 1 _ rfl
  have x2 := cells_at e1 2 _ rfl
  have x3 := cells_at e1 3 _ rfl
  have x4 := cells_at e1 4 _ rfl
  have HR := hide (refRight_k v W n sl htx ((hs.below bW).up bW.size))
  have HD := hide (fun (U : World) (b : Below W.heap.size W U) => refParts_n n v U w.heap.size U.heap.size sl (.slice none 0 0) 0 (trans_v bW b).size (Nat.le_refl _) (hs.below (trans_v bW b)) ⟨[], ⟨rfl, .inl ⟨rfl, rfl⟩⟩⟩ (by omega))
  obtain ⟨a, c, rfl, _⟩ := hs.len
  clear hs e1
  generalize rightV v = x at *
  cases x
  · go_enter Tryz.func6, Tryz.ntmps6
    go_wp2_with (go_at_call 27; refine HR.out.mono ?_; clear HR; rintro e w2 ⟨rfl, b2⟩; have hc := (bcellV b2).1)
    go_ret
    exact ⟨⟨_, _, rfl⟩, trans_v bW b2⟩
  · go_enter Tryz.func6, Tryz.ntmps6
    go_wp2_with (first
      | (go_at_call 27; refine HR.out.mono ?_; clear HR; rintro e w2 ⟨rfl, b2⟩; have hc := (bcellV b2).1)
      | (go_at_call 28; refine (HD.out _ b2).mono ?_; clear HD; rintro e w3 ⟨v3, rfl, r3⟩; obtain ⟨va, vc, rfl⟩ := r3.form; have b3 := hide (below_of_none r3.gr); clear r3))
    go_ret
    exact ⟨⟨va, vc, by simp⟩, trans_v (trans_v bW b2) b3.out⟩
end Go.Proofs.YtagolpdhjkcoeaaGreatDoor
