/- Events of operations that are not right; the numbers of processes and objects, of both. -/
import Derived.Test.YtjcmajdaebpejaaDoorZHEvp
import Derived.Test.YtjcmajdaebpejaaDoorGHRfA
import Derived.Test.YtjcmajdaebpejaaDoorGHTl
import Derived.Test.YtjcmajdaebpejaaDoorGHRfE
import Derived.Test.YtjcmajdaebpejaaDoorGHMkG
import Derived.Test.YtjcmajdaebpejaaDoorGHHd
import Derived.Test.YtjcmajdaebpejaaDoorZHLaidL
import Derived.Test.YtjcmajdaebpejaaDoorGHOpG
import Derived.ChangeMaps5
namespace Go.Proofs.YtjcmajdaebpejaaDoor
open Go.RowKit Go.Maps

theorem idxFrom_fnd (l : List (List UInt8)) (s : List UInt8) : ∀ i : Nat, Lib.idxFromS (l.map bsN) (bsN s) i = if s ∈ l then ((i + l.idxOf s : Nat) : Int) else -1 := by
  induction l with
  | nil => intro i; simp [Lib.idxFromS]
  | cons x l ih =>
    intro i
    rw [List.map_cons, Lib.idxFromS]
    by_cases e : x = s
    · subst e
      simp
    · rw [if_neg (fun h => e (bsN_inj h)), ih (i + 1)]
      by_cases hm : s ∈ l
      · have hi : (x :: l).idxOf s = l.idxOf s + 1 := by rw [List.idxOf_cons, show (x == s) = false from by simpa using e]; rfl
        rw [if_pos hm, if_pos (List.mem_cons_of_mem _ hm), hi]
        omega
      · rw [if_neg hm, if_neg (fun h => (List.mem_cons.1 h).elim (fun h => e h.symm) hm)]
/-- Both look up alike. -/
theorem idxN_fnd (l : List (List UInt8)) (s : List UInt8) : idxN l s = fnd l s := by
  unfold idxN Lib.idxOfS
  rw [idxFrom_fnd]
  unfold fnd
  simp
set_option maxRecDepth 100000 in
set_option maxHeartbeats 4000000 in
theorem eventsN_k (w : World) (n : Nat) (v0 v1 v2 : Value) (P O : List (List UInt8)) (cs : List HV) (hT : TabL w) (h : HPast w w.heap.size (n + 1) v0 v1 v2 P O cs) (hcs : cs.length ≤ 100000000) (hno : ¬ ToldOk P O cs) :
    Calls Tryd.prog 4 #[.agg #[v0, v1, v2]] w fun r w' => r = .returned (.tuple #[.slice none 0 0, .int .i64 2]) ∧ Below w.heap.size w w' := by
  obtain ⟨a0, c0, rfl, hl0⟩ := h.pr.len
  obtain ⟨a1, c1, rfl, hl1⟩ := h.ob.len
  obtain ⟨a2, c2, rfl, hl2⟩ := h.cl.len
  obtain ⟨W, hW⟩ : ∃ W, w.alloc (.cells #[.slice a0 P.length c0, .slice a1 O.length c1, .slice a2 cs.length c2] 25) = W := ⟨_, rfl⟩
  have bW : Below w.heap.size w W := by rw [← hW]; exact alloc_v (Below.refl _ _) _
  have e1 : W.heap[w.heap.size]? = some (.cells #[.slice a0 P.length c0, .slice a1 O.length c1, .slice a2 cs.length c2] 25 (0, 0)) := by rw [← hW]; exact World.alloc_heap_new w _
  have HLD : Hid (Calls Tryd.prog 14 #[.agg #[.slice a0 P.length c0, .slice a1 O.length c1, .slice a2 cs.length c2]] W fun e w1 => e = .returned (.tuple #[.slice none 0 0, .int .i64 2]) ∧ Below w.heap.size w w1) := by
    refine hide ((told_k W n _ _ _ P O cs (hT.below bW) ((h.below bW).up bW.size) hcs).mono ?_)
    rintro r w1 ⟨⟨v, rfl, hres⟩, b1⟩
    rcases hres with ⟨rfl, _⟩ | ⟨E1, g, L, hl1', hag, _⟩
    · exact ⟨rfl, trans_v bW b1⟩
    · exact absurd ⟨E1, hl1', hag⟩ hno
  have x0 := cells_at e1 0 _ rfl
  have x1 := cells_at e1 1 _ rfl
  have x2 := cells_at e1 2 _ rfl
  clear h hT e1 hno
  go_enter Tryd.func4, Tryd.ntmps4
  go_wp2_with (go_at_call 14; refine HLD.out.mono ?_; clear HLD; rintro r w1 ⟨rfl, b1⟩; have HB := hide b1; clear b1)
  clear x0 x1 x2
  go_loopw [6, 7, 15] (fun _ _ i wr => i = .int .i64 0 ∧ Below w.heap.size w wr) (fun _ _ i _ => 0)
  case atStart => exact ⟨rfl, HB.out⟩
  case round =>
    clear HB
    obtain ⟨rfl, hb⟩ := hrel
    go_wp2
    go_ret2
    exact ⟨rfl, hb⟩
theorem objectP_k (w : World) (v0 v1 v2 : Value) (P : List (List UInt8)) (h0 : NamesAt w w.heap.size v1 P) (hv1 : ∃ a m c, v0 = .slice a m c) (hv2 : ∃ a m c, v2 = .slice a m c) (s : List UInt8) :
    Calls Tryd.prog 11 #[.agg #[v0, v1, v2], .string (bsN s)] w fun e w' => e = .returned (.int .i64 (idxN P s)) ∧ Below w.heap.size w w' := by
  obtain ⟨a0, c0, rfl, hl0⟩ := h0.len
  obtain ⟨a1, m1, c1, rfl⟩ := hv1
  obtain ⟨a2, m2, c2, rfl⟩ := hv2
  obtain ⟨W, hW⟩ : ∃ W, w.alloc (.cells #[.slice a1 m1 c1, .slice a0 P.length c0, .slice a2 m2 c2] 25) = W := ⟨_, rfl⟩
  have bW : Below w.heap.size w W := by rw [← hW]; exact alloc_v (Below.refl _ _) _
  have e1 : W.heap[w.heap.size]? = some (.cells #[.slice a1 m1 c1, .slice a0 P.length c0, .slice a2 m2 c2] 25 (0, 0)) := by rw [← hW]; exact World.alloc_heap_new w _
  have hC : Calls Tryd.prog 20 #[.slice a0 P.length c0, .string (bsN s)] W fun e w' => e = .returned (.int .i64 (idxN P s)) ∧ W = w' := by
    rcases Nat.eq_zero_or_pos P.length with hp | hp
    · have e : P = [] := List.eq_nil_of_length_eq_zero hp
      subst e
      refine (Tryd.slices_Index_string_empty a0 c0 (bsN s) W).mono ?_
      rintro e w' ⟨rfl, rfl⟩
      exact ⟨rfl, rfl⟩
    · obtain ⟨b1, o1, rfl, hc⟩ := (h0.below bW).rowS hp
      refine (Tryd.slices_Index_string b1 o1 P.length c0 (P.map bsN) (bsN s) W (by simp) (by omega) hc).mono ?_
      rintro e w' ⟨rfl, rfl⟩
      refine ⟨?_, rfl⟩
      rw [List.take_of_length_le (by simp)]
      rfl
  have HC := hide hC
  have x0 := cells_at e1 1 _ rfl
  clear hC h0 e1
  go_enter Tryd.func11, Tryd.ntmps11
  go_wp2_with (go_at_call 20; refine HC.out.mono ?_; clear HC; rintro r w1 ⟨rfl, rfl⟩)
  go_ret
  exact ⟨rfl, bW⟩
theorem refProc_k (w : World) (v0 v1 v2 : Value) (P : List (List UInt8)) (h0 : NamesAt w w.heap.size v0 P) (hv1 : ∃ a m c, v1 = .slice a m c) (hv2 : ∃ a m c, v2 = .slice a m c) (s : List UInt8) :
    Calls Tryd.prog 10 #[.agg #[v0, v1, v2], .string (bsN s)] w fun e w' => e = .returned (.int .i64 (fnd P s)) ∧ Below w.heap.size w w' := by
  obtain ⟨a0, c0, rfl, hl0⟩ := h0.len
  obtain ⟨a1, m1, c1, rfl⟩ := hv1
  obtain ⟨a2, m2, c2, rfl⟩ := hv2
  obtain ⟨W, hW⟩ : ∃ W, w.alloc (.cells #[.slice a0 P.length c0, .slice a1 m1 c1, .slice a2 m2 c2] 25) = W := ⟨_, rfl⟩
  have bW : Below w.heap.size w W := by rw [← hW]; exact alloc_v (Below.refl _ _) _
  have e1 : W.heap[w.heap.size]? = some (.cells #[.slice a0 P.length c0, .slice a1 m1 c1, .slice a2 m2 c2] 25 (0, 0)) := by rw [← hW]; exact World.alloc_heap_new w _
  have HC := hide (find_k7 P s W w.heap.size (.slice a0 P.length c0) (h0.below bW) bW.size)
  have x0 := cells_at e1 0 _ rfl
  clear h0 e1
  go_enter Tryd.func10, Tryd.ntmps10
  go_wp2_with (go_at_call 21; refine HC.out.mono ?_; clear HC; rintro r w1 ⟨rfl, rfl⟩)
  go_ret
  exact ⟨rfl, bW⟩
theorem refObject_k (w : World) (v0 v1 v2 : Value) (P : List (List UInt8)) (h0 : NamesAt w w.heap.size v1 P) (hv1 : ∃ a m c, v0 = .slice a m c) (hv2 : ∃ a m c, v2 = .slice a m c) (s : List UInt8) :
    Calls Tryd.prog 12 #[.agg #[v0, v1, v2], .string (bsN s)] w fun e w' => e = .returned (.int .i64 (fnd P s)) ∧ Below w.heap.size w w' := by
  obtain ⟨a0, c0, rfl, hl0⟩ := h0.len
  obtain ⟨a1, m1, c1, rfl⟩ := hv1
  obtain ⟨a2, m2, c2, rfl⟩ := hv2
  obtain ⟨W, hW⟩ : ∃ W, w.alloc (.cells #[.slice a1 m1 c1, .slice a0 P.length c0, .slice a2 m2 c2] 25) = W := ⟨_, rfl⟩
  have bW : Below w.heap.size w W := by rw [← hW]; exact alloc_v (Below.refl _ _) _
  have e1 : W.heap[w.heap.size]? = some (.cells #[.slice a1 m1 c1, .slice a0 P.length c0, .slice a2 m2 c2] 25 (0, 0)) := by rw [← hW]; exact World.alloc_heap_new w _
  have HC := hide (find_k7 P s W w.heap.size (.slice a0 P.length c0) (h0.below bW) bW.size)
  have x0 := cells_at e1 1 _ rfl
  clear h0 e1
  go_enter Tryd.func12, Tryd.ntmps12
  go_wp2_with (go_at_call 21; refine HC.out.mono ?_; clear HC; rintro r w1 ⟨rfl, rfl⟩)
  go_ret
  exact ⟨rfl, bW⟩
end Go.Proofs.YtjcmajdaebpejaaDoor

/- Events and Check of both: they answer the same. -/
namespace Go.Proofs.YtjcmajdaebpejaaDoor
open Go.RowKit Go.Maps

/-- What the reference takes is what the program takes, and it is the same. -/
theorem told_laidR {P O : List (List UInt8)} {cs : List HV} {E : List EV} (h : laidM P O cs = some E) (hag : AgreeM P O cs (E.map (·.1))) : MadeBy P O cs (E.map (·.1)) ∧ laidR P O cs cs.length = some (E.map (·.1)) := by
  have hm := told_made h hag
  obtain ⟨E', h1, h2, _⟩ := hm.told
  obtain rfl : E' = E := Option.some.inj (h1.symm.trans h)
  refine ⟨hm, ?_⟩
  rw [hm.laidR, ← h2]
set_option maxRecDepth 100000 in
theorem refCheck_k (w : World) (a0 a1 a2 : Option Addr) (m0 m1 m2 c0 c1 c2 : Nat) (c : Int) (Q : World → Value → Prop)
    (h : ∀ U, Below w.heap.size w U → Calls Tryd.prog 5 #[.agg #[.slice a0 m0 c0, .slice a1 m1 c1, .slice a2 m2 c2]] U fun e w' => (∃ va vm vc, e = .returned (.tuple #[.slice va vm vc, .int .i64 c]) ∧ Q w' (.slice va vm vc)) ∧ Below U.heap.size U w') :
    Calls Tryd.prog 7 #[.agg #[.slice a0 m0 c0, .slice a1 m1 c1, .slice a2 m2 c2]] w fun e w' => e = .returned (.int .i64 c) ∧ Below w.heap.size w w' := by
  obtain ⟨W, hW⟩ : ∃ W, w.alloc (.cells #[.slice a0 m0 c0, .slice a1 m1 c1, .slice a2 m2 c2] 25) = W := ⟨_, rfl⟩
  have bW : Below w.heap.size w W := by rw [← hW]; exact alloc_v (Below.refl _ _) _
  have e1 : W.heap[w.heap.size]? = some (.cells #[.slice a0 m0 c0, .slice a1 m1 c1, .slice a2 m2 c2] 25 (0, 0)) := by rw [← hW]; exact World.alloc_heap_new w _
  have HE := hide (h W bW)
  have x0 := cells_at e1 0 _ rfl
  have x1 := cells_at e1 1 _ rfl
  have x2 := cells_at e1 2 _ rfl
  clear h e1
  go_enter Tryd.func7, Tryd.ntmps7
  go_wp2_with (go_at_call 5; refine HE.out.mono ?_; clear HE; rintro r w1 ⟨⟨va, vm, vc, rfl, _⟩, b1⟩; have HB := hide (trans_v bW b1); clear b1)
  go_ret
  exact ⟨rfl, HB.out⟩
/-- What Events and Check answer, on both sides. -/
structure ChkBoth (n : Nat) (v0 v1 v2 : Value) (c : Int) (L : List Evn) (U : World) : Prop where
  ev : Calls Tryd.prog 4 #[.agg #[v0, v1, v2]] U fun e w' => (∃ va vm vc, e = .returned (.tuple #[.slice va vm vc, .int .i64 c]) ∧ EvsAt w' w'.heap.size (n + 1) (.slice va vm vc) L) ∧ Below U.heap.size U w'
  rev : Calls Tryd.prog 5 #[.agg #[v0, v1, v2]] U fun e w' => (∃ va vm vc, e = .returned (.tuple #[.slice va vm vc, .int .i64 c]) ∧ EvsAt w' w'.heap.size (n + 1) (.slice va vm vc) L) ∧ Below U.heap.size U w'
  ck : Calls Tryd.prog 6 #[.agg #[v0, v1, v2]] U fun e w' => e = .returned (.int .i64 c) ∧ Below U.heap.size U w'
  rck : Calls Tryd.prog 7 #[.agg #[v0, v1, v2]] U fun e w' => e = .returned (.int .i64 c) ∧ Below U.heap.size U w'
theorem chk_both (n : Nat) (v0 v1 v2 : Value) (P O : List (List UInt8)) (cs : List HV) (hcs : cs.length ≤ 100000000) : ∃ (c : Int) (L : List Evn), ∀ U, TabL U → HPast U U.heap.size (n + 1) v0 v1 v2 P O cs → ChkBoth n v0 v1 v2 c L U := by
  by_cases ht : ToldOk P O cs
  · obtain ⟨E, hlm, hag⟩ := ht
    have hEl : E.length ≤ 200000000 := by
      have h1 := laidN_len cs.length E hlm
      have h2 := placesN_le cs cs.length
      unfold placesM at h1
      omega
    obtain ⟨hmb, hlr⟩ := told_laidR hlm hag
    refine ⟨0, E.map (·.1), fun U hT h => ?_⟩
    have hrev : ∀ V, Below U.heap.size U V → Calls Tryd.prog 5 #[.agg #[v0, v1, v2]] V fun e w' => (∃ va vm vc, e = .returned (.tuple #[.slice va vm vc, .int .i64 0]) ∧ EvsAt w' w'.heap.size (n + 1) (.slice va vm vc) (E.map (·.1))) ∧ Below V.heap.size V w' := fun V hV => by
      refine (refEvents_k V n v0 v1 v2 P O cs ((h.below hV).up hV.size) hcs).mono ?_
      rintro e w' ⟨⟨v, code, rfl, hr⟩, hb⟩
      refine ⟨?_, hb⟩
      rcases hr with ⟨rfl, E2, h1, _, h3⟩ | ⟨_, _, hno⟩
      · obtain rfl : E.map (·.1) = E2 := Option.some.inj (hlr.symm.trans h1)
        obtain ⟨a, c, rfl, _⟩ := h3.len
        exact ⟨_, _, _, rfl, h3⟩
      · exact absurd hmb (hno _ hlr)
    refine ⟨?_, hrev U (Below.refl _ _), ?_, ?_⟩
    · refine (eventsP_k U n v0 v1 v2 P O cs hT h hcs E hlm hag (by omega)).mono ?_
      rintro e w' ⟨⟨g, E', rfl, hh⟩, hb⟩
      exact ⟨⟨_, _, _, rfl, hh.evs (by omega) (laidN_good h cs.length E hlm)⟩, hb⟩
    · refine (checkP_k U n v0 v1 v2 P O cs hT h hcs).mono ?_
      rintro e w' ⟨⟨k, rfl, hk⟩, hb⟩
      rcases hk with ⟨rfl, _⟩ | ⟨_, hno⟩
      · exact ⟨rfl, hb⟩
      · exact absurd ⟨E, hlm, hag⟩ hno
    · obtain ⟨a0, c0, rfl, _⟩ := h.pr.len
      obtain ⟨a1, c1, rfl, _⟩ := h.ob.len
      obtain ⟨a2, c2, rfl, _⟩ := h.cl.len
      exact refCheck_k U a0 a1 a2 _ _ _ c0 c1 c2 0 (fun w' v => EvsAt w' w'.heap.size (n + 1) v (E.map (·.1))) hrev
  · refine ⟨2, [], fun U hT h => ?_⟩
    have hnil : ∀ V : World, EvsAt V V.heap.size (n + 1) (.slice none 0 0) [] := fun V => ⟨none, 0, rfl, Nat.zero_le _, fun j hj => by simp at hj⟩
    have hrev : ∀ V, Below U.heap.size U V → Calls Tryd.prog 5 #[.agg #[v0, v1, v2]] V fun e w' => (∃ va vm vc, e = .returned (.tuple #[.slice va vm vc, .int .i64 2]) ∧ EvsAt w' w'.heap.size (n + 1) (.slice va vm vc) []) ∧ Below V.heap.size V w' := fun V hV => by
      refine (refEvents_k V n v0 v1 v2 P O cs ((h.below hV).up hV.size) hcs).mono ?_
      rintro e w' ⟨⟨v, code, rfl, hr⟩, hb⟩
      refine ⟨?_, hb⟩
      rcases hr with ⟨_, E2, h1, h2, h3⟩ | ⟨rfl, rfl, _⟩
      · obtain ⟨E', k1, _, k3⟩ := h2.told
        exact absurd ⟨E', k1, k3⟩ ht
      · exact ⟨_, _, _, rfl, hnil _⟩
    refine ⟨?_, hrev U (Below.refl _ _), ?_, ?_⟩
    · refine (eventsN_k U n v0 v1 v2 P O cs hT h hcs ht).mono ?_
      rintro e w' ⟨rfl, hb⟩
      exact ⟨⟨_, _, _, rfl, hnil _⟩, hb⟩
    · refine (checkP_k U n v0 v1 v2 P O cs hT h hcs).mono ?_
      rintro e w' ⟨⟨k, rfl, hk⟩, hb⟩
      rcases hk with ⟨_, hy⟩ | ⟨rfl, _⟩
      · exact absurd hy ht
      · exact ⟨rfl, hb⟩
    · obtain ⟨a0, c0, rfl, _⟩ := h.pr.len
      obtain ⟨a1, c1, rfl, _⟩ := h.ob.len
      obtain ⟨a2, c2, rfl, _⟩ := h.cl.len
      exact refCheck_k U a0 a1 a2 _ _ _ c0 c1 c2 2 (fun w' v => EvsAt w' w'.heap.size (n + 1) v []) hrev
end Go.Proofs.YtjcmajdaebpejaaDoor

/- HistoryChecks answers true: the walk. -/
namespace Go.Proofs.YtjcmajdaebpejaaDoor
open Go.RowKit Go.Maps

set_option maxRecDepth 100000 in
set_option maxHeartbeats 8000000 in
theorem historyChecks_walk (P O : List (List UInt8)) (cs : List HV) (s : List UInt8) (w : World) (n : Nat) (v0 v1 v2 : Value) (hT : TabL w) (h : HPast w w.heap.size (n + 1) v0 v1 v2 P O cs) (hcs : cs.length ≤ 100000000) :
    Calls Tryd.prog 3 #[.agg #[v0, v1, v2], .string (bsN s)] w fun e w' => e = .returned (.bool true) ∧ Below w.heap.size w w' := by
  obtain ⟨c, L, hB⟩ := chk_both n v0 v1 v2 P O cs hcs
  obtain ⟨a0, c0, rfl, hl0⟩ := h.pr.len
  obtain ⟨a1, c1, rfl, hl1⟩ := h.ob.len
  obtain ⟨a2, c2, rfl, hl2⟩ := h.cl.len
  obtain ⟨W, hW⟩ : ∃ W, w.alloc (.cells #[.slice a0 P.length c0, .slice a1 O.length c1, .slice a2 cs.length c2] 25) = W := ⟨_, rfl⟩
  have bW : Below w.heap.size w W := by rw [← hW]; exact alloc_v (Below.refl _ _) _
  have e1 : W.heap[w.heap.size]? = some (.cells #[.slice a0 P.length c0, .slice a1 O.length c1, .slice a2 cs.length c2] 25 (0, 0)) := by rw [← hW]; exact World.alloc_heap_new w _
  have zW : W.heap.size = w.heap.size + 1 := by rw [← hW]; simp
  have HB := hide (fun (U : World) (b : Below w.heap.size w U) => hB U (hT.below b) ((h.below b).up b.size))
  have HEV := hide (HB.out W bW).ev
  have HT := hide hT
  have HH := hide h
  have HE := hide e1
  have HZ := hide zW
  have x0 := cells_at e1 0 _ rfl
  have x1 := cells_at e1 1 _ rfl
  have x2 := cells_at e1 2 _ rfl
  clear hT h hB zW e1
  go_enter Tryd.func3, Tryd.ntmps3
  go_upto_region 2 with (go_at_call 4; refine HEV.out.mono ?_; clear HEV; rintro r w2 ⟨⟨ua, um, uc, rfl, hev⟩, b2⟩; have EV1 := hide hev; have B2 := hide b2; clear hev b2)
  clear x0 x1 x2
  have e2 := (B2.out.block w.heap.size (by have := HZ.out; omega)).trans HE.out
  have x0 := cells_at e2 0 _ rfl
  have x1 := cells_at e2 1 _ rfl
  have x2 := cells_at e2 2 _ rfl
  have HE2 := hide e2
  have HRV := hide (HB.out w2 (trans_v bW B2.out)).rev
  clear e2
  go_upto_region 3 with (go_at_call 5; refine HRV.out.mono ?_; clear HRV; rintro r w3 ⟨⟨ta, tm, tc, rfl, hev⟩, b3⟩; have EV2 := hide hev; have B3 := hide b3; clear hev b3)
  clear x0 x1 x2
  have bw2 := trans_v bW B2.out
  have z2 : w.heap.size < w2.heap.size := by have := B2.out.size; have := HZ.out; omega
  have e3 := (B3.out.block w.heap.size z2).trans HE2.out
  have bw3 := trans_v bw2 B3.out
  have up := fun q : Wv w3 => trans_v bw3 q.below
  have x0 := fun q : Wv w3 => q.cell (cells_at e3 0 _ rfl)
  have x1 := fun q : Wv w3 => q.cell (cells_at e3 1 _ rfl)
  have x2 := fun q : Wv w3 => q.cell (cells_at e3 2 _ rfl)
  have HCK := hide (fun q : Wv w3 => Wv.calls q (HB.out q.val (up q)).ck)
  have HRC := hide (fun q : Wv w3 => Wv.calls q (HB.out q.val (up q)).rck)
  have HSE := hide (fun q : Wv w3 => Wv.calls q (sameE_yes L L q.val (n + 1) (n + 1) (.slice ua um uc) (.slice ta tm tc) ((EV1.out.below (trans_v B3.out q.below)).up (trans_v B3.out q.below).size) ((EV2.out.below q.below).up q.below.size) rfl (fun j _ _ => EqE.refl _)))
  have HPR := hide (fun q : Wv w3 => Wv.calls q (procP_k q.val (.slice a0 P.length c0) (.slice a1 O.length c1) (.slice a2 cs.length c2) P ((HH.out.pr.below (up q)).up (up q).size) ⟨_, _, _, rfl⟩ ⟨_, _, _, rfl⟩ s))
  have HRP := hide (fun q : Wv w3 => Wv.calls q (refProc_k q.val (.slice a0 P.length c0) (.slice a1 O.length c1) (.slice a2 cs.length c2) P ((HH.out.pr.below (up q)).up (up q).size) ⟨_, _, _, rfl⟩ ⟨_, _, _, rfl⟩ s))
  have HOB := hide (fun q : Wv w3 => Wv.calls q (objectP_k q.val (.slice a0 P.length c0) (.slice a1 O.length c1) (.slice a2 cs.length c2) O ((HH.out.ob.below (up q)).up (up q).size) ⟨_, _, _, rfl⟩ ⟨_, _, _, rfl⟩ s))
  have HRO := hide (fun q : Wv w3 => Wv.calls q (refObject_k q.val (.slice a0 P.length c0) (.slice a1 O.length c1) (.slice a2 cs.length c2) O ((HH.out.ob.below (up q)).up (up q).size) ⟨_, _, _, rfl⟩ ⟨_, _, _, rfl⟩ s))
  have HHD := hide (fun q : Wv w3 => Wv.calls q (heads7_k q.val (HT.out.below (up q))))
  rw [idxN_fnd] at HPR HOB
  generalize fnd P s = fp at *
  generalize fnd O s = fo at *
  have hany := Wv.any w3
  have FIN := hide up
  clear up e3 bw2 bw3 bW
  refine wp_region_grown (by kernel_rfl) (by kernel_rfl) ?_
  repeat (go_big_quiet_step (first
    | (go_at_call 6; with_reducible exact (HCK.out _))
    | (go_at_call 7; with_reducible exact (HRC.out _))
    | (go_at_call 8; with_reducible exact (HSE.out _))
    | (go_at_call 9; with_reducible exact (HPR.out _))
    | (go_at_call 10; with_reducible exact (HRP.out _))
    | (go_at_call 11; with_reducible exact (HOB.out _))
    | (go_at_call 12; with_reducible exact (HRO.out _))
    | (go_at_call 13; with_reducible exact (HHD.out _))))
  refine wpQuiet_nil ?_
  intro w4 hw'
  obtain ⟨q, rfl⟩ := hw'
  go_wp2
  go_ret
  exact ⟨rfl, FIN.out q⟩
end Go.Proofs.YtjcmajdaebpejaaDoor

/- HistoryChecks answers true for all operations made by hand and every name, up to the bulk of its upto statement. -/
namespace Go.Proofs.YtjcmajdaebpejaaDoor.historyChecks
open Go.ChangeShapes Go.WideShapes Go.ChangeAt Go.RowKit
open Go.ChangeMaps (open_string)

set_option maxRecDepth 100000 in
theorem contract (H : Type) (enc : TypeId × Value → H) (W : World) (base : Nat) (args : Array Value) (ds gs : List (DataW H)) (before : List MemPlace)
    (hval : ∀ (j : Nat) t v, Tryd.f3.params[j]? = some t → args[j]? = some v → Value.okWide Tryd.prog W .any base t v)
    (hW : DataW.Whole enc Tryd.prog Tryd.f3.params.toList Rows.historyChecksSpec.vars false W args.toList ds gs before) (hL : laidMetH Tryd.prog laidLL W) (hk : Rows.uptoBulkAll (ds ++ gs) ≤ 1048576) :
    Calls Tryd.prog 3 args W fun e W' => ∃ v, e = .returned v ∧ Rows.historyChecksSpec.post enc Tryd.prog Tryd.f3 false true false false W args v W' := by
  have hW' := hW
  obtain ⟨p, q, hA0, hV, rfl, hfz, hnd⟩ := hW
  have hA : DataW.TrodAll enc Tryd.prog W 0 (fun _ => true) true Tryd.f3.params.toList args.toList ds p := hA0
  rw [Tryd.params3] at hA hval
  obtain ⟨v0, vs0, d0, ds0, p0, q0, hargs, rfl, rfl, h0, r0⟩ := trodAll_cons hA
  obtain ⟨v1, vs1, d1, ds1, p1, q1, rfl, rfl, rfl, h1, r1⟩ := trodAll_cons r0
  obtain ⟨rfl, rfl, rfl⟩ := trodAll_nil r1
  obtain rfl : args = #[v0, v1] := by cases args; simp_all
  obtain ⟨rfl, rfl⟩ := trodVars_none hV
  simp only [List.append_nil, Rows.uptoBulkAll] at hk
  obtain ⟨cs0, rfl, _⟩ := okWide_struct Tryd.underlying25 (hval 0 25 v0 rfl rfl)
  have k0 := h0
  have lt0 : ∀ x ∈ p0, x.block < W.heap.size := by obtain ⟨m, hm⟩ := k0; exact DataW.trod_lt m _ _ _ hm
  obtain ⟨fuel0, hf0⟩ := h0
  obtain ⟨x0, y0, z0, P0, O0, l0, ecs0, hI0, hs0⟩ := open_past (cs := cs0.toList) hf0 (by omega)
  obtain rfl : cs0 = #[x0, y0, z0] := by cases cs0; simpa using ecs0
  have h1' := h1
  obtain ⟨s1, rfl, rfl, rfl, _⟩ := open_string Tryd.underlying9 (hval 1 9 v1 rfl rfl) h1
  clear hA0
  simp only [List.append_nil] at hW'
  have hlen1 : s1.data.toList.length = s1.size := by rw [Array.length_toList]; rfl
  refine (historyChecks_walk P0 O0 l0 s1.data.toList W _ _ _ _ (tabL_of_laid hL) hI0 (by omega)).mono fun e W' ⟨he, bel⟩ => ?_
  subst he
  exact ⟨_, rfl, _, _, _, [], _, [], hW', trodAll_mk1 (shut_bool Tryd.underlying4 _), trodAll_cons_mk (Below.trod laidOut (by kernel_rfl) (of_decide_eq_true (by kernel_rfl)) k0 bel lt0) (trodAll_cons_mk (Below.trod laidOut (by kernel_rfl) (of_decide_eq_true (by kernel_rfl)) h1' bel (fun x hx => by cases hx)) trodAll_mk0), rfl, bel.frame _, fun h => by cases h⟩

theorem laid_met (os : Os) : laidMet Tryd.prog Rows.historyChecksUptoRow.laid ((laidWorld os).forCall (fun _ _ => 0) ⟨#[], #[.agg #[.slice none 0 0, .slice none 0 0, .slice none 0 0], .string ⟨#[]⟩], []⟩).memory :=
  laidMet_of_run' 8 (by kernel_rfl) (by kernel_rfl)
theorem reads (os : Os) {H : Type} (enc : TypeId × Value → H) : ∃ places, DataW.whole enc Tryd.prog ((laidWorld os).forCall (fun _ _ => 0) ⟨#[], #[.agg #[.slice none 0 0, .slice none 0 0, .slice none 0 0], .string ⟨#[]⟩], []⟩).memory Tryd.f3.params.toList Rows.historyChecksSpec.vars false #[Value.agg #[.slice none 0 0, .slice none 0 0, .slice none 0 0], Value.string ⟨#[]⟩].toList 8 = some ([.agg [.nil, .nil, .nil], .lit (.string [])], [], places) :=
  ⟨[], by kernel_rfl⟩

set_option maxRecDepth 100000 in
theorem liftedUpto (os : Os) (started : os.Started) (H : Type) (enc : TypeId × Value → H) (F : Stop.Interp) :
    ReturnsInHanded {} Tryd.checked os 3 .any ((Rows.OpenSpec.upto Rows.historyChecksSpec).preRow enc Tryd.prog Tryd.f3 Rows.historyChecksUptoRow.domain false Rows.historyChecksUptoRow.laid) (((Rows.OpenSpec.upto Rows.historyChecksSpec).at F).post enc Tryd.prog Tryd.f3 false true false false) := by
  obtain ⟨places, hx⟩ := reads os enc
  refine returnsInHanded_of_row (C := Tryd.checked) (s := Rows.OpenSpec.upto Rows.historyChecksSpec) own started (by kernel_rfl) Tryd.func3
    (witness_row_at (enc := enc) (C := Tryd.checked) false (laidWorld os) #[.agg #[.slice none 0 0, .slice none 0 0, .slice none 0 0], .string ⟨#[]⟩] rfl (by kernel_rfl) (by kernel_rfl) (by kernel_rfl)
      (OpenSpec.preRow_of_cond 8 hx (by kernel_rfl) (fun k hk => by cases hk; kernel_rfl) (by kernel_rfl) (laid_met os))) ?_
  intro W base args ds gs before hval hW _ hcond _ hL _ _
  exact contract H enc W base args ds gs before hval hW hL (of_decide_eq_true (hcond _ rfl))

theorem saidUpto : Rows.HistoryChecksUptoSaid :=
  OpenClaim.holds_of_cond 3 Tryd.f3 rfl rfl rfl rfl rfl rfl rfl ⟨rfl, rfl, rfl, rfl, rfl⟩ rfl rfl rfl rfl rfl (by kernel_rfl) Tryd.func3 (by kernel_rfl)
    (of_decide_eq_true (by kernel_rfl)) (by unfold Func.isWrapper; first | (rw [if_pos (by decide +kernel)]; kernel_rfl) | (rw [if_neg (by decide +kernel)]; exact ⟨rfl, rfl⟩))
    (fun os started H enc _ F => by rw [OpenClaim.pre_eq_preRow]; exact liftedUpto os started H enc F)

theorem plain (f : FuncId) (fn : Func) (hf : Tryd.pinned.checked.prog.funcNamed Rows.historyChecksRow.func = some f) (hfn : Tryd.pinned.checked.prog.funcs[f]? = some fn) :
    false = Tryd.pinned.checked.prog.looks [] ∧ ∀ (j : Nat) t, fn.params[j]? = some t → Tryd.pinned.checked.prog.wantsStandIn t = false := by
  obtain rfl : f = 3 := Option.some.inj ((show Tryd.prog.funcNamed Rows.historyChecksRow.func = some 3 by kernel_rfl).symm.trans hf) |>.symm
  obtain rfl : fn = Tryd.f3 := (Option.some.inj (Tryd.func3.symm.trans hfn)).symm
  refine ⟨by kernel_rfl, fun j t ht => ?_⟩
  rw [Tryd.params3] at ht
  have hm : t = 25 ∨ t = 9 := by simpa using Array.mem_of_getElem? ht
  rcases hm with rfl | rfl
  · exact (show Tryd.prog.wantsStandIn 25 = false by kernel_rfl)
  · exact (show Tryd.prog.wantsStandIn 9 = false by kernel_rfl)

theorem cardUpto : Rows.HistoryChecksUptoCardSaid :=
  Claim7.holds_tied_plain_at .later [] _ _ _ _ saidUpto (fun _ h => by cases h) (by kernel_rfl) (fun _ h => by cases h) historyChecksUpto_row_tie rfl ⟨rfl, rfl⟩ (by kernel_rfl) rfl plain (by kernel_rfl)
end Go.Proofs.YtjcmajdaebpejaaDoor.historyChecks
namespace Go.Proofs.YtjcmajdaebpejaaDoor
theorem historyChecks_upto : Rows.HistoryChecksUptoCardSaid := historyChecks.cardUpto
#print axioms historyChecks_upto
end Go.Proofs.YtjcmajdaebpejaaDoor
