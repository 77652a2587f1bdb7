/- The reference's Decode. -/
import Derived.Test.YtjbpodkhgdaopaaGreatDoorZVRefReadL
import Derived.Test.YtjbpodkhgdaopaaGreatDoorGVCC
import Derived.Test.YtjbpodkhgdaopaaGreatDoorZVDecode
import Derived.Test.YtjbpodkhgdaopaaGreatDoorGVDcA
import Derived.Test.YtjbpodkhgdaopaaGreatDoorGTot
import Derived.Test.YtjbpodkhgdaopaaGreatDoorZVAlive
namespace Go.Proofs.YtjbpodkhgdaopaaGreatDoor
open Go.RowKit

/-- read, of any bytes. -/
theorem refRead_step {l : List UInt8} {n : Nat} (hC : ReadC l n) : ReadC l (n + 1) := by
  intro w lb B q i sl hL hB hb hi hl hq hn
  have hdp : (17 : Int) - ((n + 1 : Nat) : Int) = (16 : Int) - n := by omega
  rw [hdp]
  by_cases hq1 : 4096 < q + 1
  · have e : readM l (n + 1) i q = none := by rw [readM, if_pos hq1]
    rw [e]
    exact read_stop w lb B q i sl l _ hL hB (by omega) hq (.inr (.inl hq1))
  by_cases hil : i < l.length
  rotate_left
  · have e : readM l (n + 1) i q = none := by
      rw [readM, if_neg hq1, List.drop_of_length_le (by omega)]
      rfl
    rw [e]
    exact read_stop w lb B q i sl l _ hL hB (by omega) hq (.inl (by omega))
  obtain ⟨k, r, hs⟩ : ∃ k r, l.drop i = k :: r := ⟨_, _, List.drop_eq_getElem_cons hil⟩
  have hl2 : l.length ≤ 1000000000000 := by omega
  have hq2 : q + 1 ≤ 4096 := by omega
  have hn2 : n ≤ 15 := by omega
  have hlen : (l.drop i).length = l.length - i := List.length_drop
  have hrl : (k :: r).length = r.length + 1 := rfl
  rw [readM, if_neg hq1, hs]
  simp only [headM]
  have hff := front_fits r
  by_cases k1 : k.toNat = 1
  · rw [if_pos k1]
    cases r with
    | nil => exact read_bool_no n w lb B q i sl l hL hB hb hil hl2 hq2 hn2 k _ hs k1 rfl
    | cons y r2 =>
      have h := read_bool n w lb B q i sl l hL hB hb hil hl2 hq2 hn2 k _ hs k1 y r2 rfl
      have e1 : i + ((k :: y :: r2).length - r2.length) = i + 2 := by simp only [List.length_cons]; omega
      simp only [e1, itsM]
      exact h
  rw [if_neg k1]
  by_cases k2 : k.toNat = 2
  · rw [if_pos k2]
    by_cases hf : (front r).2.2 = 0
    · rw [if_pos hf]
      have h := read_int n w lb B q i sl l hL hB hb hil hl2 hq2 hn2 k _ hs k2 hf
      have e1 : i + ((k :: r).length - (r.drop (front r).2.1).length) = i + 1 + (front r).2.1 := by rw [List.length_drop, List.length_cons]; omega
      simp only [e1, itsM]
      exact h
    · rw [if_neg hf]
      exact read_take_no2 n w lb B q i sl l hL hB hb hil hl2 hq2 hn2 k _ hs k2 hf
  rw [if_neg k2]
  by_cases k3 : k.toNat = 3
  · rw [if_pos k3]
    by_cases hf : (front r).2.2 = 0
    · rw [if_pos hf]
      by_cases hf2 : (front (r.drop (front r).2.1)).2.2 = 0
      · rw [if_pos hf2]
        have h := read_gauss n w lb B q i sl l hL hB hb hil hl2 hq2 hn2 k _ hs k3 hf hf2
        have hff2 := front_fits (r.drop (front r).2.1)
        rw [List.length_drop] at hff2
        have e1 : i + ((k :: r).length - ((r.drop (front r).2.1).drop (front (r.drop (front r).2.1)).2.1).length) = i + 1 + (front r).2.1 + (front (r.drop (front r).2.1)).2.1 := by rw [List.length_drop, List.length_drop, List.length_cons]; omega
        simp only [e1, itsM]
        exact h
      · rw [if_neg hf2]
        exact read_gauss_no n w lb B q i sl l hL hB hb hil hl2 hq2 hn2 k _ hs k3 hf hf2
    · rw [if_neg hf]
      exact read_take_no3 n w lb B q i sl l hL hB hb hil hl2 hq2 hn2 k _ hs k3 hf
  rw [if_neg k3]
  by_cases k4 : k.toNat = 4
  · rw [if_pos k4]
    by_cases hf : (front r).2.2 = 0
    · by_cases hlong : (front r).1 ≤ r.length - (front r).2.1
      · have et : textErr r = 0 := by unfold textErr; rw [if_neg (fun h => h.2 hlong)]; exact hf
        rw [if_pos et]
        have h := read_sym n w lb B q i sl l hL hB hb hil hl hq2 hn2 k _ hs k4 hf hlong
        have e1 : i + ((k :: r).length - (textRest r).length) = i + 1 + (front r).2.1 + (front r).1 := by
          unfold textRest
          rw [if_pos ⟨hf, hlong⟩, List.length_drop, List.length_cons]
          omega
        simp only [e1, itsM]
        exact h
      · have et : ¬ textErr r = 0 := by unfold textErr; rw [if_pos ⟨hf, hlong⟩]; decide
        rw [if_neg et]
        exact read_sym_no n w lb B q i sl l hL hB hb hil hl2 hq2 hn2 k _ hs k4 hf hlong
    · have et : ¬ textErr r = 0 := by unfold textErr; rw [if_neg (fun h => hf h.1)]; exact hf
      rw [if_neg et]
      exact read_take_no4 n w lb B q i sl l hL hB hb hil hl2 hq2 hn2 k _ hs k4 hf
  rw [if_neg k4]
  by_cases k5 : k.toNat = 5 ∨ k.toNat = 6 ∨ k.toNat = 7
  · rw [if_pos k5]
    by_cases hf : (front r).2.2 = 0
    · rw [if_pos hf]
      have e1 : i + ((k :: r).length - (r.drop (front r).2.1).length) = i + 1 + (front r).2.1 := by rw [List.length_drop, List.length_cons]; omega
      simp only [e1]
      have hkk : ¬ ((k.toNat : Int) < 1 ∨ 7 < (k.toNat : Int)) := by omega
      rw [if_neg hkk]
      have fin : ∀ (kk : Int) (T : Option (List Vl × Nat × Nat)) (e : Ending) (w' : World), RdI w lb (n + 1) kk T e w' → RdR w lb (n + 1) (match T with | none => none | some (xs, t) => some (⟨kk, 0, 0, ⟨#[]⟩, xs⟩, t)) e w' := fun kk T e w' h => by
        rcases T with _ | ⟨xs, p', q'⟩
        · exact h
        · exact h
      rcases k5 with k5 | k5 | k5
      · exact (read_items5 n w lb B q i sl l hL hB hb hil hl hq2 hn2 k _ hs hC k5 hf).mono (fun e w' h => by have := fin 5 _ e w' h; rw [show (k.toNat : Int) = 5 by omega]; exact this)
      · exact (read_items6 n w lb B q i sl l hL hB hb hil hl hq2 hn2 k _ hs hC k5 hf).mono (fun e w' h => by have := fin 6 _ e w' h; rw [show (k.toNat : Int) = 6 by omega]; exact this)
      · exact (read_items7 n w lb B q i sl l hL hB hb hil hl hq2 hn2 k _ hs hC k5 hf).mono (fun e w' h => by have := fin 7 _ e w' h; rw [show (k.toNat : Int) = 7 by omega]; exact this)
    · rw [if_neg hf]
      rcases k5 with k5 | k5 | k5
      · exact read_take_no5 n w lb B q i sl l hL hB hb hil hl2 hq2 hn2 k _ hs k5 hf
      · exact read_take_no6 n w lb B q i sl l hL hB hb hil hl2 hq2 hn2 k _ hs k5 hf
      · exact read_take_no7 n w lb B q i sl l hL hB hb hil hl2 hq2 hn2 k _ hs k5 hf
  rw [if_neg k5]
  simp only
  have hkk : ((k.toNat : Int) < 1 ∨ 7 < (k.toNat : Int)) := by omega
  rw [if_pos hkk]
  by_cases k0 : k.toNat = 0
  · exact read_low n w lb B q i sl l hL hB hb hil hl2 hq2 hn2 k _ hs k0
  · exact read_high n w lb B q i sl l hL hB hb hil hl2 hq2 hn2 k _ hs (by omega)
theorem refRead_zero (l : List UInt8) : ReadC l 0 := by
  intro w lb B q i sl hL hB hb hi hl hq hn
  exact read_stop w lb B q i sl l _ hL hB (by omega) hq (.inr (.inr (by decide)))
theorem refRead_k (l : List UInt8) : ∀ n, ReadC l n
  | 0 => refRead_zero l
  | n + 1 => refRead_step (refRead_k l n)
theorem results_struct_tmps3 {P : Program} {fn : Func} {p u v : Tmp} {ty : TypeId} (h : fn.results = #[.cell p ty, .tmp u, .tmp v]) (tmps : Array Value) (w : World) (g : Nat) (t : TypeId) (cs : Array Value) (fr : Nat × Nat) (d : TypeDesc)
    (hp : tmps.getD p undef = .pointer (some ⟨g, 0, none⟩)) (hg : w.heap[g]? = some (.cells cs t fr))
    (hu : P.underlying ty = some d) (hd : (match d with | .struct _ | .array _ _ => true | _ => false) = true) (hi : (P.info? ty).map (·.size) = some cs.size) :
    (results fn tmps).run P w = .ok (.tuple #[.agg cs, tmps.getD u undef, tmps.getD v undef]) w := by
  have hp' : tmps[p]?.getD undef = .pointer (some ⟨g, 0, none⟩) := by simpa using hp
  simp [results, h, hp', asAddr, run_loadVar_row w g t ty cs fr d hg hu hd hi]
theorem dec4_start (w W : World) (hW : (w.alloc (.cells zcells 26)).alloc (.cells #[.int .i64 4096] 3) = W) : Below w.heap.size w W ∧ W.heap.size = w.heap.size + 2 ∧ W.heap[w.heap.size]? = some (.cells zcells 26 (0, 0)) ∧ LeftI W (w.heap.size + 1) 4096 := by
  refine ⟨by rw [← hW]; exact alloc_v (alloc_v (Below.refl _ _) _) _, by rw [← hW]; simp, ?_, ?_⟩
  · rw [← hW]; exact (Below.heap_alloc _ _ _ (by simp only [World.size_alloc]; omega)).trans (World.alloc_heap_new w _)
  · rw [← hW]
    have := World.alloc_heap_new (w.alloc (.cells zcells 26)) (.cells #[.int .i64 4096] 3)
    rwa [World.size_alloc] at this
theorem refRead_all (w W : World) (a : Option Addr) (c : Nat) (l : List UInt8) (hB : BytesIn w 0 w.heap.size (.slice a l.length c) l) (hl : l.length ≤ 1048576) (bW : Below w.heap.size w W) (e1 : LeftI W (w.heap.size + 1) 4096) :
    Calls Tryz.prog 19 #[.slice a l.length c, .int .i64 0, .int .i64 1, .pointer (some ⟨w.heap.size + 1, 0, none⟩)] W fun e w' => RdR W (w.heap.size + 1) 16 (readM l 16 0 0) e w' :=
  refRead_k l 16 W (w.heap.size + 1) w.heap.size 0 0 _ e1 (hB.mono (fun b o _ hb => bW.cell (p := ⟨b, o, none⟩) hb) (Nat.le_refl _) (Nat.le_refl _)) (by omega) (Nat.zero_le _) hl (by omega) (by omega)
set_option maxRecDepth 100000 in
set_option maxHeartbeats 4000000 in
theorem refDec_k (w : World) (sl : Value) (l : List UInt8) (hB : BytesIn w 0 w.heap.size sl l) (hl : l.length ≤ 1048576) (v : Vl) (p' q' : Nat) (hd : readM l 16 0 0 = some (v, p', q')) (hr : rightV v = true) :
    Calls Tryz.prog 7 #[sl] w fun e w' => ∃ s', e = .returned (.tuple #[.agg (vcells v s'), .int .i64 p', .int .i64 0]) ∧ ItemsIn w' (fun b => w.heap.size ≤ b ∧ b < w'.heap.size) 16 s' v.items ∧ Below w.heap.size w w' := by
  obtain ⟨a, c, rfl, _⟩ := id hB
  obtain ⟨W, hW⟩ : ∃ W, (w.alloc (.cells zcells 26)).alloc (.cells #[.int .i64 4096] 3) = W := ⟨_, rfl⟩
  obtain ⟨bW, zW, e0, e1⟩ := dec4_start w W hW
  have hR := refRead_all w W a c l hB hl bW e1
  rw [hd] at hR
  have HRD := hide hR
  have hvt := (readM_ok l hl 16 (Nat.zero_le _) hd).1.1
  have HR := hide hr
  have HE := hide (And.intro e0 zW)
  obtain ⟨vk, vi, vm, vt, vl⟩ := v
  have hp0 : ¬ ((p' : Int) < 0) := by omega
  clear hR hd hB e0 e1 hr zW
  go_enter Tryz.func7, Tryz.ntmps7
  go_wp2_with (first
    | (go_at_call 19; refine HRD.out.mono ?_; clear HRD; rintro e w3 ⟨s3, rfl, i3, d3, g3⟩; obtain ⟨sa, sc, rfl, _⟩ := i3.len; obtain ⟨w4, hw4⟩ : ∃ w4, w3.alloc (.cells #[.int .i64 vk, .int .i64 vi, .int .i64 vm, .string vt, .slice sa vl.length sc] 26) = w4 := ⟨_, rfl⟩; have b4 : Below w3.heap.size w3 w4 := (by rw [← hw4]; exact alloc_v (Below.refl _ _) _); have e4 : w4.heap[w3.heap.size]? = some (.cells #[.int .i64 vk, .int .i64 vi, .int .i64 vm, .string vt, .slice sa vl.length sc] 26 (0, 0)) := (by rw [← hw4]; exact World.alloc_heap_new w3 _); have y0 := cells_at e4 0 _ rfl; have y1 := cells_at e4 1 _ rfl; have y2 := cells_at e4 2 _ rfl; have y3 := cells_at e4 3 _ rfl; have y4 := cells_at e4 4 _ rfl; have hs4 := b4.size; have HRT := hide (refRight_k ⟨vk, vi, vm, vt, vl⟩ w4 16 (.slice sa vl.length sc) hvt ((i3.kept (w' := w4) (S' := fun b => b < w4.heap.size) (fun b o hb => (bcellV b4).1 b o hb.2) (fun b hb => by have := hb.2; omega)).at (fun b hb => hb))); rw [HR.out] at HRT; have I3 := hide i3; have G3 := hide g3; have B4 := hide b4; have E4 := hide e4; clear i3 d3 g3 b4 e4 hs4)
    | (go_at_call 20; refine HRT.out.mono ?_; clear HRT; rintro e w5 ⟨rfl, b5⟩; have l4 : w3.heap.size < w4.heap.size := (Array.getElem?_eq_some_iff.1 E4.out).1; have e5 := (b5.block _ l4).trans E4.out; have l3 : w.heap.size + 2 ≤ w3.heap.size := (by have := G3.out.size; have := HE.out.2; omega); have f5 := (b5.block w.heap.size (by omega)).trans ((B4.out.block w.heap.size (by omega)).trans ((G3.out.block w.heap.size (by have := HE.out.2; omega) (by simp)).trans HE.out.1)); have z0 := cells_at e5 0 _ rfl; have z1 := cells_at e5 1 _ rfl; have z2 := cells_at e5 2 _ rfl; have z3 := cells_at e5 3 _ rfl; have z4 := cells_at e5 4 _ rfl; have r0 := cells_at f5 0 _ rfl; have rz0 := frozen_at f5 0; have r1 := cells_at f5 1 _ rfl; have rz1 := frozen_at f5 1; have r2 := cells_at f5 2 _ rfl; have rz2 := frozen_at f5 2; have r3 := cells_at f5 3 _ rfl; have rz3 := frozen_at f5 3; have r4 := cells_at f5 4 _ rfl; have rz4 := frozen_at f5 4; have F5 := hide f5; have B5 := hide b5; have ne5 : w3.heap.size ≠ w.heap.size := (by omega); clear e5 f5 b5))
  have bw3 : Below w.heap.size w w3 := below_of_grown (grown_more (grown_of_below bW) G3.out) (by omega)
  have bw5 := trans_v (trans_v bw3 B4.out) B5.out
  have G := stored w w5 vk vi vm vt (.slice sa vl.length sc) zcells w.heap.size (Nat.le_refl _) bw5 rfl F5.out
  refine bodyPost_ret (results_struct_tmps3 rfl _ _ w.heap.size _ _ _ _ rfl G.1 Tryz.underlying26 rfl infoVal5) rfl ?_
  refine ⟨.slice sa vl.length sc, rfl, I3.out.kept (fun b o hb => ?_) (fun b hb => ⟨by have := hb.1; have := HE.out.2; omega, ?_⟩), G.2⟩
  · have hb1 := hb.1
    have hb2 := hb.2
    have h4 := B4.out.size
    exact (stored_cell2 _ _ _ _ _ _ _ _ _ (by have := HE.out.2; omega)).trans (((bcellV B5.out).1 b o (by omega)).trans ((bcellV B4.out).1 b o hb2))
  · have hb2 := hb.2
    have h4 := B4.out.size
    have h5 := B5.out.size
    simp only [World.setCell]
    simpa using (show b < w5.heap.size by omega)
set_option maxRecDepth 100000 in
set_option maxHeartbeats 4000000 in
theorem refDec_none (w : World) (sl : Value) (l : List UInt8) (hB : BytesIn w 0 w.heap.size sl l) (hl : l.length ≤ 1048576) (hd : readM l 16 0 0 = none) :
    Calls Tryz.prog 7 #[sl] w fun e w' => e = .returned (.tuple #[.agg zcells, .int .i64 0, .int .i64 41]) ∧ Below w.heap.size w w' := by
  obtain ⟨a, c, rfl, _⟩ := id hB
  obtain ⟨W, hW⟩ : ∃ W, (w.alloc (.cells zcells 26)).alloc (.cells #[.int .i64 4096] 3) = W := ⟨_, rfl⟩
  obtain ⟨bW, zW, e0, e1⟩ := dec4_start w W hW
  have hR := refRead_all w W a c l hB hl bW e1
  rw [hd] at hR
  have HRD := hide hR
  have HE := hide (And.intro e0 zW)
  clear hR hd hB e0 e1 zW
  go_enter Tryz.func7, Tryz.ntmps7
  go_wp2_with (go_at_call 19; refine HRD.out.mono ?_; clear HRD; rintro e w3 ⟨xk, xi, xm, xt, xa, xn, xc, rfl, g3⟩; obtain ⟨w4, hw4⟩ : ∃ w4, w3.alloc (.cells #[.int .i64 xk, .int .i64 xi, .int .i64 xm, .string xt, .slice xa xn xc] 26) = w4 := ⟨_, rfl⟩; have b4 : Below w3.heap.size w3 w4 := (by rw [← hw4]; exact alloc_v (Below.refl _ _) _); have l3 : w.heap.size + 2 ≤ w3.heap.size := (by have := g3.size; have := HE.out.2; omega); have f5 := (b4.block w.heap.size (by omega)).trans ((g3.block w.heap.size (by have := HE.out.2; omega) (by simp)).trans HE.out.1); have r0 := cells_at f5 0 _ rfl; have rz0 := frozen_at f5 0; have r1 := cells_at f5 1 _ rfl; have rz1 := frozen_at f5 1; have r2 := cells_at f5 2 _ rfl; have rz2 := frozen_at f5 2; have r3 := cells_at f5 3 _ rfl; have rz3 := frozen_at f5 3; have r4 := cells_at f5 4 _ rfl; have rz4 := frozen_at f5 4; have F5 := hide f5; have B4 := hide b4; have G3 := hide g3; clear f5 b4 g3)
  have bw3 : Below w.heap.size w w3 := below_of_grown (grown_more (grown_of_below bW) G3.out) (by omega)
  have G := stored w w4 0 0 0 ⟨#[]⟩ (.slice none 0 0) zcells w.heap.size (Nat.le_refl _) (trans_v bw3 B4.out) rfl F5.out
  refine bodyPost_ret (results_struct_tmps3 rfl _ _ w.heap.size _ _ _ _ rfl G.1 Tryz.underlying26 rfl infoVal5) rfl ?_
  exact ⟨rfl, G.2⟩
set_option maxRecDepth 100000 in
set_option maxHeartbeats 4000000 in
theorem refDec_wrong (w : World) (sl : Value) (l : List UInt8) (hB : BytesIn w 0 w.heap.size sl l) (hl : l.length ≤ 1048576) (v : Vl) (p' q' : Nat) (hd : readM l 16 0 0 = some (v, p', q')) (hr : rightV v = false) :
    Calls Tryz.prog 7 #[sl] w fun e w' => e = .returned (.tuple #[.agg zcells, .int .i64 0, .int .i64 41]) ∧ Below w.heap.size w w' := by
  obtain ⟨a, c, rfl, _⟩ := id hB
  obtain ⟨W, hW⟩ : ∃ W, (w.alloc (.cells zcells 26)).alloc (.cells #[.int .i64 4096] 3) = W := ⟨_, rfl⟩
  obtain ⟨bW, zW, e0, e1⟩ := dec4_start w W hW
  have hR := refRead_all w W a c l hB hl bW e1
  rw [hd] at hR
  have HRD := hide hR
  have hvt := (readM_ok l hl 16 (Nat.zero_le _) hd).1.1
  have HR := hide hr
  have HE := hide (And.intro e0 zW)
  obtain ⟨vk, vi, vm, vt, vl⟩ := v
  have hp0 : ¬ ((p' : Int) < 0) := by omega
  clear hR hd hB e0 e1 hr zW
  go_enter Tryz.func7, Tryz.ntmps7
  go_wp2_with (first
    | (go_at_call 19; refine HRD.out.mono ?_; clear HRD; rintro e w3 ⟨s3, rfl, i3, d3, g3⟩; obtain ⟨sa, sc, rfl, _⟩ := i3.len; obtain ⟨w4, hw4⟩ : ∃ w4, w3.alloc (.cells #[.int .i64 vk, .int .i64 vi, .int .i64 vm, .string vt, .slice sa vl.length sc] 26) = w4 := ⟨_, rfl⟩; have b4 : Below w3.heap.size w3 w4 := (by rw [← hw4]; exact alloc_v (Below.refl _ _) _); have e4 : w4.heap[w3.heap.size]? = some (.cells #[.int .i64 vk, .int .i64 vi, .int .i64 vm, .string vt, .slice sa vl.length sc] 26 (0, 0)) := (by rw [← hw4]; exact World.alloc_heap_new w3 _); have y0 := cells_at e4 0 _ rfl; have y1 := cells_at e4 1 _ rfl; have y2 := cells_at e4 2 _ rfl; have y3 := cells_at e4 3 _ rfl; have y4 := cells_at e4 4 _ rfl; have hs4 := b4.size; have HRT := hide (refRight_k ⟨vk, vi, vm, vt, vl⟩ w4 16 (.slice sa vl.length sc) hvt ((i3.kept (w' := w4) (S' := fun b => b < w4.heap.size) (fun b o hb => (bcellV b4).1 b o hb.2) (fun b hb => by have := hb.2; omega)).at (fun b hb => hb))); rw [HR.out] at HRT; have G3 := hide g3; have B4 := hide b4; clear i3 d3 g3 b4 e4 hs4)
    | (go_at_call 20; refine HRT.out.mono ?_; clear HRT; rintro e w5 ⟨rfl, b5⟩; have l3 : w.heap.size + 2 ≤ w3.heap.size := (by have := G3.out.size; have := HE.out.2; omega); have l4 := B4.out.size; have f5 := (b5.block w.heap.size (by omega)).trans ((B4.out.block w.heap.size (by omega)).trans ((G3.out.block w.heap.size (by have := HE.out.2; omega) (by simp)).trans HE.out.1)); have r0 := cells_at f5 0 _ rfl; have rz0 := frozen_at f5 0; have r1 := cells_at f5 1 _ rfl; have rz1 := frozen_at f5 1; have r2 := cells_at f5 2 _ rfl; have rz2 := frozen_at f5 2; have r3 := cells_at f5 3 _ rfl; have rz3 := frozen_at f5 3; have r4 := cells_at f5 4 _ rfl; have rz4 := frozen_at f5 4; have F5 := hide f5; have B5 := hide b5; clear f5 b5))
  have bw3 : Below w.heap.size w w3 := below_of_grown (grown_more (grown_of_below bW) G3.out) (by omega)
  have G := stored w w5 0 0 0 ⟨#[]⟩ (.slice none 0 0) zcells w.heap.size (Nat.le_refl _) (trans_v (trans_v bw3 B4.out) B5.out) rfl F5.out
  refine bodyPost_ret (results_struct_tmps3 rfl _ _ w.heap.size _ _ _ _ rfl G.1 Tryz.underlying26 rfl infoVal5) rfl ?_
  exact ⟨rfl, G.2⟩
end Go.Proofs.YtjbpodkhgdaopaaGreatDoor

/- ValueDecodes answers true: the walk. -/
namespace Go.Proofs.YtjbpodkhgdaopaaGreatDoor
open Go.RowKit

theorem row_isV {w : World} {base : Nat} {e : TypeId} {size : Nat} {v : Value} {n : Nat} {xs : List Value} (h : w.ownsRow base e size v n xs) (hv : v ≠ .slice none 0 0) : ∃ g cap, v = .slice (some ⟨g, 0, none⟩) n cap ∧ base ≤ g := by
  rcases h.2 with ⟨h, _⟩ | ⟨g, cap, cur, h, hb, _⟩
  · exact absurd h hv
  · exact ⟨g, cap, h, hb⟩
theorem below_rowV {w w' : World} {B base : Nat} {e : TypeId} {size : Nat} {v : Value} {k : Nat} {xs : List Value} (h : w.ownsRow base e size v k xs) (hb : Below B w w') (hB : w.heap.size ≤ B) : w'.ownsRow base e size v k xs := by
  refine ⟨h.1, ?_⟩
  rcases h.2 with hn | ⟨g, cap, cur, rfl, hbg, hg, rest⟩
  · exact .inl hn
  · exact .inr ⟨g, cap, cur, rfl, hbg, (hb.block g (by have := (Array.getElem?_eq_some_iff.1 hg).1; omega)).trans hg, rest⟩
/-- What both sides' Decode answers: a value, how many bytes, the error. -/
structure DecBoth (l : List UInt8) (n : Nat) (v : Vl) (p : Nat) (c : Int) : Prop where
  ok : v.ok
  prog : ∀ (w : World) (sl : Value), Tabs w → BytesIn w 0 w.heap.size sl l → Calls Tryz.prog 6 #[sl] w fun e w' => ∃ s', e = .returned (.tuple #[.agg (vcells v s'), .int .i64 p, .int .i64 c]) ∧ ItemsIn w' (fun b => w.heap.size ≤ b ∧ b < w'.heap.size) n s' v.items ∧ Below w.heap.size w w'
  ref : ∀ (w : World) (sl : Value), BytesIn w 0 w.heap.size sl l → Calls Tryz.prog 7 #[sl] w fun e w' => ∃ s', e = .returned (.tuple #[.agg (vcells v s'), .int .i64 p, .int .i64 c]) ∧ ItemsIn w' (fun b => w.heap.size ≤ b ∧ b < w'.heap.size) 16 s' v.items ∧ Below w.heap.size w w'
theorem zero_okD : (⟨0, 0, 0, ⟨#[]⟩, []⟩ : Vl).ok := ok_mk (by decide) ⟨by omega, by omega⟩ ⟨by omega, by omega⟩
theorem dec_bothC (l : List UInt8) (hl : l.length ≤ 1048576) : ∃ n v p c, DecBoth l (n + 1) v p c := by
  obtain ⟨m, hm⟩ : ∃ m, m = 4097 := ⟨_, rfl⟩
  have hm2 : 4097 ≤ m := by omega
  have hm3 : 16 ≤ m := by omega
  have zero : ∀ (w : World) (L : Nat) (w' : World) (e : Ending) (n : Nat), (e = .returned (.tuple #[.agg zcells, .int .i64 0, .int .i64 41]) ∧ Below w.heap.size w w') → ∃ s', e = .returned (.tuple #[.agg (vcells ⟨0, 0, 0, ⟨#[]⟩, []⟩ s'), .int .i64 ((0 : Nat) : Int), .int .i64 41]) ∧ ItemsIn w' (fun b => w.heap.size ≤ b ∧ b < w'.heap.size) (n + 1) s' [] ∧ Below w.heap.size w w' :=
    fun w L w' e n h => ⟨.slice none 0 0, h.1, itemsIn_nil _ _ _, h.2⟩
  by_cases hok : ∃ v p q, decM l m 0 0 = some (v, p, q) ∧ rightV v = true
  · obtain ⟨v, p, q, hd, hr⟩ := hok
    have hrd := (dec_both l m hm3 v (p, q) hr).1 hd
    obtain ⟨m', rfl⟩ : ∃ m', m = m' + 1 := ⟨m - 1, by omega⟩
    exact ⟨m', v, p, 0, decM_ok hd, fun w sl hT hB => decode_ok (m' + 1) w sl l v p q hT hB (by omega) hd hr, fun w sl hB => refDec_k w sl l hB hl v p q hrd hr⟩
  · refine ⟨15, ⟨0, 0, 0, ⟨#[]⟩, []⟩, 0, 41, zero_okD, fun w sl hT hB => ?_, fun w sl hB => ?_⟩
    · cases hd : decM l m 0 0 with
      | none => exact (decode_none m w sl l hB (by omega) hm2 hd).mono (fun e w' h => zero w 0 w' e 15 h)
      | some t =>
        obtain ⟨v, p, q⟩ := t
        have hr : rightV v = false := by
          cases h : rightV v with
          | false => rfl
          | true => exact absurd ⟨v, p, q, hd, h⟩ hok
        exact (decode_wrong m w sl l v p q hT hB (by omega) hd hr).mono (fun e w' h => zero w 0 w' e 15 h)
    · cases hd : readM l 16 0 0 with
      | none => exact (refDec_none w sl l hB hl hd).mono (fun e w' h => zero w 0 w' e 15 h)
      | some t =>
        obtain ⟨v, p, q⟩ := t
        have hr : rightV v = false := by
          cases h : rightV v with
          | false => rfl
          | true => exact absurd ⟨v, p, q, (dec_both l m hm3 v (p, q) h).2 hd, h⟩ hok
        exact (refDec_wrong w sl l hB hl v p q hd hr).mono (fun e w' h => zero w 0 w' e 15 h)
theorem run_append_bytesV (w : World) (base : Nat) (ty : TypeId) (v : Value) (n : Nat) (xs : List Value) (hown : w.ownsRow base 5 1 v n xs) (x : Value) (l : List UInt8) (hb : Bytes w x l)
    (hn : n + l.length ≤ 140737488355328) (hbase : base ≤ w.heap.size) :
    ∃ v' w', (Builtin.append_ #[22, 22] ty #[v, x]).run Tryz.prog w = .ok v' w' ∧ w'.ownsRow base 5 1 v' (n + l.length) (xs ++ cellsOf l) ∧ w.grownBy w' v.ownBlock := by
  obtain ⟨i0, hi, hz0, hz1, hz2⟩ := info_parts info_u8
  obtain ⟨a, c, rfl, _⟩ := id hb
  rcases a with _ | ad
  · have : l = [] := by
      rcases hb.elim with ⟨h, _⟩ | ⟨_, b, off, c, h, _⟩
      · exact h
      · cases h
    subst this
    refine ⟨v, w, ?_, by simpa [cellsOf] using hown, grownBy_refl _ _⟩
    rcases hown.2 with ⟨rfl, rfl⟩ | ⟨g, cap, cur, rfl, hbg, hg, hnc, hcm, hcs, htake⟩
    · simp [Builtin.append_, run_underlying Tryz.underlying22, sizeOf, typeInfo, hi, Builtin.lenOf, Builtin.firstCells]
    · simp [Builtin.append_, run_underlying Tryz.underlying22, sizeOf, typeInfo, hi, Builtin.lenOf, Builtin.firstCells, hnc, storeCells]
  · obtain ⟨v', w', h1, h2, h3, _⟩ := run_append_own (P := Tryz.prog) w base 22 ty 5 i0 (.int .u8 0) 1 1 Tryz.underlying22 hi hz0 hz1 hz2 rfl (by decide) v n xs hown ad l.length c (cellsOf l) (by rw [cellsOf_length, Nat.mul_one]) hb.cells (cellsOf_one l) (by unfold maxLen; omega) (by omega) hbase
    exact ⟨v', w', h1, h2, h3⟩
theorem byteSetV {w : World} {base g n cap : Nat} {xs : List Value} (h : w.ownsRow base 5 1 (.slice (some ⟨g, 0, none⟩) n cap) n xs) (k : Nat) (u : Value) :
    (w.setCell ⟨g, k, none⟩ u).ownsRow base 5 1 (.slice (some ⟨g, 0, none⟩) n cap) n (xs.set k u) := by
  obtain ⟨h1, h2⟩ := h
  refine ⟨by rw [List.length_set]; exact h1, ?_⟩
  rcases h2 with ⟨h, _⟩ | ⟨g', cap', cur, hv, hb, hh, hnc, hcm, hcs, ht⟩
  · cases h
  · simp only [Value.slice.injEq, Option.some.injEq, Addr.mk.injEq, and_true, true_and] at hv
    obtain ⟨rfl, rfl⟩ := hv
    refine .inr ⟨g, cap, cur.setIfInBounds k u, rfl, hb, ?_, hnc, hcm, by simp; omega, ?_⟩
    · simp [World.setCell, Array.getElem?_modify, hh]
    · rw [← ht, Array.toList_setIfInBounds, List.take_set]
theorem byteCellV {w : World} {base g n cap : Nat} {xs : List Value} (h : w.ownsRow base 5 1 (.slice (some ⟨g, 0, none⟩) n cap) n xs) (k : Nat) (hk : k < n) :
    (∃ u, w.cell? ⟨g, k, none⟩ = some u) ∧ w.frozen? ⟨g, k, none⟩ = false := by
  have hl : k < xs.length := by rw [h.1]; omega
  refine ⟨⟨xs[k], ?_⟩, ?_⟩
  · have := h.cells (g := g) rfl k xs[k] (by simp [hl])
    rw [Addr.add_lit, Nat.zero_add] at this
    exact this
  · rcases h.2 with ⟨h, _⟩ | ⟨g', cap', cur, hv, hb, hh, _⟩
    · cases h
    · simp only [Value.slice.injEq, Option.some.injEq, Addr.mk.injEq, and_true, true_and] at hv
      obtain ⟨rfl, rfl⟩ := hv
      simp [World.frozen?, hh]
set_option maxRecDepth 100000 in
set_option maxHeartbeats 16000000 in
theorem valueDecodes_walk (l : List UInt8) (w : World) (sl : Value) (hT : Tabs w) (hB : BytesIn w 0 w.heap.size sl l) (hl : l.length ≤ 1048576) :
    Calls Tryz.prog 3 #[sl] w fun e w' => e = .returned (.bool true) ∧ Below w.heap.size w w' := by
  obtain ⟨n, v, p, c, hD⟩ := dec_bothC l hl
  obtain ⟨a, cp, rfl, _⟩ := id hB
  have hruns := fun ty => run_append_bytesV w w.heap.size ty (.slice none 0 0) 0 [] (World.ownsRow_nil _ _ _ _) (.slice a l.length cp) l hB.plain (by omega) (Nat.le_refl _)
  obtain ⟨v1, w1, hrun, hown, hgr⟩ := hruns 22
  rw [Nat.zero_add, List.nil_append] at hown
  have b1 : Below w.heap.size w w1 := ⟨hgr.os, hgr.tape, hgr.output, hgr.size, fun k hk => hgr.block k hk (by simp [Value.ownBlock])⟩
  have hI1 := (ownsRow_bytes hown).2
  obtain ⟨a1, c1, rfl, _⟩ := id hI1
  have HD1 := hide (hD.prog w1 _ (hT.below b1) (hI1.mono (fun _ _ _ _ => rfl) (Nat.zero_le _) (Nat.le_refl _)))
  have HDR := hide (fun (U : World) (b : Below w.heap.size w U) => hD.ref U (.slice a l.length cp) (hB.mono (fun b' o _ hb => b.cell (p := ⟨b', o, none⟩) hb) (Nat.le_refl _) b.size))
  have HCB := hide (fun (U : World) (b : Below w.heap.size w U) => conv_bytes (hB.mono (w' := U) (fun b' o _ hb => b.cell (p := ⟨b', o, none⟩) hb) (Nat.le_refl _) b.size).plain)
  have HCI := hide (fun (U : World) (b : Below w1.heap.size w1 U) => conv_bytes (hI1.mono (w' := U) (fun b' o _ hb => b.cell (p := ⟨b', o, none⟩) hb) (Nat.le_refl _) b.size).plain)
  have HAL := hide (fun (U : World) (B : Nat) (sa sb : Value) (hb : B ≤ U.heap.size) (ha : ItemsAt U B (n + 1) sa v.items) (hb' : ItemsAt U B 16 sb v.items) => alike_k (n + 1) v v U B 16 sa sb hb ha hb')
  rw [ordV_self] at HAL
  have HLV := hide (fun (U : World) (b : Below w.heap.size w U) => alive4_k U (hT.below b))
  have HOK := hide hD.ok
  have HRN := hide hrun
  have HOW := hide hown
  have HB1 := hide b1
  clear hD hT hB hruns hrun hown hgr b1 hI1
  obtain ⟨vk, vi, vm, vt, vl⟩ := v
  go_enter Tryz.func3, Tryz.ntmps3
  go_upto_region 2 with (at_builtin; refine Lib.wpList_append_run _ rfl (.const (.slice none 0 0)) (.tmp 11) 22 22 rfl _ _ rfl rfl _ _ HRN.out ?_)
  go_upto_region 3 with (go_at_call 6; refine HD1.out.mono ?_; clear HD1; rintro e w2 ⟨s2, rfl, i2, b2⟩; obtain ⟨sa2, sc2, rfl, _⟩ := i2.len; obtain ⟨w3, hw3⟩ : ∃ w3, w2.alloc (.cells #[.int .i64 vk, .int .i64 vi, .int .i64 vm, .string vt, .slice sa2 vl.length sc2] 26) = w3 := ⟨_, rfl⟩; have b3 : Below w2.heap.size w2 w3 := (by rw [← hw3]; exact alloc_v (Below.refl _ _) _); have e3 : w3.heap[w2.heap.size]? = some (.cells #[.int .i64 vk, .int .i64 vi, .int .i64 vm, .string vt, .slice sa2 vl.length sc2] 26 (0, 0)) := (by rw [← hw3]; exact World.alloc_heap_new w2 _); have I2 := hide i2; have B2 := hide b2; have B3 := hide b3; have E3 := hide e3; clear i2 b2 b3 e3)
  clear hw3
  have HDR3 := hide (HDR.out w3 (trans_v HB1.out (trans_v B2.out B3.out)))
  go_upto_region 4 with (go_at_call 7; refine HDR3.out.mono ?_; clear HDR3; rintro e w4 ⟨s4, rfl, i4, b4⟩; obtain ⟨sa4, sc4, rfl, _⟩ := i4.len; obtain ⟨w5, hw5⟩ : ∃ w5, w4.alloc (.cells #[.int .i64 vk, .int .i64 vi, .int .i64 vm, .string vt, .slice sa4 vl.length sc4] 26) = w5 := ⟨_, rfl⟩; have b5 : Below w4.heap.size w4 w5 := (by rw [← hw5]; exact alloc_v (Below.refl _ _) _); have e5 : w5.heap[w4.heap.size]? = some (.cells #[.int .i64 vk, .int .i64 vi, .int .i64 vm, .string vt, .slice sa4 vl.length sc4] 26 (0, 0)) := (by rw [← hw5]; exact World.alloc_heap_new w4 _); have I4 := hide i4; have B4 := hide b4; have B5 := hide b5; have E5 := hide e5; clear i4 b4 b5 e5)
  clear hw5
  have l3 : w2.heap.size < w3.heap.size := (Array.getElem?_eq_some_iff.1 E3.out).1
  have l5 : w4.heap.size < w5.heap.size := (Array.getElem?_eq_some_iff.1 E5.out).1
  have s2 := B2.out.size
  have s4 := B4.out.size
  have s1 := HB1.out.size
  have F3 := hide ((B5.out.block _ (by omega)).trans ((B4.out.block _ l3).trans E3.out))
  have bw15 : Below w1.heap.size w1 w5 := trans_v B2.out (trans_v B3.out (trans_v B4.out B5.out))
  have bw5 : Below w.heap.size w w5 := trans_v HB1.out bw15
  -- the items of both, in any world that keeps what lies from w1 on
  have J2 := hide (fun (U : World) (hs : w5.heap.size ≤ U.heap.size) (hk : ∀ b, w1.heap.size ≤ b → b < w5.heap.size → U.heap[b]? = w5.heap[b]?) => (show ItemsAt U w5.heap.size (n + 1) (.slice sa2 vl.length sc2) vl from (I2.out.kept (w' := U) (S' := fun b => b < w5.heap.size) (fun b o hb => World.cell?_of_block ((hk b hb.1 (by have := hb.2; omega)).trans ((B5.out.block b (by have := hb.2; omega)).trans ((B4.out.block b (by have := hb.2; omega)).trans (B3.out.block b hb.2))))) (fun b hb => by have := hb.2; omega)).at (fun b hb => hb)))
  have J4 := hide (fun (U : World) (hs : w5.heap.size ≤ U.heap.size) (hk : ∀ b, w1.heap.size ≤ b → b < w5.heap.size → U.heap[b]? = w5.heap[b]?) => (show ItemsAt U w5.heap.size 16 (.slice sa4 vl.length sc4) vl from (I4.out.kept (w' := U) (S' := fun b => b < w5.heap.size) (fun b o hb => World.cell?_of_block ((hk b (by have := hb.1; omega) (by have := hb.2; omega)).trans (B5.out.block b hb.2))) (fun b hb => by have := hb.2; omega)).at (fun b hb => hb)))
  have HA5 := hide (HAL.out w5 w5.heap.size _ _ (Nat.le_refl _) (J2.out w5 (Nat.le_refl _) (fun _ _ _ => rfl)) (J4.out w5 (Nat.le_refl _) (fun _ _ _ => rfl)))
  have hcb := HCB.out
  have hci := HCI.out
  have x0 := cells_at F3.out 0 _ rfl
  have x1 := cells_at F3.out 1 _ rfl
  have x2 := cells_at F3.out 2 _ rfl
  have x3 := cells_at F3.out 3 _ rfl
  have x4 := cells_at F3.out 4 _ rfl
  have y0 := cells_at E5.out 0 _ rfl
  have y1 := cells_at E5.out 1 _ rfl
  have y2 := cells_at E5.out 2 _ rfl
  have y3 := cells_at E5.out 3 _ rfl
  have y4 := cells_at E5.out 4 _ rfl
  have BW5 := hide bw5
  have BW15 := hide bw15
  clear hcb hci bw5 bw15
  go_upto_region 6 with (first
    | (go_at_call 8; refine (num4_k _ _).mono ?_; rintro e wq ⟨rfl, rfl⟩)
    | (go_at_call 9; refine HA5.out.mono ?_; clear HA5; rintro e w6 ⟨rfl, b6⟩; have hc6 := HCB.out w6 (trans_v BW5.out b6); have hd6 := HCI.out w6 (trans_v BW15.out b6); have B6 := hide b6; clear b6))
  clear x0 x1 x2 x3 x4 y0 y1 y2 y3 y4
  (try clear hc6 hd6)
  have s6 := B6.out.size
  have hown6 : w6.ownsRow w.heap.size 5 1 (.slice a1 l.length c1) l.length (cellsOf l) := below_rowV HOW.out (trans_v BW15.out B6.out) (Nat.le_refl _)
  have HO6 := hide hown6
  have hlo : ∀ g, (Value.slice a1 l.length c1).ownBlock = some g → w.heap.size ≤ g ∧ g < w1.heap.size := fun g e => HOW.out.lt g e
  have HLO := hide hlo
  clear hown6 hlo
  go_wp2
  go_loopw [10] (fun i wr => ∃ (k : Nat) (xs : List Value), k ≤ l.length ∧ i = .int .i64 k ∧ wr.ownsRow w.heap.size 5 1 (.slice a1 l.length c1) l.length xs ∧ (∀ b, w1.heap.size ≤ b → wr.heap[b]? = w6.heap[b]?) ∧ wr.heap.size = w6.heap.size ∧ Below w.heap.size w wr) (fun i _ => l.length - (intOf i).toNat)
  case atStart => exact ⟨0, _, Nat.zero_le _, rfl, HO6.out, fun _ _ => rfl, rfl, trans_v BW5.out B6.out⟩
  case round =>
    obtain ⟨k, xs, hk, rfl, hO, hkeep, hsz, hbel⟩ := hrel
    by_cases hlt : k < l.length
    · obtain ⟨g, cc, eg, _⟩ := row_isV hO (fun e => by simp only [Value.slice.injEq] at e; omega)
      simp only [Value.slice.injEq, true_and] at eg
      obtain ⟨rfl, rfl⟩ := eg
      obtain ⟨⟨u, hu⟩, hfz⟩ := byteCellV hO k hlt
      have hgl := HLO.out g rfl
      have k0 : (0 : Int) ≤ (k : Int) := by omega
      have k1 : (k : Int) < (l.length : Int) := by omega
      have R := hide (And.intro (byteSetV hO k (.int .u8 255)) (And.intro hkeep (And.intro hsz hbel)))
      clear hO hkeep hsz hbel
      go_wp2
      go_roundw
      case rel => exact ⟨k + 1, _, by omega, by go_num, R.out.1, fun b hb => (Below.heap_setCell _ _ _ _ (by show b ≠ g; omega)).trans (R.out.2.1 b hb), by simpa [World.setCell] using R.out.2.2.1, R.out.2.2.2.setCell (by show w.heap.size ≤ g; exact hgl.1) _⟩
      case measure => simp [intOf]; omega
    · have f3 := (hkeep w2.heap.size s2).trans ((B6.out.block _ (by omega)).trans F3.out)
      have f5 := (hkeep w4.heap.size (by omega)).trans ((B6.out.block _ l5).trans E5.out)
      have x0 := cells_at f3 0 _ rfl
      have x1 := cells_at f3 1 _ rfl
      have x2 := cells_at f3 2 _ rfl
      have x3 := cells_at f3 3 _ rfl
      have x4 := cells_at f3 4 _ rfl
      have y0 := cells_at f5 0 _ rfl
      have y1 := cells_at f5 1 _ rfl
      have y2 := cells_at f5 2 _ rfl
      have y3 := cells_at f5 3 _ rfl
      have y4 := cells_at f5 4 _ rfl
      have hkk : ∀ b, w1.heap.size ≤ b → b < w5.heap.size → wr.heap[b]? = w5.heap[b]? := fun b h1 h2 => (hkeep b h1).trans (B6.out.block b h2)
      have HA7 := hide (HAL.out wr w5.heap.size _ _ (by omega) (J2.out wr (by omega) hkk) (J4.out wr (by omega) hkk))
      have HBR := hide hbel
      clear hO hkeep hsz hbel f3 f5 hkk
      go_wp2_with (first
        | (go_at_call 9; refine HA7.out.mono ?_; clear HA7; rintro e w7 ⟨rfl, b7⟩; have B7 := hide (trans_v HBR.out b7); have HL7 := hide (HLV.out w7 (trans_v HBR.out b7)); clear b7)
        | (go_at_call 10; refine HL7.out.mono ?_; clear HL7; rintro e w8 ⟨rfl, b8⟩; have B8 := hide (trans_v B7.out b8); clear b8))
      go_ret
      exact ⟨rfl, B8.out⟩
end Go.Proofs.YtjbpodkhgdaopaaGreatDoor
