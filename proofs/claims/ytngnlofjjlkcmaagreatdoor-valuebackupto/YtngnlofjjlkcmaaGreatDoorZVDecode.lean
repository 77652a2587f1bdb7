/- Decode, where it succeeds. -/
import Derived.Test.YtngnlofjjlkcmaaGreatDoorZVDecW
import Derived.Recover
import Derived.Defers
namespace Go.Proofs.YtngnlofjjlkcmaaGreatDoor
open Go.RowKit

set_option maxRecDepth 100000 in
theorem decIdle (p0 p1 p2 : Addr) (w : World) :
    CallsD Tryz.prog 16 #[.pointer (some p0), .pointer (some p1), .pointer (some p2)] .returning w fun e u' w' => e = .returned (.tuple #[]) ∧ u' = .returning ∧ w' = w := by
  refine callsD_of_wpS Tryz.func16 rfl fun c₀ cs hu => ?_
  apply wpS_seq
  apply wpS_region
  simp [wpOpsS, go_sem, recoverD, hu, Tryz.ntmps16, Exit.thenS]
  refine wpS_of_wp ?_
  go_wp2
  cases c₀
  simp_all [bodyPostS, results, Tryz.results16]
theorem results3 {P : Program} {fn : Func} {p0 p1 p2 : Tmp} {t0 t1 t2 : TypeId} (h : fn.results = #[.cell p0 t0, .cell p1 t1, .cell p2 t2]) (tmps : Array Value) (w : World) (a0 a1 a2 : Addr) (v0 v1 v2 : Value)
    (hp0 : tmps.getD p0 undef = .pointer (some a0)) (hp1 : tmps.getD p1 undef = .pointer (some a1)) (hp2 : tmps.getD p2 undef = .pointer (some a2))
    (h0 : (loadVar t0 a0).run P w = .ok v0 w) (h1 : (loadVar t1 a1).run P w = .ok v1 w) (h2 : (loadVar t2 a2).run P w = .ok v2 w) : (results fn tmps).run P w = .ok (.tuple #[v0, v1, v2]) w := by
  have q0 : tmps[p0]?.getD undef = .pointer (some a0) := by simpa using hp0
  have q1 : tmps[p1]?.getD undef = .pointer (some a1) := by simpa using hp1
  have q2 : tmps[p2]?.getD undef = .pointer (some a2) := by simpa using hp2
  simp [results, h, q0, q1, q2, asAddr, h0, h1, h2]
theorem load_int {w : World} {g : Nat} {x : Value} (h : w.heap[g]? = some (.cells #[x] 3 (0, 0))) : (loadVar 3 ⟨g, 0, none⟩).run Tryz.prog w = .ok x w := by
  have c := cells_at h 0 _ rfl
  simp [go_sem, c]
theorem load_errno {w : World} {g : Nat} {x : Value} (h : w.heap[g]? = some (.cells #[x] 27 (0, 0))) : (loadVar 27 ⟨g, 0, none⟩).run Tryz.prog w = .ok x w := by
  have c := cells_at h 0 _ rfl
  simp [go_sem, c]
theorem load_val {w : World} {g : Nat} {cs : Array Value} (hc : cs.size = 5) (h : w.heap[g]? = some (.cells cs 26 (0, 0))) : (loadVar 26 ⟨g, 0, none⟩).run Tryz.prog w = .ok (.agg cs) w :=
  run_loadVar_row w g _ _ cs _ _ h Tryz.underlying26 rfl (by rw [infoVal5, hc])
theorem below_of_grown {w W : World} {b : Nat} (h : w.grownBy W (some b)) (hb : w.heap.size ≤ b) : Below w.heap.size w W := ⟨h.os, h.tape, h.output, h.size, fun k hk => h.block k hk (by simp; omega)⟩
theorem stored_cell2 (W : World) (b b' o : Nat) (v0 v1 v2 v3 v4 : Value) (h : b' ≠ b) :
    (((((W.setCell ⟨b, 0, none⟩ v0).setCell ⟨b, 1, none⟩ v1).setCell ⟨b, 2, none⟩ v2).setCell ⟨b, 3, none⟩ v3).setCell ⟨b, 4, none⟩ v4).cell? ⟨b', o, none⟩ = W.cell? ⟨b', o, none⟩ := by
  refine World.cell?_of_block ?_
  rw [Below.heap_setCell _ _ _ _ h, Below.heap_setCell _ _ _ _ h, Below.heap_setCell _ _ _ _ h, Below.heap_setCell _ _ _ _ h, Below.heap_setCell _ _ _ _ h]
theorem stored_block (W : World) (b k : Nat) (v0 v1 v2 v3 v4 : Value) (h : k ≠ b) :
    (((((W.setCell ⟨b, 0, none⟩ v0).setCell ⟨b, 1, none⟩ v1).setCell ⟨b, 2, none⟩ v2).setCell ⟨b, 3, none⟩ v3).setCell ⟨b, 4, none⟩ v4).heap[k]? = W.heap[k]? := by
  rw [Below.heap_setCell _ _ _ _ h, Below.heap_setCell _ _ _ _ h, Below.heap_setCell _ _ _ _ h, Below.heap_setCell _ _ _ _ h, Below.heap_setCell _ _ _ _ h]
theorem dec_end (w0 W : World) (k i m p : Int) (t : ByteArray) (sl : Value) (c : Array Value) (hc : c.size = 5) (b : Nat) (hb : w0.heap.size ≤ b) (bW : Below w0.heap.size w0 W) (f0 : W.heap[b]? = some (.cells c 26 (0, 0))) (x1 x2 : Value) (f1 : W.heap[b + 1]? = some (.cells #[x1] 3 (0, 0))) (f2 : W.heap[b + 1 + 1]? = some (.cells #[x2] 27 (0, 0))) :
    ((((((((W.setCell ⟨b, 0, none⟩ (.int .i64 k)).setCell ⟨b, 1, none⟩ (.int .i64 i)).setCell ⟨b, 2, none⟩ (.int .i64 m)).setCell ⟨b, 3, none⟩ (.string t)).setCell ⟨b, 4, none⟩ sl).setCell ⟨b + 1, 0, none⟩ (.int .i64 p)).setCell ⟨b + 1 + 1, 0, none⟩ (.int .i64 0))).heap[b]? = some (.cells #[.int .i64 k, .int .i64 i, .int .i64 m, .string t, sl] 26 (0, 0)) ∧ ((((((((W.setCell ⟨b, 0, none⟩ (.int .i64 k)).setCell ⟨b, 1, none⟩ (.int .i64 i)).setCell ⟨b, 2, none⟩ (.int .i64 m)).setCell ⟨b, 3, none⟩ (.string t)).setCell ⟨b, 4, none⟩ sl).setCell ⟨b + 1, 0, none⟩ (.int .i64 p)).setCell ⟨b + 1 + 1, 0, none⟩ (.int .i64 0))).heap[b + 1]? = some (.cells #[.int .i64 p] 3 (0, 0)) ∧ ((((((((W.setCell ⟨b, 0, none⟩ (.int .i64 k)).setCell ⟨b, 1, none⟩ (.int .i64 i)).setCell ⟨b, 2, none⟩ (.int .i64 m)).setCell ⟨b, 3, none⟩ (.string t)).setCell ⟨b, 4, none⟩ sl).setCell ⟨b + 1, 0, none⟩ (.int .i64 p)).setCell ⟨b + 1 + 1, 0, none⟩ (.int .i64 0))).heap[b + 1 + 1]? = some (.cells #[.int .i64 0] 27 (0, 0)) ∧ Below w0.heap.size w0 ((((((((W.setCell ⟨b, 0, none⟩ (.int .i64 k)).setCell ⟨b, 1, none⟩ (.int .i64 i)).setCell ⟨b, 2, none⟩ (.int .i64 m)).setCell ⟨b, 3, none⟩ (.string t)).setCell ⟨b, 4, none⟩ sl).setCell ⟨b + 1, 0, none⟩ (.int .i64 p)).setCell ⟨b + 1 + 1, 0, none⟩ (.int .i64 0))) ∧ (∀ j o, b + 1 + 1 < j → ((((((((W.setCell ⟨b, 0, none⟩ (.int .i64 k)).setCell ⟨b, 1, none⟩ (.int .i64 i)).setCell ⟨b, 2, none⟩ (.int .i64 m)).setCell ⟨b, 3, none⟩ (.string t)).setCell ⟨b, 4, none⟩ sl).setCell ⟨b + 1, 0, none⟩ (.int .i64 p)).setCell ⟨b + 1 + 1, 0, none⟩ (.int .i64 0))).cell? ⟨j, o, none⟩ = W.cell? ⟨j, o, none⟩) ∧ W.heap.size ≤ ((((((((W.setCell ⟨b, 0, none⟩ (.int .i64 k)).setCell ⟨b, 1, none⟩ (.int .i64 i)).setCell ⟨b, 2, none⟩ (.int .i64 m)).setCell ⟨b, 3, none⟩ (.string t)).setCell ⟨b, 4, none⟩ sl).setCell ⟨b + 1, 0, none⟩ (.int .i64 p)).setCell ⟨b + 1 + 1, 0, none⟩ (.int .i64 0))).heap.size := by
  have st := stored w0 W k i m t sl c b hb bW hc f0
  have h1 := heap_setCell_same _ _ 0 _ _ (.int .i64 p) ((stored_block W b (b + 1) (.int .i64 k) (.int .i64 i) (.int .i64 m) (.string t) sl (by omega)).trans f1)
  have h2 := (stored_block W b (b + 1 + 1) (.int .i64 k) (.int .i64 i) (.int .i64 m) (.string t) sl (by omega)).trans f2
  have n1 : b + 1 + 1 ≠ b + 1 := by omega
  have n2 : b + 1 ≠ b + 1 + 1 := by omega
  have n3 : b ≠ b + 1 := by omega
  have n4 : b ≠ b + 1 + 1 := by omega
  refine ⟨?_, ?_, ?_, (st.2.setCell (by show w0.heap.size ≤ b + 1; omega) _).setCell (by show w0.heap.size ≤ b + 1 + 1; omega) _, fun j o hj => ?_, by simp [World.setCell]⟩
  · rw [Below.heap_setCell _ _ _ _ n4, Below.heap_setCell _ _ _ _ n3]
    exact st.1
  · rw [Below.heap_setCell _ _ _ _ n2]
    exact h1
  · exact heap_setCell_same _ _ 0 _ _ (.int .i64 0) ((Below.heap_setCell _ _ _ _ n1).trans h2)
  · refine World.cell?_of_block ?_
    rw [Below.heap_setCell _ _ _ _ (by show j ≠ b + 1 + 1; omega), Below.heap_setCell _ _ _ _ (by show j ≠ b + 1; omega)]
    exact stored_block W b j _ _ _ _ _ (by omega)
set_option maxRecDepth 100000 in
set_option maxHeartbeats 2000000 in
theorem decode_ok (n : Nat) (w : World) (sl : Value) (l : List UInt8) (v : Vl) (p' q' : Nat) (hT : Tabs w) (hB : BytesIn w 0 w.heap.size sl l) (hl : l.length ≤ 1000000000000) (hd : decM l n 0 0 = some (v, p', q')) (hr : rightV v = true) :
    Calls Tryz.prog 6 #[sl] w fun e w' => ∃ s', e = .returned (.tuple #[.agg (vcells v s'), .int .i64 p', .int .i64 0]) ∧ ItemsIn w' (fun b => w.heap.size ≤ b ∧ b < w'.heap.size) n s' v.items ∧ Below w.heap.size w w' := by
  have hmf : ∀ (fn : Fn) (first cap : Array Value) (w : World), (Instr.makeFunc fn first cap).run Tryz.prog w = .ok (.func fn first cap) w := fun _ _ _ _ => rfl
  obtain ⟨W, hW⟩ : ∃ W, ((w.alloc (.cells zcells 26)).alloc (.cells #[.int .i64 0] 3)).alloc (.cells #[.int .i64 0] 27) = W := ⟨_, rfl⟩
  have zW : W.heap.size = w.heap.size + 3 := by rw [← hW]; simp
  have bW : Below w.heap.size w W := by rw [← hW]; exact alloc_v (alloc_v (alloc_v (Below.refl _ _) _) _) _
  have e0 : W.heap[w.heap.size]? = some (.cells zcells 26 (0, 0)) := by rw [← hW]; exact (Below.heap_alloc _ _ _ (by simp only [World.size_alloc]; omega)).trans ((Below.heap_alloc _ _ _ (by simp only [World.size_alloc]; omega)).trans (World.alloc_heap_new w _))
  have e1 : W.heap[w.heap.size + 1]? = some (.cells #[.int .i64 0] 3 (0, 0)) := by
    rw [← hW]
    refine (Below.heap_alloc _ _ _ (by simp only [World.size_alloc]; omega)).trans ?_
    have := World.alloc_heap_new (w.alloc (.cells zcells 26)) (.cells #[.int .i64 0] 3)
    rwa [World.size_alloc] at this
  have e2 : W.heap[w.heap.size + 2]? = some (.cells #[.int .i64 0] 27 (0, 0)) := by
    rw [← hW]
    have := World.alloc_heap_new ((w.alloc (.cells zcells 26)).alloc (.cells #[.int .i64 0] 3)) (.cells #[.int .i64 0] 27)
    rwa [World.size_alloc, World.size_alloc] at this
  obtain ⟨a, c, rfl, _⟩ := id hB
  have hvt := (decM_ok hd).1
  obtain ⟨vk, vi, vm, vt, vl⟩ := v
  have hV := decv_k l n (W.alloc (.cells #[.slice a l.length c, .int .i64 0, .int .i64 0] 51)) (w.heap.size + 3) w.heap.size 0 0 (.slice a l.length c) ⟨vk, vi, vm, vt, vl⟩ p' q' (by rw [← zW]; exact World.alloc_heap_new W _) (hB.mono (fun b o _ hb => (alloc_v bW _).cell (p := ⟨b, o, none⟩) hb) (Nat.le_refl _) (Nat.le_refl _)) (by omega) (Nat.zero_le _) hl (by omega) hd
  have HV := hide hV
  have HT := hide (fun (U : World) (b : Below w.heap.size w U) => hT.below b)
  have HR := hide hr
  have HE := hide (And.intro e0 (And.intro e1 e2))
  clear hV hT hr e0 e1 e2 hd hB
  go_enter_defers Tryz.func6, Tryz.ntmps6
  go_wp2_with (first
    | (go_at_call 17; refine HV.out.mono ?_; clear HV; rintro e w2 ⟨s2, rfl, i2, d2, g2⟩; obtain ⟨sa, sc, rfl, _⟩ := i2.len; have bw2 := below_of_grown (grown_more (grown_of_below (alloc_v bW _)) g2) (show w.heap.size ≤ w.heap.size + 3 by omega); have f0 := (g2.block w.heap.size (by rw [World.size_alloc]; omega) (by simp)).trans ((Below.heap_alloc _ _ _ (by omega)).trans HE.out.1); have g := stored w w2 vk vi vm vt (.slice sa vl.length sc) zcells w.heap.size (Nat.le_refl _) bw2 rfl f0; have r0 := cells_at f0 0 _ rfl; have rz0 := frozen_at f0 0; have r1 := cells_at f0 1 _ rfl; have rz1 := frozen_at f0 1; have r2 := cells_at f0 2 _ rfl; have rz2 := frozen_at f0 2; have r3 := cells_at f0 3 _ rfl; have rz3 := frozen_at f0 3; have r4 := cells_at f0 4 _ rfl; have rz4 := frozen_at f0 4; have HRX := hide (right_k ⟨vk, vi, vm, vt, vl⟩ _ n (.slice sa vl.length sc) (HT.out _ g.2) hvt ((i2.kept (S' := fun b => b < (((((w2.setCell ⟨w.heap.size, 0, none⟩ (.int .i64 vk)).setCell ⟨w.heap.size, 1, none⟩ (.int .i64 vi)).setCell ⟨w.heap.size, 2, none⟩ (.int .i64 vm)).setCell ⟨w.heap.size, 3, none⟩ (.string vt)).setCell ⟨w.heap.size, 4, none⟩ (.slice sa vl.length sc)).heap.size) (fun b o hb => stored_cell2 _ _ _ _ _ _ _ _ _ (by have := hb.1; rw [World.size_alloc] at this; omega)) (fun b hb => by simpa using hb.2)).at (fun b hb => hb))); rw [HR.out] at HRX; have I2 := hide i2; have D2 := hide d2; have G2 := hide g2; have GG := hide g; have BW2 := hide bw2; clear i2 d2 g2 g bw2 f0)
    | (go_at_call 18; refine HRX.out.mono ?_; clear HRX; rintro e w3 ⟨rfl, b3⟩; have B3 := hide b3; clear b3))
  have hs2 := G2.out.size
  rw [World.size_alloc, zW] at hs2
  have hs3 := B3.out.size
  have hsX : w2.heap.size = (((((w2.setCell ⟨w.heap.size, 0, none⟩ (.int .i64 vk)).setCell ⟨w.heap.size, 1, none⟩ (.int .i64 vi)).setCell ⟨w.heap.size, 2, none⟩ (.int .i64 vm)).setCell ⟨w.heap.size, 3, none⟩ (.string vt)).setCell ⟨w.heap.size, 4, none⟩ (.slice sa vl.length sc)).heap.size := by simp [World.setCell]
  rw [← hsX] at hs3
  have f0 := (B3.out.block w.heap.size (by rw [← hsX]; omega)).trans GG.out.1
  have f1 := (B3.out.block (w.heap.size + 1) (by rw [← hsX]; omega)).trans ((stored_block _ _ _ _ _ _ _ _ (by omega)).trans ((G2.out.block (w.heap.size + 1) (by rw [World.size_alloc]; omega) (by simp)).trans ((Below.heap_alloc _ _ _ (by omega)).trans HE.out.2.1)))
  have f2 := (B3.out.block (w.heap.size + 2) (by rw [← hsX]; omega)).trans ((stored_block _ _ _ _ _ _ _ _ (by omega)).trans ((G2.out.block (w.heap.size + 2) (by rw [World.size_alloc]; omega) (by simp)).trans ((Below.heap_alloc _ _ _ (by omega)).trans HE.out.2.2)))
  have fd := (B3.out.block (w.heap.size + 3) (by rw [← hsX]; omega)).trans ((stored_block _ _ _ _ _ _ _ _ (by omega)).trans D2.out)
  have s0 := cells_at f0 0 _ rfl
  have sz0 := frozen_at f0 0
  have s1 := cells_at f0 1 _ rfl
  have sz1 := frozen_at f0 1
  have s2 := cells_at f0 2 _ rfl
  have sz2 := frozen_at f0 2
  have s3 := cells_at f0 3 _ rfl
  have sz3 := frozen_at f0 3
  have s4 := cells_at f0 4 _ rfl
  have sz4 := frozen_at f0 4
  have t0 := cells_at f1 0 _ rfl
  have tz0 := frozen_at f1 0
  have u0 := cells_at f2 0 _ rfl
  have uz0 := frozen_at f2 0
  have d1 := cells_at fd 1 _ rfl
  have dz1 := frozen_at fd 1
  have FF := hide (And.intro f0 (And.intro f1 (And.intro f2 fd)))
  clear f0 f1 f2 fd hs2 hs3 hsX r0 r1 r2 r3 r4 rz0 rz1 rz2 rz3 rz4 hmf hW
  go_region
  go_wp2
  refine leaves_cons (f := 16) (args := #[.pointer (some ⟨w.heap.size, 0, none⟩), .pointer (some ⟨w.heap.size + 1, 0, none⟩), .pointer (some ⟨w.heap.size + 1 + 1, 0, none⟩)]) (by simp) (by simp [go_sem]) ?_
  refine (decIdle _ _ _ _).mono ?_
  rintro e u' w4 ⟨rfl, rfl, rfl⟩
  obtain ⟨f0, f1, f2, fd⟩ := FF.out
  have E := dec_end w w3 vk vi vm p' vt (.slice sa vl.length sc) _ rfl w.heap.size (Nat.le_refl _) (trans_v GG.out.2 B3.out) f0 _ _ f1 f2
  generalize (((((((w3.setCell ⟨w.heap.size, 0, none⟩ (.int .i64 vk)).setCell ⟨w.heap.size, 1, none⟩ (.int .i64 vi)).setCell ⟨w.heap.size, 2, none⟩ (.int .i64 vm)).setCell ⟨w.heap.size, 3, none⟩ (.string vt)).setCell ⟨w.heap.size, 4, none⟩ (.slice sa vl.length sc)).setCell ⟨w.heap.size + 1, 0, none⟩ (.int .i64 p')).setCell ⟨w.heap.size + 1 + 1, 0, none⟩ (.int .i64 0)) = Y at E ⊢
  have EY : ∀ j : Nat, Y.drew.heap[j]? = Y.heap[j]? := fun _ => rfl
  have EC : ∀ b o : Nat, Y.drew.cell? ⟨b, o, none⟩ = Y.cell? ⟨b, o, none⟩ := fun _ _ => rfl
  have ES : Y.drew.heap.size = Y.heap.size := rfl
  refine ⟨_, results3 (t0 := 26) (t1 := 3) (t2 := 27) rfl _ _ ⟨w.heap.size, 0, none⟩ ⟨w.heap.size + 1, 0, none⟩ ⟨w.heap.size + 1 + 1, 0, none⟩ (.agg #[.int .i64 vk, .int .i64 vi, .int .i64 vm, .string vt, .slice sa vl.length sc]) (.int .i64 p') (.int .i64 0) rfl rfl rfl (load_val rfl ?_) (load_int ?_) (load_errno ?_), .slice sa vl.length sc, rfl, ?_, ?_⟩
  · rw [EY]; exact E.1
  · rw [EY]; exact E.2.1
  · rw [EY]; exact E.2.2.1
  rotate_left
  · exact ⟨E.2.2.2.1.os, E.2.2.2.1.tape, E.2.2.2.1.output, E.2.2.2.1.size, E.2.2.2.1.block⟩
  refine I2.out.kept (fun b o hb => ?_) (fun b hb => ⟨?_, ?_⟩)
  · have hb1 := hb.1
    rw [World.size_alloc, zW] at hb1
    rw [EC]
    refine (E.2.2.2.2.1 b o (by omega)).trans (((bcellV B3.out).1 b o ?_).trans (stored_cell2 _ _ _ _ _ _ _ _ _ (by omega)))
    simpa [World.setCell] using hb.2
  · have hb1 := hb.1
    rw [World.size_alloc] at hb1
    omega
  · have h1 := hb.2
    have h2 := B3.out.size
    have h3 : w2.heap.size ≤ w3.heap.size := by simpa [World.setCell] using h2
    rw [ES]
    exact Nat.lt_of_lt_of_le h1 (Nat.le_trans h3 E.2.2.2.2.2)
end Go.Proofs.YtngnlofjjlkcmaaGreatDoor
