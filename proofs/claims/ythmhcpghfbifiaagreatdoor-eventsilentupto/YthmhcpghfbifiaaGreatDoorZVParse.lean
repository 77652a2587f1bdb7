/- Parse: a set of numbers; a tuple of one number without its comma. -/
import Derived.Test.YthmhcpghfbifiaaGreatDoorGE7
import Derived.Test.YthmhcpghfbifiaaGreatDoorGOpens
namespace Go.Proofs.YthmhcpghfbifiaaGreatDoor
open Go.RowKit

set_option maxRecDepth 100000 in
theorem parIdle (p0 p1 : Addr) (w : World) :
    CallsD Tryz.prog 89 #[.pointer (some p0), .pointer (some p1)] .returning w fun e u' w' => e = .returned (.tuple #[]) ∧ u' = .returning ∧ w' = w := by
  refine callsD_of_wpS Tryz.func89 rfl fun c₀ cs hu => ?_
  apply wpS_seq
  apply wpS_region
  simp [wpOpsS, go_sem, recoverD, hu, Tryz.ntmps89, Exit.thenS]
  refine wpS_of_wp ?_
  go_wp2
  cases c₀
  simp_all [bodyPostS, results, Tryz.results89]
set_option maxHeartbeats 1000000 in
theorem catch_end (w : World) (b0 b1 : Nat) (c o l m : Int) (hne : b0 ≠ b1) (x0 x1 x2 x3 x4 y0 y1 y2 y3 : Value) (f0 : w.heap[b0]? = some (.cells #[x0, x1, x2, x3, x4] 46 (0, 0))) (f1 : w.heap[b1]? = some (.cells #[y0, y1, y2, y3] 34 (0, 0))) (Y : World) (hY : Y = (((((((((w.setCell ⟨b0, 0, none⟩ (.int .i64 0)).setCell ⟨b0, 1, none⟩ (.int .i64 0)).setCell ⟨b0, 2, none⟩ (.int .i64 0)).setCell ⟨b0, 3, none⟩ (.string ⟨#[]⟩)).setCell ⟨b0, 4, none⟩ (.slice none 0 0)).setCell ⟨b1, 0, none⟩ (.int .i64 c)).setCell ⟨b1, 1, none⟩ (.int .i64 o)).setCell ⟨b1, 2, none⟩ (.int .i64 l)).setCell ⟨b1, 3, none⟩ (.int .i64 m))) :
    Y.heap[b0]? = some (.cells zcells 46 (0, 0)) ∧ Y.heap[b1]? = some (.cells #[.int .i64 c, .int .i64 o, .int .i64 l, .int .i64 m] 34 (0, 0)) ∧ Y.heap.size = w.heap.size ∧ (∀ k, k ≠ b0 → k ≠ b1 → Y.heap[k]? = w.heap[k]?) ∧ Y.os = w.os ∧ Y.tape = w.tape ∧ Y.output = w.output := by
  subst hY
  have hne' : b1 ≠ b0 := fun e => hne e.symm
  have g1 := heap_setCell_same _ _ 0 _ _ (.int .i64 0) f0
  have g2 := heap_setCell_same _ _ 1 _ _ (.int .i64 0) g1
  have g3 := heap_setCell_same _ _ 2 _ _ (.int .i64 0) g2
  have g4 := heap_setCell_same _ _ 3 _ _ (.string ⟨#[]⟩) g3
  have g5 := heap_setCell_same _ _ 4 _ _ (.slice none 0 0) g4
  have k0 := (stored_block w b0 b1 (.int .i64 0) (.int .i64 0) (.int .i64 0) (.string ⟨#[]⟩) (.slice none 0 0) hne').trans f1
  have k1 := heap_setCell_same _ _ 0 _ _ (.int .i64 c) k0
  have k2 := heap_setCell_same _ _ 1 _ _ (.int .i64 o) k1
  have k3 := heap_setCell_same _ _ 2 _ _ (.int .i64 l) k2
  have k4 := heap_setCell_same _ _ 3 _ _ (.int .i64 m) k3
  have bb := ((((((((((Below.refl 0 w).setCell (p := ⟨b0, 0, none⟩) (Nat.zero_le _) (.int .i64 0)).setCell (p := ⟨b0, 1, none⟩) (Nat.zero_le _) (.int .i64 0)).setCell (p := ⟨b0, 2, none⟩) (Nat.zero_le _) (.int .i64 0)).setCell (p := ⟨b0, 3, none⟩) (Nat.zero_le _) (.string ⟨#[]⟩)).setCell (p := ⟨b0, 4, none⟩) (Nat.zero_le _) (.slice none 0 0)).setCell (p := ⟨b1, 0, none⟩) (Nat.zero_le _) (.int .i64 c)).setCell (p := ⟨b1, 1, none⟩) (Nat.zero_le _) (.int .i64 o)).setCell (p := ⟨b1, 2, none⟩) (Nat.zero_le _) (.int .i64 l)).setCell (p := ⟨b1, 3, none⟩) (Nat.zero_le _) (.int .i64 m))
  refine ⟨?_, k4, by simp [World.setCell], fun k h0 h1 => ?_, bb.os, bb.tape, bb.output⟩
  · rw [Below.heap_setCell _ _ _ _ hne, Below.heap_setCell _ _ _ _ hne, Below.heap_setCell _ _ _ _ hne, Below.heap_setCell _ _ _ _ hne]
    exact g5
  · rw [Below.heap_setCell _ _ _ _ h1, Below.heap_setCell _ _ _ _ h1, Below.heap_setCell _ _ _ _ h1, Below.heap_setCell _ _ _ _ h1]
    exact stored_block w b0 k _ _ _ _ _ h0
set_option maxRecDepth 100000 in
theorem parCatch (b0 b1 : Nat) (w : World) (c o l m : Int) (hne : b0 ≠ b1) (f0 : ∃ cs : Array Value, cs.size = 5 ∧ w.heap[b0]? = some (.cells cs 46 (0, 0))) (f1 : ∃ cs : Array Value, cs.size = 4 ∧ w.heap[b1]? = some (.cells cs 34 (0, 0))) :
    CallsD Tryz.prog 89 #[.pointer (some ⟨b0, 0, none⟩), .pointer (some ⟨b1, 0, none⟩)] (.panicking [{ v := .iface 34 (.agg #[.int .i64 c, .int .i64 o, .int .i64 l, .int .i64 m]), recovered := false }]) w fun e u' w' =>
      e = .returned (.tuple #[]) ∧ u' = .panicking [{ v := .iface 34 (.agg #[.int .i64 c, .int .i64 o, .int .i64 l, .int .i64 m]), recovered := true }] ∧
      w'.heap[b0]? = some (.cells zcells 46 (0, 0)) ∧ w'.heap[b1]? = some (.cells #[.int .i64 c, .int .i64 o, .int .i64 l, .int .i64 m] 34 (0, 0)) ∧ w'.heap.size = w.heap.size ∧ (∀ k, k ≠ b0 → k ≠ b1 → w'.heap[k]? = w.heap[k]?) ∧ w'.os = w.os ∧ w'.tape = w.tape ∧ w'.output = w.output := by
  obtain ⟨⟨l0⟩, h0, f0⟩ := f0
  obtain ⟨x0, x1, x2, x3, x4, rfl⟩ := list5 h0
  obtain ⟨⟨l1⟩, h1, f1⟩ := f1
  obtain ⟨y0, y1, y2, y3, rfl⟩ : ∃ y0 y1 y2 y3, l1 = [y0, y1, y2, y3] := by
    match l1, h1 with
    | [y0, y1, y2, y3], _ => exact ⟨_, _, _, _, rfl⟩
  have u0 := cells_at f0 0 _ rfl
  have uz0 := frozen_at f0 0
  have u1 := cells_at f0 1 _ rfl
  have uz1 := frozen_at f0 1
  have u2 := cells_at f0 2 _ rfl
  have uz2 := frozen_at f0 2
  have u3 := cells_at f0 3 _ rfl
  have uz3 := frozen_at f0 3
  have u4 := cells_at f0 4 _ rfl
  have uz4 := frozen_at f0 4
  have v0 := cells_at f1 0 _ rfl
  have vz0 := frozen_at f1 0
  have v1 := cells_at f1 1 _ rfl
  have vz1 := frozen_at f1 1
  have v2 := cells_at f1 2 _ rfl
  have vz2 := frozen_at f1 2
  have v3 := cells_at f1 3 _ rfl
  have vz3 := frozen_at f1 3
  have F0 := hide f0
  have F1 := hide f1
  have hne' : b1 ≠ b0 := fun e => hne e.symm
  have hta : ∀ w : World, (Instr.typeAssert (.iface 34 (.agg #[.int .i64 c, .int .i64 o, .int .i64 l, .int .i64 m])) 20 34 false).run Tryz.prog w = .ok (.agg #[.int .i64 c, .int .i64 o, .int .i64 l, .int .i64 m]) w := fun _ => by kernel_rfl
  clear f0 f1
  refine callsD_of_wpS Tryz.func89 rfl fun c₀ cs hu => ?_
  apply wpS_seq
  apply wpS_region
  simp [wpOpsS, go_sem, recoverD, hu, Tryz.ntmps89, Exit.thenS]
  refine wpS_of_wp ?_
  go_wp2
  simp only [Array.replicate_succ, Array.replicate_zero, List.push_toArray, List.nil_append, List.cons_append, List.setIfInBounds_toArray, List.set_cons_zero, List.set_cons_succ, List.append_toArray]
  go_region
  have E := catch_end w b0 b1 c o l m hne _ _ _ _ _ _ _ _ _ F0.out F1.out _ rfl
  generalize (((((((((w.setCell ⟨b0, 0, none⟩ (.int .i64 0)).setCell ⟨b0, 1, none⟩ (.int .i64 0)).setCell ⟨b0, 2, none⟩ (.int .i64 0)).setCell ⟨b0, 3, none⟩ (.string ⟨#[]⟩)).setCell ⟨b0, 4, none⟩ (.slice none 0 0)).setCell ⟨b1, 0, none⟩ (.int .i64 c)).setCell ⟨b1, 1, none⟩ (.int .i64 o)).setCell ⟨b1, 2, none⟩ (.int .i64 l)).setCell ⟨b1, 3, none⟩ (.int .i64 m)) = Y at E ⊢
  obtain ⟨q1, q2, q3, q4, q5, q6, q7⟩ := E
  refine ⟨rfl, _, rfl, .tuple #[], by simp [results, Tryz.results89], rfl, rfl, q1, q2, q3, q4, q5, q6, q7⟩
set_option maxHeartbeats 1000000 in
theorem two_end (w W : World) (b0 b1 : Nat) (hne : b0 ≠ b1) (h0 : w.heap.size ≤ b0) (h1 : w.heap.size ≤ b1) (bW : Below w.heap.size w W) (v0 v1 v2 v3 v4 u0 u1 u2 u3 : Value) (c0 c1 : Array Value) (z0 : c0.size = 5) (z1 : c1.size = 4) (f0 : W.heap[b0]? = some (.cells c0 46 (0, 0))) (f1 : W.heap[b1]? = some (.cells c1 34 (0, 0))) (Y : World) (hY : Y = (((((((((W.setCell ⟨b0, 0, none⟩ v0).setCell ⟨b0, 1, none⟩ v1).setCell ⟨b0, 2, none⟩ v2).setCell ⟨b0, 3, none⟩ v3).setCell ⟨b0, 4, none⟩ v4).setCell ⟨b1, 0, none⟩ u0).setCell ⟨b1, 1, none⟩ u1).setCell ⟨b1, 2, none⟩ u2).setCell ⟨b1, 3, none⟩ u3)) :
    Y.heap[b0]? = some (.cells #[v0, v1, v2, v3, v4] 46 (0, 0)) ∧ Y.heap[b1]? = some (.cells #[u0, u1, u2, u3] 34 (0, 0)) ∧ Y.heap.size = W.heap.size ∧ (∀ k, k ≠ b0 → k ≠ b1 → Y.heap[k]? = W.heap[k]?) ∧ Below w.heap.size w Y := by
  subst hY
  obtain ⟨l0⟩ := c0
  obtain ⟨x0, x1, x2, x3, x4, rfl⟩ := list5 z0
  obtain ⟨l1⟩ := c1
  obtain ⟨y0, y1, y2, y3, rfl⟩ : ∃ y0 y1 y2 y3, l1 = [y0, y1, y2, y3] := by
    match l1, z1 with
    | [y0, y1, y2, y3], _ => exact ⟨_, _, _, _, rfl⟩
  have hne' : b1 ≠ b0 := fun e => hne e.symm
  have g1 := heap_setCell_same _ _ 0 _ _ v0 f0
  have g2 := heap_setCell_same _ _ 1 _ _ v1 g1
  have g3 := heap_setCell_same _ _ 2 _ _ v2 g2
  have g4 := heap_setCell_same _ _ 3 _ _ v3 g3
  have g5 := heap_setCell_same _ _ 4 _ _ v4 g4
  have k0 := (stored_block W b0 b1 v0 v1 v2 v3 v4 hne').trans f1
  have k1 := heap_setCell_same _ _ 0 _ _ u0 k0
  have k2 := heap_setCell_same _ _ 1 _ _ u1 k1
  have k3 := heap_setCell_same _ _ 2 _ _ u2 k2
  have k4 := heap_setCell_same _ _ 3 _ _ u3 k3
  refine ⟨?_, k4, by simp [World.setCell], fun k h0 h1 => ?_, (((((((((bW.setCell (p := ⟨b0, 0, none⟩) h0 v0).setCell (p := ⟨b0, 1, none⟩) h0 v1).setCell (p := ⟨b0, 2, none⟩) h0 v2).setCell (p := ⟨b0, 3, none⟩) h0 v3).setCell (p := ⟨b0, 4, none⟩) h0 v4).setCell (p := ⟨b1, 0, none⟩) h1 u0).setCell (p := ⟨b1, 1, none⟩) h1 u1).setCell (p := ⟨b1, 2, none⟩) h1 u2).setCell (p := ⟨b1, 3, none⟩) h1 u3)⟩
  · rw [Below.heap_setCell _ _ _ _ hne, Below.heap_setCell _ _ _ _ hne, Below.heap_setCell _ _ _ _ hne, Below.heap_setCell _ _ _ _ hne]
    exact g5
  · rw [Below.heap_setCell _ _ _ _ h1, Below.heap_setCell _ _ _ _ h1, Below.heap_setCell _ _ _ _ h1, Below.heap_setCell _ _ _ _ h1]
    exact stored_block W b0 k _ _ _ _ _ h0
theorem results2 {P : Program} {fn : Func} {p0 p1 : Tmp} {t0 t1 : TypeId} (h : fn.results = #[.cell p0 t0, .cell p1 t1]) (tmps : Array Value) (w : World) (a0 a1 : Addr) (v0 v1 : Value)
    (hp0 : tmps.getD p0 undef = .pointer (some a0)) (hp1 : tmps.getD p1 undef = .pointer (some a1))
    (h0 : (loadVar t0 a0).run P w = .ok v0 w) (h1 : (loadVar t1 a1).run P w = .ok v1 w) : (results fn tmps).run P w = .ok (.tuple #[v0, v1]) w := by
  have q0 : tmps[p0]?.getD undef = .pointer (some a0) := by simpa using hp0
  have q1 : tmps[p1]?.getD undef = .pointer (some a1) := by simpa using hp1
  simp [results, h, q0, q1, asAddr, h0, h1]
theorem infoFault4 : (Tryz.prog.info? 34).map (·.size) = some 4 := by kernel_rfl
theorem load_fault {w : World} {g : Nat} {cs : Array Value} (hc : cs.size = 4) (h : w.heap[g]? = some (.cells cs 34 (0, 0))) : (loadVar 34 ⟨g, 0, none⟩).run Tryz.prog w = .ok (.agg cs) w :=
  run_loadVar_row w g _ _ cs _ _ h Tryz.underlying34 rfl (by rw [infoFault4, hc])
abbrev fz : Array Value := #[.int .i64 0, .int .i64 0, .int .i64 0, .int .i64 0]
/-- Parse's first statements. -/
theorem par_start (w W : World) (hW : (w.alloc (.cells zcells 46)).alloc (.cells fz 34) = W) : Below w.heap.size w W ∧ W.heap.size = w.heap.size + 2 ∧ W.heap[w.heap.size]? = some (.cells zcells 46 (0, 0)) ∧ W.heap[w.heap.size + 1]? = some (.cells fz 34 (0, 0)) := by
  subst hW
  refine ⟨alloc_v (alloc_v (Below.refl _ _) _) _, by simp, (Below.heap_alloc _ _ _ (by simp)).trans (World.alloc_heap_new w _), ?_⟩
  have := World.alloc_heap_new (w.alloc (.cells zcells 46)) (.cells fz 34)
  rwa [World.size_alloc] at this
set_option maxRecDepth 100000 in
set_option maxHeartbeats 4000000 in
theorem parse_set (w : World) (s : List UInt8) (n : Nat) (l : List Vl) (u : Tk) (hs : s.length ≤ 1048576) (hT : Tabs w) (hk : (cutM s 0).kind = 123) (hne : ¬ (stepM s (cutM s 0)).kind = 125) (hm : numsM s 125 n (stepM s (cutM s 0)) = some (l, u)) (hn : n ≤ 4000) (hu : u.kind = -1) :
    Calls Tryz.prog 68 #[.string (str s)] w fun e w' => ∃ s', e = .returned (.tuple #[.agg (vcells ⟨7, 0, 0, ⟨#[]⟩, setV l⟩ s'), .agg fz]) ∧ ItemsIn w' (fun b => w.heap.size ≤ b ∧ b < w'.heap.size) 2 s' (setV l) ∧ Below w.heap.size w w' := by
  have hmf : ∀ (fn : Fn) (first cap : Array Value) (w : World), (Instr.makeFunc fn first cap).run Tryz.prog w = .ok (.func fn first cap) w := fun _ _ _ _ => rfl
  obtain ⟨W, hW⟩ : ∃ W, (w.alloc (.cells zcells 46)).alloc (.cells fz 34) = W := ⟨_, rfl⟩
  obtain ⟨bW, zW, e0, e1⟩ := par_start w W hW
  have hat : AtTok s (cutM s 0) := ⟨0, Nat.zero_le _, rfl⟩
  have HC := hide (cut_k s 0 (Nat.zero_le _) hs W (hT.below bW))
  have HV := hide (fun (w2 : World) (pb : Nat) (hP : ParAt w2 pb s (cutM s 0) 0) (b : Below w.heap.size w w2) (hpb : w.heap.size ≤ pb) => val_set w2 pb s (cutM s 0) 0 n 1 l u hP hs hat (hT.below b) (by omega) (by decide) (by decide) ⟨by have := hT.room; omega, by have := hT.room; omega⟩ hk hne hm)
  have HT := hide hT
  have HU := hide hu
  have HE := hide (And.intro e0 e1)
  clear e0 e1 hT hm hk hne hu hat
  generalize cutM s 0 = t0 at *
  obtain ⟨tk, to, tt⟩ := t0
  go_enter_defers Tryz.func68, Tryz.ntmps68
  go_wp2_with (first
    | (go_at_call 90; refine HC.out.mono ?_; clear HC; rintro e w1 ⟨rfl, b1⟩; have hz1 := b1.size; have bw1 := trans_v bW b1; have f0 := (b1.block w.heap.size (by omega)).trans HE.out.1; have f1 := (b1.block (w.heap.size + 1) (by omega)).trans HE.out.2; have HVV := hide (HV.out (w1.alloc (.cells #[.string (str s), .int .i32 tk, .int .i64 to, .string tt, .int .i64 0] 151)) w1.heap.size (World.alloc_heap_new w1 _) (alloc_v bw1 _) bw1.size); have F0 := hide ((Below.heap_alloc w1 (.cells #[.string (str s), .int .i32 tk, .int .i64 to, .string tt, .int .i64 0] 151) _ (by omega)).trans f0); have F1 := hide ((Below.heap_alloc w1 (.cells #[.string (str s), .int .i32 tk, .int .i64 to, .string tt, .int .i64 0] 151) _ (by omega)).trans f1); have BW1 := hide bw1; clear b1 bw1 f0 f1 HV)
    | (go_at_call 91; refine HVV.out.mono ?_; clear HVV; rintro e w7 ⟨s7, q7, rfl, i7, p7, a7, g7⟩; have hz7 := g7.size; rw [World.size_alloc] at hz7; obtain ⟨sa, sc, rfl, _⟩ := i7.len; have k0 := (g7.block w.heap.size (by rw [World.size_alloc]; omega) (by simp; omega)).trans F0.out; have k1 := (g7.block (w.heap.size + 1) (by rw [World.size_alloc]; omega) (by simp; omega)).trans F1.out; have r0 := cells_at k0 0 _ rfl; have rz0 := frozen_at k0 0; have r1 := cells_at k0 1 _ rfl; have rz1 := frozen_at k0 1; have r2 := cells_at k0 2 _ rfl; have rz2 := frozen_at k0 2; have r3 := cells_at k0 3 _ rfl; have rz3 := frozen_at k0 3; have r4 := cells_at k0 4 _ rfl; have rz4 := frozen_at k0 4; have b7 := below_of_grown (grown_more (grown_of_below (alloc_v BW1.out _)) g7) BW1.out.size; have st := stored w w7 7 0 0 ⟨#[]⟩ (.slice sa (setV l).length sc) zcells w.heap.size (Nat.le_refl _) b7 rfl k0; have HX := hide (expect_yes _ w1.heap.size s u q7 ((stored_block w7 w.heap.size w1.heap.size (.int .i64 7) (.int .i64 0) (.int .i64 0) (.string ⟨#[]⟩) (.slice sa (setV l).length sc) (by omega)).trans p7) hs a7.room (HT.out.below st.2) (-1) HU.out); have ST := hide st; have K1 := hide k1; have I7 := hide i7; have G7 := hide g7; have hzz := hz7; clear i7 p7 a7 g7 k0 k1 st b7)
    | (go_at_call 92; refine HX.out.mono ?_; clear HX; rintro e w9 ⟨rfl, p9, g9⟩; have hzs := g9.size; have j0 := (g9.block w.heap.size (by simp [World.setCell]; omega) (by simp; omega)).trans ST.out.1; have j1 := (g9.block (w.heap.size + 1) (by simp [World.setCell]; omega) (by simp; omega)).trans ((stored_block w7 w.heap.size (w.heap.size + 1) _ _ _ _ _ (by omega)).trans K1.out); have m0 := cells_at j0 0 _ rfl; have mz0 := frozen_at j0 0; have m1 := cells_at j0 1 _ rfl; have mz1 := frozen_at j0 1; have m2 := cells_at j0 2 _ rfl; have mz2 := frozen_at j0 2; have m3 := cells_at j0 3 _ rfl; have mz3 := frozen_at j0 3; have m4 := cells_at j0 4 _ rfl; have mz4 := frozen_at j0 4; have n0 := cells_at j1 0 _ rfl; have nz0 := frozen_at j1 0; have n1 := cells_at j1 1 _ rfl; have nz1 := frozen_at j1 1; have n2 := cells_at j1 2 _ rfl; have nz2 := frozen_at j1 2; have n3 := cells_at j1 3 _ rfl; have nz3 := frozen_at j1 3; have J0 := hide j0; have J1 := hide j1; have G9 := hide g9; clear p9 g9 j0 j1 r0 r1 r2 r3 r4 rz0 rz1 rz2 rz3 rz4))
  refine leaves_cons (f := 89) (args := #[.pointer (some ⟨w.heap.size, 0, none⟩), .pointer (some ⟨w.heap.size + 1, 0, none⟩)]) (by simp) (by simp [go_sem]) ?_
  refine (parIdle _ _ _).mono ?_
  rintro e u' w4 ⟨rfl, rfl, rfl⟩
  have bw9 : Below w.heap.size w w9 := below_of_grown (grown_more (grown_of_below ST.out.2) G9.out) BW1.out.size
  have E := two_end w w9 w.heap.size (w.heap.size + 1) (by omega) (Nat.le_refl _) (by omega) bw9 (.int .i64 7) (.int .i64 0) (.int .i64 0) (.string ⟨#[]⟩) (.slice sa (setV l).length sc) (.int .i64 0) (.int .i64 0) (.int .i64 0) (.int .i64 0) _ _ rfl rfl J0.out J1.out _ rfl
  generalize (((((((((w9.setCell ⟨w.heap.size, 0, none⟩ (.int .i64 7)).setCell ⟨w.heap.size, 1, none⟩ (.int .i64 0)).setCell ⟨w.heap.size, 2, none⟩ (.int .i64 0)).setCell ⟨w.heap.size, 3, none⟩ (.string ⟨#[]⟩)).setCell ⟨w.heap.size, 4, none⟩ (.slice sa (setV l).length sc)).setCell ⟨w.heap.size + 1, 0, none⟩ (.int .i64 0)).setCell ⟨w.heap.size + 1, 1, none⟩ (.int .i64 0)).setCell ⟨w.heap.size + 1, 2, none⟩ (.int .i64 0)).setCell ⟨w.heap.size + 1, 3, none⟩ (.int .i64 0)) = Y at E ⊢
  refine ⟨_, results2 (t0 := 46) (t1 := 34) rfl _ _ ⟨w.heap.size, 0, none⟩ ⟨w.heap.size + 1, 0, none⟩ (.agg #[.int .i64 7, .int .i64 0, .int .i64 0, .string ⟨#[]⟩, .slice sa (setV l).length sc]) (.agg fz) rfl rfl (load_val rfl E.1) (load_fault rfl E.2.1), .slice sa (setV l).length sc, rfl, ?_, E.2.2.2.2⟩
  have hzX : w7.heap.size ≤ w9.heap.size := by simpa [World.setCell] using hzs
  refine I7.out.kept (fun b o hb => ?_) (fun b hb => ⟨?_, ?_⟩)
  · have hb1 := hb.1
    rw [World.size_alloc] at hb1
    refine (World.cell?_of_block (E.2.2.2.1 b (by omega) (by omega))).trans ((World.cell?_of_block (G9.out.block b (by simpa [World.setCell] using hb.2) (by simp; omega))).trans (stored_cell2 _ _ _ _ _ _ _ _ _ (by omega)))
  · have hb1 := hb.1
    rw [World.size_alloc] at hb1
    omega
  · rw [E.2.2.1]
    exact Nat.lt_of_lt_of_le hb.2 hzX
set_option maxRecDepth 100000 in
set_option maxHeartbeats 4000000 in
theorem parse_tuple_no (w : World) (s : List UInt8) (hs : s.length ≤ 1048576) (hT : Tabs w) (hk : (cutM s 0).kind = 40) (hk2 : (stepM s (cutM s 0)).kind = 48) (hn : numE (stepM s (cutM s 0)).text.data.toList = 0) (hc : ¬ (stepM s (stepM s (cutM s 0))).kind = 44) (o : Nat) (ho : (stepM s (stepM s (cutM s 0))).off = o) :
    Calls Tryz.prog 68 #[.string (str s)] w fun e w' => e = .returned (.tuple #[.agg zcells, .agg #[.int .i64 41, .int .i64 (clamp (str s) o : Nat), .int .i64 (atR (clamp (str s) o) 0 1 1 (ru s)).1, .int .i64 (atR (clamp (str s) o) 0 1 1 (ru s)).2]]) ∧ Below w.heap.size w w' := by
  have hmf : ∀ (fn : Fn) (first cap : Array Value) (w : World), (Instr.makeFunc fn first cap).run Tryz.prog w = .ok (.func fn first cap) w := fun _ _ _ _ => rfl
  obtain ⟨W, hW⟩ : ∃ W, (w.alloc (.cells zcells 46)).alloc (.cells fz 34) = W := ⟨_, rfl⟩
  obtain ⟨bW, zW, e0, e1⟩ := par_start w W hW
  have hat : AtTok s (cutM s 0) := ⟨0, Nat.zero_le _, rfl⟩
  have HC := hide (cut_k s 0 (Nat.zero_le _) hs W (hT.below bW))
  have HV := hide (fun (w2 : World) (pb : Nat) (hP : ParAt w2 pb s (cutM s 0) 0) (b : Below w.heap.size w w2) (hpb : w.heap.size ≤ pb) => val_tuple_no w2 pb s (cutM s 0) 0 1 hP hs hat (hT.below b) (by omega) (by decide) (by decide) ⟨by have := hT.room; omega, by have := hT.room; omega⟩ hk hk2 hn hc)
  rw [ho] at HV
  have HE := hide (And.intro e0 e1)
  clear e0 e1 hT hk hk2 hn hc hat ho
  generalize cutM s 0 = t0 at *
  obtain ⟨tk, to, tt⟩ := t0
  go_enter_defers Tryz.func68, Tryz.ntmps68
  go_wp2_with (first
    | (go_at_call 90; refine HC.out.mono ?_; clear HC; rintro e w1 ⟨rfl, b1⟩; have hz1 := b1.size; have bw1 := trans_v bW b1; have f0 := (b1.block w.heap.size (by omega)).trans HE.out.1; have f1 := (b1.block (w.heap.size + 1) (by omega)).trans HE.out.2; have HVV := hide (HV.out (w1.alloc (.cells #[.string (str s), .int .i32 tk, .int .i64 to, .string tt, .int .i64 0] 151)) w1.heap.size (World.alloc_heap_new w1 _) (alloc_v bw1 _) bw1.size); have F0 := hide ((Below.heap_alloc w1 (.cells #[.string (str s), .int .i32 tk, .int .i64 to, .string tt, .int .i64 0] 151) _ (by omega)).trans f0); have F1 := hide ((Below.heap_alloc w1 (.cells #[.string (str s), .int .i32 tk, .int .i64 to, .string tt, .int .i64 0] 151) _ (by omega)).trans f1); have BW1 := hide bw1; clear b1 bw1 f0 f1 HV)
    | (go_at_call 91; refine HVV.out.mono ?_; clear HVV; rintro e w7 ⟨rfl, g7⟩; have hz7 := g7.size; rw [World.size_alloc] at hz7; have K0 := hide ((g7.block w.heap.size (by rw [World.size_alloc]; omega) (by simp; omega)).trans F0.out); have K1 := hide ((g7.block (w.heap.size + 1) (by rw [World.size_alloc]; omega) (by simp; omega)).trans F1.out); have B7 := hide (below_of_grown (grown_more (grown_of_below (alloc_v BW1.out _)) g7) BW1.out.size); clear g7))
  refine leaves_cons (f := 89) (args := #[.pointer (some ⟨w.heap.size, 0, none⟩), .pointer (some ⟨w.heap.size + 1, 0, none⟩)]) (by simp) (by simp [go_sem]) ?_
  refine (parCatch w.heap.size (w.heap.size + 1) w7 41 (clamp (str s) o : Nat) (atR (clamp (str s) o) 0 1 1 (ru s)).1 (atR (clamp (str s) o) 0 1 1 (ru s)).2 (by omega) ⟨_, rfl, K0.out⟩ ⟨_, rfl, K1.out⟩).mono ?_
  rintro e u' w9 ⟨rfl, rfl, q1, q2, q3, q4, q5, q6, q7⟩
  refine ⟨_, results2 (t0 := 46) (t1 := 34) rfl _ _ ⟨w.heap.size, 0, none⟩ ⟨w.heap.size + 1, 0, none⟩ (.agg zcells) (.agg #[.int .i64 41, .int .i64 (clamp (str s) o : Nat), .int .i64 (atR (clamp (str s) o) 0 1 1 (ru s)).1, .int .i64 (atR (clamp (str s) o) 0 1 1 (ru s)).2]) rfl rfl (load_val rfl q1) (load_fault rfl q2), rfl, ?_⟩
  exact ⟨q5.trans B7.out.os, q6.trans B7.out.tape, q7.trans B7.out.output, by rw [q3]; exact B7.out.size, fun k hk => (q4 k (by omega) (by omega)).trans (B7.out.block k hk)⟩
end Go.Proofs.YthmhcpghfbifiaaGreatDoor
