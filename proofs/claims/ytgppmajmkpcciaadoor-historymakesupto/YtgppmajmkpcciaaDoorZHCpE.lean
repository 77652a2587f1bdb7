/- The statements' own CopyEvents. -/
import Derived.Test.YtgppmajmkpcciaaDoorGHRfB
import Derived.Test.YtgppmajmkpcciaaDoorZHLaid
import Derived.Test.YtgppmajmkpcciaaDoorZVRefCopy
import Derived.Deep.Cut
namespace Go.Proofs.YtgppmajmkpcciaaDoor
open Go.RowKit Go.Maps

/-- An event is laid behind the others. -/
theorem evPush {w : World} {L n : Nat} {v : Value} {xs : List Value} (h : w.ownsRow L 46 12 v n xs) (hL : L ≤ w.heap.size) (hn : n + 1 ≤ 1000000000) (x : EV) (ty : TypeId) (h1 : ∃ a m c, x.2 = .slice a m c) :
    ∃ g cap w', (Builtin.append_ #[22, 22] ty #[v, .slice (some ⟨w.heap.size, 0, none⟩) 1 1]).run Tryd.prog (w.alloc (.cells ⟨evOf x⟩ 46)) = .ok (.slice (some ⟨g, 0, none⟩) (n + 1) cap) w' ∧ w'.ownsRow L 46 12 (.slice (some ⟨g, 0, none⟩) (n + 1) cap) (n + 1) (xs ++ evOf x) ∧ w.grownBy w' v.ownBlock ∧ (v.ownBlock = some g ∨ w.heap.size ≤ g) := by
  obtain ⟨i0, hi, hz0, hz1, hz2⟩ := info_partsV infoEv
  obtain ⟨a1, m1, c1, e1⟩ := h1
  have bA : Below w.heap.size w (w.alloc (.cells ⟨evOf x⟩ 46)) := alloc_v (Below.refl _ _) _
  have e := World.alloc_heap_new w (.cells ⟨evOf x⟩ 46)
  have hA : (w.alloc (.cells ⟨evOf x⟩ 46)).ownsRow L 46 12 v n xs := h.kept (grown_of_below (r := none) bA) (by cases v.ownBlock <;> simp)
  obtain ⟨g, cap, w', hrun, A1, A2, A3, A4⟩ := run_append_lies (P := Tryd.prog) (w.alloc (.cells ⟨evOf x⟩ 46)) 22 ty L 46 i0 _ 12 144 Tryd.underlying22 hi hz0 hz1 hz2 rfl (by decide) v n xs hA ⟨w.heap.size, 0, none⟩ 1 1 (evOf x) rfl (fun j u hj => by
      rw [Addr.add_lit, Nat.zero_add]
      exact cells_at e j u (by simpa using hj)) (fun u hu => by
      simp only [evOf, List.mem_cons, List.not_mem_nil, or_false, e1] at hu
      rcases hu with rfl | rfl | rfl | rfl | rfl | rfl | rfl | rfl | rfl | rfl | rfl | rfl <;> rfl) (by omega) (by unfold maxLen; omega) (by omega) (by rw [World.size_alloc]; omega) (w.heap.size + 1) (by rw [World.size_alloc])
  refine ⟨g, cap, w', hrun, A1, ?_, ?_⟩
  · exact (World.grownBy_alloc w _ _).trans A2
  · rcases A3 with A3 | A3
    · exact .inl A3
    · exact .inr (by omega)
/-- Events in the making: I are the blocks in which their values' items lie. -/
structure CeAt (w : World) (h0 n : Nat) (I : Nat → Prop) (v : Value) (E : List EV) : Prop where
  row : w.ownsRow h0 46 12 v E.length (erow E)
  its : ∀ x ∈ E, ItemsIn w I n x.2 x.1.val.items ∧ EvOk x.1 ∧ x.1.val.size ≤ 1000000000
  no : ∀ b, I b → b < w.heap.size ∧ v.ownBlock ≠ some b
theorem CeAt.below {w w' : World} {h0 n : Nat} {I : Nat → Prop} {v : Value} {E : List EV} (h : CeAt w h0 n I v E) (hb : Below w.heap.size w w') : CeAt w' h0 n I v E :=
  ⟨(Keeps.below (M := fun _ => False) hb).row h.row (fun _ _ h => h), fun x hx => ⟨(h.its x hx).1.kept (fun b o hS => cell_block (hb.block b (h.no b hS).1) o) (fun _ h => h), (h.its x hx).2⟩, fun b hS => ⟨Nat.lt_of_lt_of_le (h.no b hS).1 hb.size, (h.no b hS).2⟩⟩
theorem erow_snoc (E : List EV) (x : EV) : erow (E ++ [x]) = erow E ++ evOf x := by simp [erow]
theorem CeAt.push {w W : World} {h0 n q cap : Nat} {I J : Nat → Prop} {v : Value} {E : List EV} (h : CeAt w h0 n I v E) (x : EV)
    (hr : W.ownsRow h0 46 12 (.slice (some ⟨q, 0, none⟩) (E.length + 1) cap) (E.length + 1) (erow E ++ evOf x)) (gr : w.grownBy W v.ownBlock) (lie : v.ownBlock = some q ∨ w.heap.size ≤ q)
    (hx : ItemsIn w J n x.2 x.1.val.items) (ho : EvOk x.1) (hz : x.1.val.size ≤ 1000000000) (hJ : ∀ b, J b → b < w.heap.size ∧ v.ownBlock ≠ some b) : CeAt W h0 n (fun b => I b ∨ J b) (.slice (some ⟨q, 0, none⟩) (E.length + 1) cap) (E ++ [x]) := by
  have kA : Keeps (fun y => v.ownBlock = some y) w W := Keeps.grown gr (fun r e => e)
  have hk : ∀ b o, (b < w.heap.size ∧ v.ownBlock ≠ some b) → W.cell? ⟨b, o, none⟩ = w.cell? ⟨b, o, none⟩ := fun b o hS => cell_block (kA.block b hS.1 hS.2) o
  have hS : ∀ b, (b < w.heap.size ∧ v.ownBlock ≠ some b) → b < W.heap.size ∧ (Value.slice (some ⟨q, 0, none⟩) (E.length + 1) cap).ownBlock ≠ some b := fun b hb => ⟨Nat.lt_of_lt_of_le hb.1 kA.size, fun e => by
    have e' : q = b := Option.some.inj e
    rcases lie with l | l
    · exact hb.2 (by rw [l, e'])
    · have := hb.1; omega⟩
  refine ⟨by rw [erow_snoc, List.length_append, List.length_singleton]; exact hr, fun y hy => ?_, fun b hb => hS b (hb.elim (h.no b) (hJ b))⟩
  rcases List.mem_append.1 hy with hy | hy
  · exact ⟨(h.its y hy).1.kept (fun b o hb => hk b o (h.no b hb)) (fun _ hb => .inl hb), (h.its y hy).2⟩
  · simp at hy
    subst hy
    exact ⟨hx.kept (fun b o hb => hk b o (hJ b hb)) (fun _ hb => .inr hb), ho, hz⟩
theorem CeAt.evs {w : World} {h0 n : Nat} {I : Nat → Prop} {v : Value} {E : List EV} (h : CeAt w h0 n I v E) (hl : E.length ≤ 1000000000) : EvsAt w w.heap.size n v (E.map (·.1)) := by
  have hg : EvsGood w w.heap.size n E := fun x hx => ⟨(h.its x hx).1.at (fun b hb => (h.no b hb).1), (h.its x hx).2⟩
  rcases Nat.eq_zero_or_pos E.length with h0' | h0'
  · have : E = [] := List.length_eq_zero_iff.1 h0'
    subst this
    obtain ⟨a, c, e⟩ := rowLen h.row
    exact ⟨a, c, e, by simp, fun j hj => by simp at hj⟩
  · obtain ⟨g, cap, rfl, hL, hgl⟩ := h.row.form h0'
    exact evs_of_row h.row hl hg (Nat.le_refl _)

set_option maxRecDepth 100000 in
set_option maxHeartbeats 4000000 in
theorem copyE_k (l : List Evn) (w : World) (n : Nat) (sl : Value) (hi : EvsAt w w.heap.size n sl l) (hln : l.length + 1 ≤ 1000000000) :
    Calls Tryd.prog 5 #[sl] w fun e w' => ∃ v, e = .returned v ∧ EvsAt w' w'.heap.size n v l ∧ Below w.heap.size w w' := by
  have HI := hide hi
  obtain ⟨a, c, rfl, hlen⟩ := hi.len
  clear hi
  go_enter Tryd.func5, Tryd.ntmps5
  go_wp2
  go_loopw [3, 4] (fun v i wr => ∃ (k : Nat) (I : Nat → Prop) (E : List EV), k ≤ l.length ∧ i = .int .i64 k ∧ E.map (·.1) = l.take k ∧ CeAt wr w.heap.size n I v E ∧ Below w.heap.size w wr) (fun _ i _ => l.length - (intOf i).toNat)
  case atStart => exact ⟨0, fun _ => False, [], Nat.zero_le _, rfl, rfl, ⟨World.ownsRow_nil _ _ _ _, fun x h => by simp at h, fun _ h => h.elim⟩, Below.refl _ _⟩
  case round =>
    obtain ⟨k, I, E, hk, rfl, hE, hC, hbel⟩ := hrel
    have hEl : E.length = k := by have := congrArg List.length hE; simp at this; omega
    by_cases hlt : k < l.length
    · obtain ⟨b3, o3, s3, rfl, g3, p0, p1, p2, p3, p4, p5, p6, p7, p8, p9, p10, p11, pi, pk, pz⟩ := (HI.out.below hbel).item k hlt
      have hz := hbel.size
      obtain ⟨U, hU⟩ : ∃ U, wr.alloc (.cells (evCells l[k] s3) 46) = U := ⟨_, rfl⟩
      have d1 : Below wr.heap.size wr U := by rw [← hU]; exact alloc_v (Below.refl _ _) _
      have k1 : U.heap[wr.heap.size]? = some (.cells (evCells l[k] s3) 46 (0, 0)) := by rw [← hU]; exact World.alloc_heap_new wr _
      have n1 : U.heap.size = wr.heap.size + 1 := by rw [← hU]; simp
      have HCP := hide (refCopy_k l[k].val U n s3 pz ((pi.below (d1.mono hz)).up (by omega)))
      have HPI := hide pi
      obtain ⟨xx3, yy3, rfl, _⟩ := pi.len
      have s4 := cells_at k1 4 _ rfl
      have s5 := cells_at k1 5 _ rfl
      have s6 := cells_at k1 6 _ rfl
      have s7 := cells_at k1 7 _ rfl
      have s8 := cells_at k1 8 _ rfl
      have bd : b3 < wr.heap.size := by omega
      have K1 := hide k1
      have HD := hide d1
      have HBE := hide hbel
      have HCE := hide hC
      obtain ⟨va, vc, e0⟩ := rowLen hC.row
      subst e0
      clear k1 d1 hbel hC pi
      generalize hek : l[k] = ek at *
      go_upto_region 7 with (go_at_call 20; refine HCP.out.mono ?_; clear HCP; rintro r w2 ⟨s', rfl, i0, _, i1, b2⟩; obtain ⟨xa, xc, e2, _⟩ := i0.len; have f2 := (b2.block _ (show wr.heap.size < U.heap.size by omega)).trans K1.out; have F2 := hide f2; have I1 := hide i1; have B2 := hide b2; have t4 := cells_at f2 4 _ rfl; have t5 := cells_at f2 5 _ rfl; have t6 := cells_at f2 6 _ rfl; have t7 := cells_at f2 7 _ rfl; have t8 := cells_at f2 8 _ rfl; have q4 := frozen_at f2 4; have q5 := frozen_at f2 5; have q6 := frozen_at f2 6; have q7 := frozen_at f2 7; have q8 := frozen_at f2 8; subst e2; clear f2 i0 i1 b2)
      have g4 := heap_setCell_same _ _ 4 _ _ (.int .i64 ek.val.kind) F2.out
      have g5 := heap_setCell_same _ _ 5 _ _ (.int .i64 ek.val.int) g4
      have g6 := heap_setCell_same _ _ 6 _ _ (.int .i64 ek.val.im) g5
      have g7 := heap_setCell_same _ _ 7 _ _ (.string ek.val.text) g6
      have g8 := heap_setCell_same _ _ 8 _ _ (.slice xa ek.val.items.length xc) g7
      have kp := ((((Keeps.set w2 wr.heap.size 4 (.int .i64 ek.val.kind)).trans (Keeps.set _ wr.heap.size 5 (.int .i64 ek.val.int)) (fun _ _ h => h)).trans (Keeps.set _ wr.heap.size 6 (.int .i64 ek.val.im)) (fun _ _ h => h)).trans (Keeps.set _ wr.heap.size 7 (.string ek.val.text)) (fun _ _ h => h)).trans (Keeps.set _ wr.heap.size 8 (.slice xa ek.val.items.length xc)) (fun _ _ h => h)
      obtain ⟨W3, hW3⟩ : ∃ W3, (((((w2.setCell ⟨wr.heap.size, 4, none⟩ (.int .i64 ek.val.kind)).setCell ⟨wr.heap.size, 5, none⟩ (.int .i64 ek.val.int)).setCell ⟨wr.heap.size, 6, none⟩ (.int .i64 ek.val.im)).setCell ⟨wr.heap.size, 7, none⟩ (.string ek.val.text)).setCell ⟨wr.heap.size, 8, none⟩ (.slice xa ek.val.items.length xc)) = W3 := ⟨_, rfl⟩
      rw [hW3] at g8 kp ⊢
      clear hW3 g4 g5 g6 g7 t4 t5 t6 t7 t8 q4 q5 q6 q7 q8 s4 s5 s6 s7 s8
      have g9 : W3.heap[wr.heap.size]? = some (.cells (evCells ek (.slice xa ek.val.items.length xc)) 46 (0, 0)) := g8
      have bA := trans_v HD.out B2.out
      have hz2 := B2.out.size
      have b3w : Below wr.heap.size wr W3 := bA.trans (kp.toBelow (by omega) (fun x h => by omega))
      have hC3 := HCE.out.below b3w
      have hin : ItemsIn W3 (fun b => b < w.heap.size ∨ (wr.heap.size + 1 ≤ b ∧ b < W3.heap.size)) n (.slice xa ek.val.items.length xc) ek.val.items := by
        have hk3 := kp.size
        rcases I1.out with e | e
        · cases e
          exact (HPI.out.toIn).kept (fun b o hb => cell_block (b3w.block b (by omega)) o) (fun b hb => .inl hb)
        · exact e.kept (fun b o hb => cell_block (kp.block b hb.2 (by omega)) o) (fun b hb => .inr (by omega))
      have hlo : ∀ q, (Value.slice va E.length vc).ownBlock = some q → w.heap.size ≤ q ∧ q < wr.heap.size := fun q hq => HCE.out.row.lt q hq
      have hno : ∀ b, (b < w.heap.size ∨ (wr.heap.size + 1 ≤ b ∧ b < W3.heap.size)) → b < W3.heap.size ∧ (Value.slice va E.length vc).ownBlock ≠ some b := fun b hb => by
        have hs3 := b3w.size
        refine ⟨by omega, fun e => ?_⟩
        have := hlo b e
        omega
      have x0 := cells_at g9 0 _ rfl
      have x1 := cells_at g9 1 _ rfl
      have x2 := cells_at g9 2 _ rfl
      have x3 := cells_at g9 3 _ rfl
      have x4 := cells_at g9 4 _ rfl
      have x5 := cells_at g9 5 _ rfl
      have x6 := cells_at g9 6 _ rfl
      have x7 := cells_at g9 7 _ rfl
      have x8 := cells_at g9 8 _ rfl
      have x9 := cells_at g9 9 _ rfl
      have x10 := cells_at g9 10 _ rfl
      have x11 := cells_at g9 11 _ rfl
      obtain ⟨gq, cap, W4, hrun, hr4, gr4, lie4⟩ := evPush hC3.row (Nat.le_trans hz b3w.size) (by omega) (ek, .slice xa ek.val.items.length xc) 22 ⟨_, _, _, rfl⟩
      have hC4 := hC3.push (ek, .slice xa ek.val.items.length xc) hr4 gr4 lie4 hin pk pz hno
      have hbb : Below w.heap.size w W4 := ((HBE.out.trans (b3w.mono hz)).grown gr4 (Nat.le_trans hz b3w.size) (fun q hq => (hlo q hq).1))
      rw [hEl] at hrun hC4
      have HRUN := hide hrun
      have HC4 := hide hC4
      have HB4 := hide hbb
      have HEE : Hid ((E ++ [(ek, Value.slice xa ek.val.items.length xc)]).map (·.1) = l.take (k + 1)) := by
        rw [List.map_append, hE, List.take_succ_eq_append_getElem hlt, hek]
        exact rfl
      clear hrun hC4 hbb hC3 hin hno hr4 gr4 lie4 kp b3w g8 g9 bA hlo hE hEl
      go_wp2_with (at_builtin; refine Lib.wpList_append_run _ rfl (.tmp 20) (.tmp 22) 22 22 rfl _ _ rfl rfl _ _ HRUN.out ?_; clear HRUN)
      go_roundw
      case rel => exact ⟨k + 1, _, _, by omega, by go_num, HEE.out, HC4.out, HB4.out⟩
      case measure => simp [intOf]; omega
    · have hkl : k = l.length := by omega
      have hev := hC.evs (by omega)
      rw [hE, hkl, List.take_length] at hev
      have HEV := hide hev
      clear hev hC hE hEl
      go_wp2
      go_ret
      exact ⟨_, rfl, HEV.out, hbel⟩
end Go.Proofs.YtgppmajmkpcciaaDoor
