/- Events: the events that operations tell, with values of their own. -/
import Derived.Test.YtjcmajdaebpejaaDoorGHTl
import Derived.Test.YtjcmajdaebpejaaDoorGHRfD
namespace Go.Proofs.YtjcmajdaebpejaaDoor
open Go.RowKit Go.Maps

/-- A value is stored into an event of a row. -/
theorem erow_put5 {w : World} {L g cap m : Nat} {E : List EV} (hr : w.ownsRow L 46 12 (.slice (some ⟨g, 0, none⟩) m cap) m (erow E)) (k : Nat) (hk : k < E.length) (s : Value) :
    (((((w.setCell ⟨g, k * 12 + 4, none⟩ (.int .i64 E[k].1.val.kind)).setCell ⟨g, k * 12 + 4 + 1, none⟩ (.int .i64 E[k].1.val.int)).setCell ⟨g, k * 12 + 4 + 2, none⟩ (.int .i64 E[k].1.val.im)).setCell ⟨g, k * 12 + 4 + 3, none⟩ (.string E[k].1.val.text)).setCell ⟨g, k * 12 + 4 + 4, none⟩ s).ownsRow L 46 12 (.slice (some ⟨g, 0, none⟩) m cap) m (erow (E.set k (E[k].1, s))) ∧
    Keeps (fun x => x = g) w (((((w.setCell ⟨g, k * 12 + 4, none⟩ (.int .i64 E[k].1.val.kind)).setCell ⟨g, k * 12 + 4 + 1, none⟩ (.int .i64 E[k].1.val.int)).setCell ⟨g, k * 12 + 4 + 2, none⟩ (.int .i64 E[k].1.val.im)).setCell ⟨g, k * 12 + 4 + 3, none⟩ (.string E[k].1.val.text)).setCell ⟨g, k * 12 + 4 + 4, none⟩ s) := by
  have s1 := hr.stored (k * 12 + 4) (.int .i64 E[k].1.val.kind)
  have s2 := s1.1.stored (k * 12 + 4 + 1) (.int .i64 E[k].1.val.int)
  have s3 := s2.1.stored (k * 12 + 4 + 2) (.int .i64 E[k].1.val.im)
  have s4 := s3.1.stored (k * 12 + 4 + 3) (.string E[k].1.val.text)
  have s5 := s4.1.stored (k * 12 + 4 + 4) s
  have e1 : (erow (E.take k)).length = k * 12 := by rw [erow_len, List.length_take]; congr 1; omega
  have one : ∀ (A M D : List Value) (i : Nat) (v : Value), A.length = k * 12 → i < M.length → (A ++ (M ++ D)).set (k * 12 + i) v = A ++ (M.set i v ++ D) := fun A M D i v hA hi => by
    rw [List.set_append_right _ _ (by omega), hA, Nat.add_sub_cancel_left, List.set_append_left _ _ hi]
  have hfin : (((((erow E).set (k * 12 + 4) (.int .i64 E[k].1.val.kind)).set (k * 12 + 4 + 1) (.int .i64 E[k].1.val.int)).set (k * 12 + 4 + 2) (.int .i64 E[k].1.val.im)).set (k * 12 + 4 + 3) (.string E[k].1.val.text)).set (k * 12 + 4 + 4) s = erow (E.set k (E[k].1, s)) := by
    rw [erow_split E k hk, erow_set E k hk]
    simp only [Nat.add_assoc]
    rw [one _ _ _ 4 _ e1 (by simp [evOf_len]), one _ _ _ 5 _ e1 (by simp [evOf_len]), one _ _ _ 6 _ e1 (by simp [evOf_len]), one _ _ _ 7 _ e1 (by simp [evOf_len]), one _ _ _ 8 _ e1 (by simp [evOf_len])]
    rfl
  have s6 := s5.1
  rw [hfin] at s6
  exact ⟨s6, ((((Keeps.set _ _ _ _).trans (Keeps.set _ _ _ _) (fun _ _ h => h)).trans (Keeps.set _ _ _ _) (fun _ _ h => h)).trans (Keeps.set _ _ _ _) (fun _ _ h => h)).trans (Keeps.set _ _ _ _) (fun _ _ h => h)⟩
/-- Half of the events of a row have copies for values. -/
structure EHalf (w wr : World) (L n g k : Nat) (E E' : List EV) : Prop where
  row : wr.ownsRow L 46 12 (.slice (some ⟨g, 0, none⟩) E.length E.length) E.length (erow E')
  same : E'.map (·.1) = E.map (·.1)
  new : ∀ j (h : j < E'.length), j < k → ItemsS wr (fun b => w.heap.size ≤ b ∧ b < wr.heap.size ∧ b ≠ g) n E'[j].2 E'[j].1.val.items
  old : ∀ j (h : j < E'.length) (h' : j < E.length), k ≤ j → E'[j] = E[j]
  bel : Below w.heap.size w wr
theorem EHalf.len {w wr : World} {L n g k : Nat} {E E' : List EV} (h : EHalf w wr L n g k E E') : E'.length = E.length := by have := congrArg List.length h.same; simpa using this
theorem EHalf.put {w wr w5 : World} {L n g k : Nat} {E E' : List EV} (h : EHalf w wr L n g k E E') (hk : k < E.length) (s : Value) (hg : w.heap.size ≤ g) (kp : Keeps (fun x => x = g) wr w5)
    (hr : w5.ownsRow L 46 12 (.slice (some ⟨g, 0, none⟩) E.length E.length) E.length (erow (E'.set k (E[k].1, s)))) (i : ItemsS w5 (fun b => w.heap.size ≤ b ∧ b < w5.heap.size ∧ b ≠ g) n s E[k].1.val.items) : EHalf w w5 L n g (k + 1) E (E'.set k (E[k].1, s)) := by
  have hl := h.len
  have hz := kp.size
  have hb := h.bel.size
  refine ⟨hr, ?_, fun j hj hjk => ?_, fun j hj hj' hjk => ?_, h.bel.trans (kp.toBelow (by omega) (fun x h => by omega))⟩
  · have e := h.same
    apply List.ext_getElem
    · simp [hl]
    · intro i h1 h2
      simp only [List.getElem_map, List.getElem_set]
      split
      · rename_i e'; subst e'; rfl
      · have e2 : (E'.map (·.1))[i]'(by simpa using h1) = (E.map (·.1))[i]'h2 := by simp only [e]
        simpa using e2
  · by_cases ej : j = k
    · subst ej
      simp only [List.getElem_set_self]
      exact i
    · have hj' : j < E'.length := by simpa using hj
      rw [List.getElem_set_ne (by omega)]
      exact (h.new j hj' (by omega)).kept (fun b hb hb2 => kp.block b hb2 hb.2.2) (fun b hb => ⟨hb.1, by omega, hb.2.2⟩)
  · have hj2 : j < E'.length := by simpa using hj
    rw [List.getElem_set_ne (by omega)]
    exact h.old j hj2 hj' (by omega)

set_option maxRecDepth 100000 in
set_option maxHeartbeats 4000000 in
theorem eventsP_k (w : World) (n : Nat) (v0 v1 v2 : Value) (P O : List (List UInt8)) (cs : List HV) (hT : TabL w) (h : HPast w w.heap.size (n + 1) v0 v1 v2 P O cs) (hcs : cs.length ≤ 100000000) (E : List EV) (hlm : laidM P O cs = some E) (hag : AgreeM P O cs (E.map (·.1))) (hEl : E.length ≤ 1000000000) :
    Calls Tryd.prog 4 #[.agg #[v0, v1, v2]] w fun r w' => (∃ g E', r = .returned (.tuple #[.slice (some ⟨g, 0, none⟩) E.length E.length, .int .i64 0]) ∧ EHalf w w' w.heap.size (n + 1) g E.length E E') ∧ Below w.heap.size w w' := by
  obtain ⟨a0, c0, rfl, hl0⟩ := h.pr.len
  obtain ⟨a1, c1, rfl, hl1⟩ := h.ob.len
  obtain ⟨a2, c2, rfl, hl2⟩ := h.cl.len
  obtain ⟨W, hW⟩ : ∃ W, w.alloc (.cells #[.slice a0 P.length c0, .slice a1 O.length c1, .slice a2 cs.length c2] 25) = W := ⟨_, rfl⟩
  have bW : Below w.heap.size w W := by rw [← hW]; exact alloc_v (Below.refl _ _) _
  have e1 : W.heap[w.heap.size]? = some (.cells #[.slice a0 P.length c0, .slice a1 O.length c1, .slice a2 cs.length c2] 25 (0, 0)) := by rw [← hW]; exact World.alloc_heap_new w _
  have zW : W.heap.size = w.heap.size + 1 := by rw [← hW]; simp
  have HLD : Hid (Calls Tryd.prog 14 #[.agg #[.slice a0 P.length c0, .slice a1 O.length c1, .slice a2 cs.length c2]] W fun e w1 => ∃ g, e = .returned (.tuple #[.slice (some ⟨g, 0, none⟩) E.length E.length, .int .i64 0]) ∧ w.heap.size ≤ g ∧ EHalf w w1 w.heap.size (n + 1) g 0 E E) := by
    refine hide ((told_k W n _ _ _ P O cs (hT.below bW) ((h.below bW).up bW.size) hcs).mono ?_)
    rintro r w1 ⟨⟨v, rfl, hres⟩, b1⟩
    rcases hres with ⟨_, hno⟩ | ⟨E1, g, L, hl1', _, rfl, hLL, hrow⟩
    · exact absurd hag (hno E hlm)
    · have hEE : E1 = E := Option.some.inj (hl1'.symm.trans hlm)
      subst hEE
      refine ⟨g, rfl, ?_, ?_, rfl, fun j _ hj => by omega, fun j _ _ _ => rfl, trans_v bW b1⟩
      · have := (hrow.lt g rfl).1
        omega
      · refine ⟨hrow.1, ?_⟩
        rcases hrow.2 with hn | ⟨g', cap', cur, e, hbg, rest⟩
        · exact .inl hn
        · exact .inr ⟨g', cap', cur, e, by omega, rest⟩
  have HGD := hide (laidN_good h cs.length E hlm)
  have x0 := cells_at e1 0 _ rfl
  have x1 := cells_at e1 1 _ rfl
  have x2 := cells_at e1 2 _ rfl
  clear h hT e1 hlm hag zW
  go_enter Tryd.func4, Tryd.ntmps4
  go_wp2_with (go_at_call 14; refine HLD.out.mono ?_; clear HLD; rintro r w1 ⟨g, rfl, hgl, hst⟩; have HST := hide hst; clear hst)
  clear x0 x1 x2
  go_loopw [6, 7, 15] (fun _ _ i wr => ∃ (k : Nat) (E' : List EV), k ≤ E.length ∧ i = .int .i64 k ∧ EHalf w wr w.heap.size (n + 1) g k E E') (fun _ _ i _ => E.length - (intOf i).toNat)
  case atStart => exact ⟨0, E, Nat.zero_le _, rfl, HST.out⟩
  case round =>
    clear HST
    obtain ⟨k, E', hk, rfl, hh⟩ := hrel
    by_cases hlt : k < E.length
    · have hl := hh.len
      have hold := hh.old k (by omega) hlt (Nat.le_refl _)
      obtain ⟨x, hx⟩ : ∃ x, E[k] = x := ⟨_, rfl⟩
      have hce : ∀ i v, (evOf x)[i]? = some v → wr.cell? ⟨g, k * 12 + i, none⟩ = some v := fun i v h => by
        have hi12 : i < 12 := by
          have := (List.getElem?_eq_some_iff.1 h).1
          rwa [evOf_len] at this
        rw [hh.row.cellAt (k * 12 + i) (by have := Nat.mul_le_mul_right 12 (show k + 1 ≤ E.length by omega); omega), erow_get E' k (by omega) i hi12, hold, hx]
        exact h
      have p0 : wr.cell? ⟨g, k * 12, none⟩ = some (.int .i64 x.1.kind) := hce 0 _ rfl
      have p1 := hce 1 _ rfl
      have p2 := hce 2 _ rfl
      have p3 := hce 3 _ rfl
      have p4 := hce 4 _ rfl
      have p5 := hce 5 _ rfl
      have p6 := hce 6 _ rfl
      have p7 := hce 7 _ rfl
      have p8 := hce 8 _ rfl
      have p9 := hce 9 _ rfl
      have p10 := hce 10 _ rfl
      have p11 := hce 11 _ rfl
      have hgd := HGD.out x (by rw [← hx]; exact List.getElem_mem _)
      obtain ⟨sa, sc, es, _⟩ := hgd.1.len
      have glt : g < wr.heap.size := (hh.row.lt g rfl).2
      have hbz := hh.bel.size
      obtain ⟨Y, hY⟩ : ∃ Y, wr.alloc (.cells (evCells x.1 x.2) 46) = Y := ⟨_, rfl⟩
      have bA : Below wr.heap.size wr Y := by rw [← hY]; exact alloc_v (Below.refl _ _) _
      have eY : Y.heap[wr.heap.size]? = some (.cells (evCells x.1 x.2) 46 (0, 0)) := by rw [← hY]; exact World.alloc_heap_new wr _
      have zY : Y.heap.size = wr.heap.size + 1 := by rw [← hY]; simp
      have HC := hide (hcopied_k (n + 1) x.1.val Y w.heap.size x.2 hgd.2.2 (by omega) (hgd.1.below (hh.bel.trans (bA.mono hbz))))
      have t4 := cells_at eY 4 _ rfl
      have t5 := cells_at eY 5 _ rfl
      have t6 := cells_at eY 6 _ rfl
      have t7 := cells_at eY 7 _ rfl
      have t8 := cells_at eY 8 _ rfl
      have HFR := hide (fun (U : World) (b : Below Y.heap.size Y U) (i : Nat) (v : Value) (h : (evOf x)[i]? = some v) => (show U.cell? ⟨g, k * 12 + i, none⟩ = some v ∧ U.frozen? ⟨g, k * 12 + i, none⟩ = false from
        ⟨((bcellV (trans_v bA b)).1 _ _ glt).trans (hce i v h), ((bcellV (trans_v bA b)).2 _ _ glt).trans (hh.row.frozenAt _)⟩))
      have HH := hide hh
      have HBA := hide bA
      have HX := hide hx
      have HOLD := hide hold
      have ZY := hide zY
      have k0 : (0 : Int) ≤ (k : Int) := by omega
      have k1 : (k : Int) < (E.length : Int) := by omega
      rw [es] at p8 t8 HC hY
      clear hce hh hgd bA eY hx hold zY
      go_wp2_with (go_at_call 15; refine HC.out.mono ?_; clear HC; rintro r w4 ⟨s4, rfl, i4, b4⟩; obtain ⟨sa4, sc4, rfl, _⟩ := i4.in.len; have I4 := hide i4; obtain ⟨c4, z4⟩ := HFR.out w4 b4 4 _ rfl; obtain ⟨c5, z5⟩ := HFR.out w4 b4 5 _ rfl; obtain ⟨c6, z6⟩ := HFR.out w4 b4 6 _ rfl; obtain ⟨c7, z7⟩ := HFR.out w4 b4 7 _ rfl; obtain ⟨c8, z8⟩ := HFR.out w4 b4 8 _ rfl; have BB4 := hide b4; clear b4 i4)
      go_roundw
      case rel =>
        have b4 := BB4.out
        have k4 := Keeps.below (M := fun x => x = g) (trans_v HBA.out b4)
        have row4 := (Keeps.below (M := fun _ => False) (trans_v HBA.out b4)).row HH.out.row (fun _ _ h => h)
        have hl := HH.out.len
        obtain ⟨r5, k5⟩ := erow_put5 row4 k (by omega) (.slice sa4 x.1.val.items.length sc4)
        simp only [HOLD.out, HX.out] at r5 k5
        have hz4 := (trans_v HBA.out b4).size
        have hzb := b4.size
        have zy := ZY.out
        refine ⟨k + 1, _, by omega, by go_num, HH.out.put hlt (.slice sa4 x.1.val.items.length sc4) hgl (k4.trans k5 (fun _ _ h => h)) (by rw [HX.out]; exact r5) (by rw [HX.out]; exact I4.out.kept (fun b hb hb2 => k5.block b hb2 (by have := hb.1; omega)) (fun b hb => ⟨by have := hb.1; omega, Nat.lt_of_lt_of_le hb.2 k5.size, by have := hb.1; omega⟩))⟩
      case measure => simp [intOf]; omega
    · have hkl : k = E.length := by omega
      subst hkl
      have HH := hide hh
      clear hh
      go_wp2
      go_ret2
      exact ⟨⟨g, E', rfl, HH.out⟩, HH.out.bel⟩
end Go.Proofs.YtjcmajdaebpejaaDoor
