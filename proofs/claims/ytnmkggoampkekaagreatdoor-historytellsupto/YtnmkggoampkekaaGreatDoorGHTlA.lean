/- What made operations tell of the places of events; how many are open. -/
import Derived.Test.YtnmkggoampkekaaGreatDoorGHChMG
import Derived.Test.YtnmkggoampkekaaGreatDoorGHTl
import Derived.Test.YtnmkggoampkekaaGreatDoorGHPst
import Derived.Test.YtnmkggoampkekaaGreatDoorZVRegion
import Derived.Test.YtnmkggoampkekaaGreatDoorGBHs
namespace Go.Proofs.YtnmkggoampkekaaGreatDoor

/-- Where the events of made operations stand. -/
structure Plcs (l : List Evn) (cs : List HV) : Prop where
  inv : ∀ j (h : j < cs.length), ∃ i : Nat, cs[j].1.inv = (i : Int) ∧ ∃ hi : i < l.length, l[i].kind = 1
  res : ∀ j (h : j < cs.length), cs[j].1.res = -1 ∨ ∃ r : Nat, cs[j].1.res = (r : Int) ∧ cs[j].1.inv < (r : Int) ∧ ∃ hr : r < l.length, l[r].kind = 2
  all : ∀ i, i < l.length → ∃ j, ∃ h : j < cs.length, cs[j].1.inv = (i : Int) ∨ cs[j].1.res = (i : Int)
  rise : ∀ i j (hi : i < cs.length) (hj : j < cs.length), i < j → cs[i].1.inv < cs[j].1.inv
  one : ∀ i j (hi : i < cs.length) (hj : j < cs.length), i ≠ j → cs[i].1.res ≠ -1 → cs[i].1.res ≠ cs[j].1.res
theorem MadeBy.plcs {P O : List (List UInt8)} {cs : List HV} {l : List Evn} (h : MadeBy P O cs l) : Plcs l cs := by
  have T := tel_at l l.length (Nat.le_refl _) h.fine
  have G := good_at l l.length (Nat.le_refl _) h.fine
  have hlen : cs.length = (gAt l l.length).calls.length := by have := congrArg List.length h.cl; simpa using this
  have hel : ∀ j (hj : j < cs.length), ∃ h' : j < (gAt l l.length).calls.length, cs[j].1 = chOf (gAt l l.length).calls[j] := fun j hj => ⟨by omega, by
    have e : (cs.map (·.1))[j]'(by simpa using hj) = ((gAt l l.length).calls.map chOf)[j]'(by simpa using (by omega : j < (gAt l l.length).calls.length)) := by simp only [h.cl]
    simpa using e⟩
  refine ⟨fun j hj => ?_, fun j hj => ?_, fun i hi => ?_, fun i j hi hj hij => ?_, fun i j hi hj hij hr => ?_⟩
  · obtain ⟨h', e⟩ := hel j hj
    obtain ⟨hi, _, hk, _⟩ := T.inv j h'
    exact ⟨(gAt l l.length).calls[j].inv, by rw [e]; rfl, hi, hk⟩
  · obtain ⟨h', e⟩ := hel j hj
    rw [e]
    rcases T.res j h' with ⟨a, _⟩ | ⟨r, hr, _, a, b, _⟩
    · exact .inl a
    · refine .inr ⟨r, a, ?_, hr, b⟩
      have := (G.plc j h').2
      show ((gAt l l.length).calls[j].inv : Int) < r
      omega
  · obtain ⟨j, hj, e⟩ := T.all i hi
    have hj' : j < cs.length := by omega
    obtain ⟨h', e'⟩ := hel j hj'
    refine ⟨j, hj', ?_⟩
    rw [e']
    rcases e with e | e
    · left
      show ((gAt l l.length).calls[j].inv : Int) = i
      omega
    · exact .inr e
  · obtain ⟨h1, e1⟩ := hel i hi
    obtain ⟨h2, e2⟩ := hel j hj
    rw [e1, e2]
    have := inv_rise l l.length (Nat.le_refl _) h.fine i j h1 h2 hij
    show ((gAt l l.length).calls[i].inv : Int) < ((gAt l l.length).calls[j].inv : Int)
    omega
  · obtain ⟨h1, e1⟩ := hel i hi
    obtain ⟨h2, e2⟩ := hel j hj
    rw [e1] at hr ⊢
    rw [e2]
    exact res_one h.fine h1 h2 hij hr
def cntB (f : Nat → Bool) : Nat → Nat
  | 0 => 0
  | k + 1 => cntB f k + if f k = true then 1 else 0
theorem cntB_same {f g : Nat → Bool} : ∀ n, (∀ j, j < n → f j = g j) → cntB f n = cntB g n
  | 0, _ => rfl
  | n + 1, h => by rw [cntB, cntB, cntB_same n (fun j hj => h j (by omega)), h n (by omega)]
theorem cntB_one {f g : Nat → Bool} (j : Nat) : ∀ n, j < n → f j = false → g j = true → (∀ i, i < n → i ≠ j → f i = g i) → cntB g n = cntB f n + 1
  | 0, h, _, _, _ => by omega
  | n + 1, h, h0, h1, hs => by
    rw [cntB, cntB]
    by_cases e : j = n
    · subst e
      rw [h0, h1, cntB_same j (fun i hi => hs i (by omega) (by omega))]
      simp
    · rw [cntB_one j n (by omega) h0 h1 (fun i hi hn => hs i (by omega) hn), hs n (by omega) (fun e' => e e'.symm)]
      omega
def opnB (cs : List HV) (t : Int) (j : Nat) : Bool := match cs[j]? with
  | some x => isOpn x t
  | none => false
theorem opnTo_cnt (cs : List HV) (t : Int) : ∀ k, k ≤ cs.length → (opnTo cs t k).length = cntB (opnB cs t) k
  | 0, _ => rfl
  | k + 1, h => by
    have ih := opnTo_cnt cs t k (by omega)
    have e : opnB cs t k = isOpn cs[k] t := by unfold opnB; rw [List.getElem?_eq_getElem (by omega)]
    rw [opnTo, dif_pos (by omega), cntB, e]
    split
    · rw [List.length_append, List.length_singleton, ih]
    · rw [ih, Nat.add_zero]
/-- How many operations are open at a place. -/
def opnN (cs : List HV) (t : Int) : Nat := (opnTo cs t cs.length).length
theorem opnB_at {cs : List HV} {t : Int} {j : Nat} (h : j < cs.length) : opnB cs t j = (decide (cs[j].1.inv < t) && (decide (cs[j].1.res = -1) || decide (t ≤ cs[j].1.res))) := by
  unfold opnB
  rw [List.getElem?_eq_getElem h]
  rfl
theorem opn_inv {l : List Evn} {cs : List HV} (F : Plcs l cs) {k : Nat} (hk : k < l.length) (hkd : l[k].kind = 1) : opnN cs ((k + 1 : Nat) : Int) = opnN cs (k : Int) + 1 := by
  unfold opnN
  rw [opnTo_cnt cs _ _ (Nat.le_refl _), opnTo_cnt cs _ _ (Nat.le_refl _)]
  obtain ⟨j, hj, e⟩ := F.all k hk
  have hres : ∀ i (hi : i < cs.length), cs[i].1.res ≠ (k : Int) := fun i hi e' => by
    rcases F.res i hi with a | ⟨r, a, _, hr, b⟩
    · omega
    · have : r = k := by omega
      subst this
      omega
  have hinv : cs[j].1.inv = (k : Int) := e.resolve_right (hres j hj)
  refine cntB_one j cs.length hj ?_ ?_ (fun i hi hn => ?_)
  · rw [opnB_at hj]
    simp
    omega
  · rw [opnB_at hj]
    have := F.res j hj
    simp
    refine ⟨by omega, ?_⟩
    rcases this with a | ⟨r, a, b, _⟩
    · exact .inl a
    · right
      omega
  · rw [opnB_at hi, opnB_at hi]
    have h1 := hres i hi
    have h2 : cs[i].1.inv ≠ (k : Int) := fun e' => by
      by_cases hlt : i < j
      · have := F.rise i j hi hj hlt
        omega
      · have := F.rise j i hj hi (by omega)
        omega
    congr 1
    · rw [decide_eq_decide]
      omega
    · congr 1
      rw [decide_eq_decide]
      omega
theorem opn_res {l : List Evn} {cs : List HV} (F : Plcs l cs) {k : Nat} (hk : k < l.length) (hkd : ¬ l[k].kind = 1) : opnN cs (k : Int) = opnN cs ((k + 1 : Nat) : Int) + 1 := by
  unfold opnN
  rw [opnTo_cnt cs _ _ (Nat.le_refl _), opnTo_cnt cs _ _ (Nat.le_refl _)]
  obtain ⟨j, hj, e⟩ := F.all k hk
  have hinv : ∀ i (hi : i < cs.length), cs[i].1.inv ≠ (k : Int) := fun i hi e' => by
    obtain ⟨r, a, hr, b⟩ := F.inv i hi
    have : r = k := by omega
    subst this
    exact hkd b
  have hres : cs[j].1.res = (k : Int) := e.resolve_left (hinv j hj)
  refine cntB_one j cs.length hj ?_ ?_ (fun i hi hn => ?_)
  · rw [opnB_at hj]
    simp
    omega
  · rw [opnB_at hj]
    have := F.res j hj
    simp
    refine ⟨?_, ?_⟩
    · rcases this with a | ⟨r, a, b, _⟩ <;> omega
    · right
      omega
  · rw [opnB_at hi, opnB_at hi]
    have h1 := hinv i hi
    have h2 : cs[i].1.res ≠ (k : Int) := fun e' => F.one i j hi hj hn (by omega) (by omega)
    congr 1
    · rw [decide_eq_decide]
      omega
    · congr 1
      rw [decide_eq_decide]
      omega
theorem opn_zero {l : List Evn} {cs : List HV} (F : Plcs l cs) : opnN cs 0 = 0 := by
  unfold opnN
  rw [opnTo_cnt cs _ _ (Nat.le_refl _)]
  have : cntB (opnB cs 0) cs.length = cntB (fun _ => false) cs.length := cntB_same _ (fun j hj => by
    rw [opnB_at hj]
    obtain ⟨i, e, _⟩ := F.inv j hj
    simp
    omega)
  rw [this]
  have z : ∀ n, cntB (fun _ => false) n = 0 := fun n => by
    induction n with
    | zero => rfl
    | succ n ih => rw [cntB, ih]; simp
  exact z _
/-- The most that are open up to a place. -/
def maxO (cs : List HV) : Nat → Nat
  | 0 => opnN cs 0
  | k + 1 => max (maxO cs k) (opnN cs ((k + 1 : Nat) : Int))
theorem wid_opn {l : List Evn} {cs : List HV} (F : Plcs l cs) : ∀ k, k ≤ l.length → (wid l k).1 = (opnN cs (k : Int) : Int) ∧ (wid l k).2 = (maxO cs k : Int)
  | 0, _ => by
    have := opn_zero F
    simp [wid, maxO, this]
  | k + 1, h => by
    obtain ⟨h1, h2⟩ := wid_opn F k (by omega)
    rw [wid_succ l k (by omega), maxO]
    dsimp only
    by_cases e : l[k].kind = 1
    · have := opn_inv F (by omega) e
      rw [if_pos e, h1, h2]
      omega
    · have := opn_res F (by omega) e
      rw [if_neg e, h1, h2]
      omega
end Go.Proofs.YtnmkggoampkekaaGreatDoor

/- Before, of any numbers, of both. -/
namespace Go.Proofs.YtnmkggoampkekaaGreatDoor
open Go.RowKit Go.Maps

def befH (x y : Ch) : Bool := decide (0 ≤ x.res) && decide (x.res < y.inv)
/-- Does one operation precede another, of any numbers? -/
def befAt (cs : List HV) (a b : Int) : Bool := numB a cs.length && (numB b cs.length && (match cs[a.toNat]?, cs[b.toNat]? with
  | some x, some y => befH x.1 y.1
  | _, _ => false))
theorem befAt_yes {cs : List HV} {i j : Nat} (hi : i < cs.length) (hj : j < cs.length) : befAt cs i j = befH cs[i].1 cs[j].1 := by
  unfold befAt numB
  simp [hi, hj]
theorem befAt_no {cs : List HV} {a b : Int} (h : numB a cs.length = false ∨ numB b cs.length = false) : befAt cs a b = false := by
  unfold befAt
  rcases h with h | h
  · rw [h]; rfl
  · rw [h]; simp
set_option maxRecDepth 100000 in
theorem isCallA_k (v0 v1 : Value) (a2 : Option Addr) (m c : Nat) (i : Int) (w : World) : Calls Tryz.prog 20 #[.agg #[v0, v1, .slice a2 m c], .int .i64 i] w fun e w' => e = .returned (.bool (numB i m)) ∧ Below w.heap.size w w' := by
  by_cases h0 : 0 ≤ i
  · have e0 : numB i m = decide (i < (m : Int)) := by simp [numB, h0]
    rw [e0]
    go_enter Tryz.func20, Tryz.ntmps20
    go_wp2
    go_ret
    exact ⟨by simp, alloc_v (Below.refl _ _) _⟩
  · have e0 : numB i m = false := by simp [numB, h0]
    rw [e0]
    go_enter Tryz.func20, Tryz.ntmps20
    go_wp2
    go_ret
    exact ⟨by simp, alloc_v (Below.refl _ _) _⟩
set_option maxRecDepth 100000 in
set_option maxHeartbeats 4000000 in
theorem beforeA_k (w : World) (n : Nat) (v0 v1 v2 : Value) (P O : List (List UInt8)) (cs : List HV) (h : HPast w w.heap.size n v0 v1 v2 P O cs) (a b : Int) :
    Calls Tryz.prog 6 #[.agg #[v0, v1, v2], .int .i64 a, .int .i64 b] w fun e w' => e = .returned (.bool (befAt cs a b)) ∧ Below w.heap.size w w' := by
  obtain ⟨a0, c0, rfl, hl0⟩ := h.pr.len
  obtain ⟨a1, c1, rfl, hl1⟩ := h.ob.len
  obtain ⟨a2, c2, rfl, hl2⟩ := h.cl.len
  obtain ⟨W, hW⟩ : ∃ W, w.alloc (.cells #[.slice a0 P.length c0, .slice a1 O.length c1, .slice a2 cs.length c2] 25) = W := ⟨_, rfl⟩
  have bW : Below w.heap.size w W := by rw [← hW]; exact alloc_v (Below.refl _ _) _
  have e1 : W.heap[w.heap.size]? = some (.cells #[.slice a0 P.length c0, .slice a1 O.length c1, .slice a2 cs.length c2] 25 (0, 0)) := by rw [← hW]; exact World.alloc_heap_new w _
  have HCA := hide (fun q : Wv W => Wv.calls q (isCallA_k (.slice a0 P.length c0) (.slice a1 O.length c1) a2 cs.length c2 a q.val))
  have HCB := hide (fun q : Wv W => Wv.calls q (isCallA_k (.slice a0 P.length c0) (.slice a1 O.length c1) a2 cs.length c2 b q.val))
  have x0 := fun q : Wv W => q.cell (cells_at e1 0 _ rfl)
  have x1 := fun q : Wv W => q.cell (cells_at e1 1 _ rfl)
  have x2 := fun q : Wv W => q.cell (cells_at e1 2 _ rfl)
  have hany := Wv.any W
  cases hna : numB a cs.length
  · rw [befAt_no (.inl hna)]
    rw [hna] at HCA
    clear e1 HCB h
    go_enter Tryz.func6, Tryz.ntmps6
    go_wp2
    refine wp_region_grown (by kernel_rfl) (by kernel_rfl) ?_
    repeat (go_big_quiet_step ((go_at_call 20; with_reducible exact (HCA.out _))))
    refine wpQuiet_nil ?_
    intro w1 hw'
    obtain ⟨q, rfl⟩ := hw'
    go_wp2
    go_ret
    exact ⟨rfl, trans_v bW q.below⟩
  cases hnb : numB b cs.length
  · rw [befAt_no (.inr hnb)]
    rw [hna] at HCA
    rw [hnb] at HCB
    clear e1 h
    go_enter Tryz.func6, Tryz.ntmps6
    go_wp2
    refine wp_region_grown (by kernel_rfl) (by kernel_rfl) ?_
    repeat (go_big_quiet_step ((go_at_call 20; first | with_reducible exact (HCA.out _) | with_reducible exact (HCB.out _))))
    refine wpQuiet_nil ?_
    intro w1 hw'
    obtain ⟨q, rfl⟩ := hw'
    go_wp2
    go_ret
    exact ⟨rfl, trans_v bW q.below⟩
  rw [hna] at HCA
  rw [hnb] at HCB
  obtain ⟨i, rfl, hi⟩ : ∃ k : Nat, a = (k : Int) ∧ k < cs.length := by unfold numB at hna; simp at hna; exact ⟨a.toNat, by omega, by omega⟩
  obtain ⟨j, rfl, hj⟩ : ∃ k : Nat, b = (k : Int) ∧ k < cs.length := by unfold numB at hnb; simp at hnb; exact ⟨b.toNat, by omega, by omega⟩
  rw [befAt_yes hi hj]
  obtain ⟨b3, o3, rfl, g3, p0, p1, p2, p3, p4, p5, p6, p7, p8, p9, p10, p11, p12, p13, p14⟩ := (h.cl.below bW).item i hi
  obtain ⟨b4, o4, e4, g4, r0, r1, r2, r3, r4, r5, r6, r7, r8, r9, r10, r11, r12, r13, r14⟩ := (h.cl.below bW).item j hj
  simp only [Option.some.injEq, Addr.mk.injEq, and_true] at e4
  obtain ⟨rfl, rfl⟩ := e4
  have y1 := fun q : Wv W => q.cell p9
  have y2 := fun q : Wv W => q.cell r8
  have i0 : (0 : Int) ≤ (i : Int) := by omega
  have i1 : (i : Int) < (cs.length : Int) := by omega
  have j0 : (0 : Int) ≤ (j : Int) := by omega
  have j1 : (j : Int) < (cs.length : Int) := by omega
  clear e1 h p0 p1 p2 p3 p4 p5 p6 p7 p8 p9 p10 p11 p12 p13 p14 r0 r1 r2 r3 r4 r5 r6 r7 r8 r9 r10 r11 r12 r13 r14 hna hnb
  unfold befH
  generalize cs[i].1.res = ri at *
  generalize cs[j].1.inv = ij at *
  by_cases r0 : 0 ≤ ri
  · have d0 : decide (0 ≤ ri) = true := by simpa using r0
    rw [d0]
    obtain ⟨bb, hbb⟩ : ∃ bb, decide (ri < (ij : Int)) = bb := ⟨_, rfl⟩
    rw [hbb]
    go_enter Tryz.func6, Tryz.ntmps6
    go_wp2
    refine wp_region_grown (by kernel_rfl) (by kernel_rfl) ?_
    repeat (go_big_quiet_step ((go_at_call 20; first | with_reducible exact (HCA.out _) | with_reducible exact (HCB.out _))))
    refine wpQuiet_nil ?_
    intro w1 hw'
    obtain ⟨q, rfl⟩ := hw'
    go_wp2
    go_ret
    exact ⟨by simp, trans_v bW q.below⟩
  · have d0 : decide (0 ≤ ri) = false := by simpa using r0
    rw [d0]
    go_enter Tryz.func6, Tryz.ntmps6
    go_wp2
    refine wp_region_grown (by kernel_rfl) (by kernel_rfl) ?_
    repeat (go_big_quiet_step ((go_at_call 20; first | with_reducible exact (HCA.out _) | with_reducible exact (HCB.out _))))
    refine wpQuiet_nil ?_
    intro w1 hw'
    obtain ⟨q, rfl⟩ := hw'
    go_wp2
    go_ret
    exact ⟨by simp, trans_v bW q.below⟩
set_option maxRecDepth 100000 in
set_option maxHeartbeats 4000000 in
theorem refBefore_k (w : World) (n : Nat) (v0 v1 v2 : Value) (P O : List (List UInt8)) (cs : List HV) (h : HPast w w.heap.size n v0 v1 v2 P O cs) (a b : Int) :
    Calls Tryz.prog 7 #[.agg #[v0, v1, v2], .int .i64 a, .int .i64 b] w fun e w' => e = .returned (.bool (befAt cs a b)) ∧ Below w.heap.size w w' := by
  obtain ⟨a0, c0, rfl, hl0⟩ := h.pr.len
  obtain ⟨a1, c1, rfl, hl1⟩ := h.ob.len
  obtain ⟨a2, c2, rfl, hl2⟩ := h.cl.len
  obtain ⟨W, hW⟩ : ∃ W, w.alloc (.cells #[.slice a0 P.length c0, .slice a1 O.length c1, .slice a2 cs.length c2] 25) = W := ⟨_, rfl⟩
  have bW : Below w.heap.size w W := by rw [← hW]; exact alloc_v (Below.refl _ _) _
  have e1 : W.heap[w.heap.size]? = some (.cells #[.slice a0 P.length c0, .slice a1 O.length c1, .slice a2 cs.length c2] 25 (0, 0)) := by rw [← hW]; exact World.alloc_heap_new w _
  have x2 := cells_at e1 2 _ rfl
  by_cases ha0 : a < 0
  · rw [befAt_no (.inl (by unfold numB; simp; omega))]
    clear e1 h
    go_enter Tryz.func7, Tryz.ntmps7
    go_wp2
    go_ret
    exact ⟨rfl, bW⟩
  by_cases hb0 : b < 0
  · rw [befAt_no (.inr (by unfold numB; simp; omega))]
    clear e1 h
    go_enter Tryz.func7, Tryz.ntmps7
    go_wp2
    go_ret
    exact ⟨rfl, bW⟩
  by_cases ha1 : (cs.length : Int) ≤ a
  · rw [befAt_no (.inl (by unfold numB; simp; omega))]
    clear e1 h
    go_enter Tryz.func7, Tryz.ntmps7
    go_wp2
    go_ret
    exact ⟨rfl, bW⟩
  by_cases hb1 : (cs.length : Int) ≤ b
  · rw [befAt_no (.inr (by unfold numB; simp; omega))]
    clear e1 h
    go_enter Tryz.func7, Tryz.ntmps7
    go_wp2
    go_ret
    exact ⟨rfl, bW⟩
  obtain ⟨i, rfl, hi⟩ : ∃ k : Nat, a = (k : Int) ∧ k < cs.length := ⟨a.toNat, by omega, by omega⟩
  obtain ⟨j, rfl, hj⟩ : ∃ k : Nat, b = (k : Int) ∧ k < cs.length := ⟨b.toNat, by omega, by omega⟩
  rw [befAt_yes hi hj]
  obtain ⟨b3, o3, rfl, g3, p0, p1, p2, p3, p4, p5, p6, p7, p8, p9, p10, p11, p12, p13, p14⟩ := (h.cl.below bW).item i hi
  obtain ⟨b4, o4, e4, g4, r0, r1, r2, r3, r4, r5, r6, r7, r8, r9, r10, r11, r12, r13, r14⟩ := (h.cl.below bW).item j hj
  simp only [Option.some.injEq, Addr.mk.injEq, and_true] at e4
  obtain ⟨rfl, rfl⟩ := e4
  have i0 : (0 : Int) ≤ (i : Int) := by omega
  have i1 : (i : Int) < (cs.length : Int) := by omega
  have j0 : (0 : Int) ≤ (j : Int) := by omega
  have j1 : (j : Int) < (cs.length : Int) := by omega
  have X2 := fun q : Wv W => q.cell x2
  have y1 := fun q : Wv W => q.cell p9
  have y2 := fun q : Wv W => q.cell r8
  have hany := Wv.any W
  clear e1 h p0 p1 p2 p3 p4 p5 p6 p7 p8 p10 p11 p12 p13 p14 r0 r1 r2 r3 r4 r5 r6 r7 r9 r10 r11 r12 r13 r14
  unfold befH
  generalize cs[i].1.res = ri at *
  generalize cs[j].1.inv = ij at *
  by_cases r0 : 0 ≤ ri
  · have d0 : decide (0 ≤ ri) = true := by simpa using r0
    rw [d0]
    obtain ⟨bb, hbb⟩ : ∃ bb, decide (ri < (ij : Int)) = bb := ⟨_, rfl⟩
    rw [hbb]
    go_enter Tryz.func7, Tryz.ntmps7
    go_wp2
    refine wp_region_grown (by kernel_rfl) (by kernel_rfl) ?_
    repeat (go_big_quiet_step ((fail)))
    refine wpQuiet_nil ?_
    intro w1 hw'
    obtain ⟨q, rfl⟩ := hw'
    go_wp2
    go_ret
    exact ⟨by simp, trans_v bW q.below⟩
  · have d0 : decide (0 ≤ ri) = false := by simpa using r0
    rw [d0]
    go_enter Tryz.func7, Tryz.ntmps7
    go_wp2
    refine wp_region_grown (by kernel_rfl) (by kernel_rfl) ?_
    repeat (go_big_quiet_step ((fail)))
    refine wpQuiet_nil ?_
    intro w1 hw'
    obtain ⟨q, rfl⟩ := hw'
    go_wp2
    go_ret
    exact ⟨by simp, trans_v bW q.below⟩
end Go.Proofs.YtnmkggoampkekaaGreatDoor

/- What precedes, as truths; where operations end; endings; the law's words. -/
namespace Go.Proofs.YtnmkggoampkekaaGreatDoor
open Go.RowKit Go.Maps

/-- Which operations have ended ahead of a place. -/
def bsAt (cs : List HV) (t : Int) : List Bool := cs.map fun x => decide (0 ≤ x.1.res) && decide (x.1.res < t)
theorem bsAt_len (cs : List HV) (t : Int) : (bsAt cs t).length = cs.length := List.length_map _
theorem bsAt_get {cs : List HV} {t : Int} {a : Nat} (h : a < cs.length) : (bsAt cs t).getD a false = (decide (0 ≤ cs[a].1.res) && decide (cs[a].1.res < t)) := by
  unfold bsAt
  rw [List.getD_eq_getElem?_getD, List.getElem?_map, List.getElem?_eq_getElem h]
  rfl
theorem bsAt_bef {cs : List HV} {a b : Nat} (ha : a < cs.length) (hb : b < cs.length) : (bsAt cs cs[b].1.inv).getD a false = befAt cs a b := by
  rw [bsAt_get ha, befAt_yes ha hb]
  rfl
theorem bsAt_zero {l : List Evn} {cs : List HV} (_F : Plcs l cs) : bsAt cs 0 = List.replicate cs.length false := by
  apply List.ext_getElem
  · simp [bsAt]
  · intro j h1 h2
    simp only [bsAt, List.getElem_map, List.getElem_replicate]
    simp
theorem bsAt_inv {l : List Evn} {cs : List HV} (F : Plcs l cs) {k : Nat} (hk : k < l.length) (hkd : l[k].kind = 1) : bsAt cs ((k + 1 : Nat) : Int) = bsAt cs (k : Int) := by
  unfold bsAt
  apply List.map_congr_left
  intro x hx
  obtain ⟨j, hj, rfl⟩ := List.getElem_of_mem hx
  have hne : cs[j].1.res ≠ (k : Int) := fun e' => by
    rcases F.res j hj with a | ⟨r, a, _, hr, b⟩
    · omega
    · have : r = k := by omega
      subst this
      omega
  congr 1
  rw [decide_eq_decide]
  omega
theorem bsAt_res {l : List Evn} {cs : List HV} (F : Plcs l cs) {k j : Nat} (hj : j < cs.length) (he : cs[j].1.res = (k : Int)) : bsAt cs ((k + 1 : Nat) : Int) = (bsAt cs (k : Int)).set j true := by
  apply List.ext_getElem
  · simp [bsAt]
  · intro i h1 h2
    have hi : i < cs.length := by simpa [bsAt] using h1
    rw [List.getElem_set]
    simp only [bsAt, List.getElem_map]
    by_cases e : j = i
    · subst e
      simp [he]
      omega
    · rw [if_neg e]
      have h3 : cs[i].1.res ≠ (k : Int) := fun e' => F.one j i hj hi e (by omega) (by omega)
      congr 1
      rw [decide_eq_decide]
      omega
/-- The row that endings answers. -/
def endN (cs : List HV) (q : Nat) : Nat → List Nat
  | 0 => List.replicate q 0
  | k + 1 => if h : k < cs.length then (if cs[k].1.res = -1 then endN cs q k else (endN cs q k).set cs[k].1.res.toNat k) else endN cs q k
theorem endN_len (cs : List HV) (q : Nat) : ∀ k, (endN cs q k).length = q
  | 0 => List.length_replicate
  | k + 1 => by
    rw [endN]
    split
    · split
      · exact endN_len cs q k
      · rw [List.length_set]; exact endN_len cs q k
    · exact endN_len cs q k
theorem endN_at {l : List Evn} {cs : List HV} (F : Plcs l cs) {j r : Nat} (hj : j < cs.length) (he : cs[j].1.res = (r : Int)) (hr : r < l.length) : ∀ k, k ≤ cs.length → j < k → (endN cs l.length k)[r]? = some j
  | 0, _, h => by omega
  | k + 1, hk, h => by
    rw [endN, dif_pos (by omega)]
    by_cases e : j = k
    · subst e
      rw [if_neg (by omega), he, Int.toNat_natCast, List.getElem?_set_self (by rw [endN_len]; exact hr)]
    · have ih := endN_at F hj he hr k (by omega) (by omega)
      split
      · exact ih
      · rename_i hn
        have h3 : cs[k].1.res ≠ (r : Int) := fun e' => F.one j k hj (by omega) e (by omega) (by omega)
        rw [List.getElem?_set_ne ?_]
        · exact ih
        · rcases F.res k (by omega) with a | ⟨r', a, _⟩
          · exact absurd a hn
          · rw [a, Int.toNat_natCast]
            omega
theorem made_zeroI (n : Nat) : (madeCells #[Value.int .i64 0] n).toList = natsH (List.replicate n 0) := by
  apply List.ext_getElem
  · simp [madeCells, natsH]
  · intro j h1 h2
    simp [madeCells, natsH, Nat.mod_one]
theorem natsH_set (l : List Nat) (i k : Nat) : (natsH l).set i (.int .i64 (k : Int)) = natsH (l.set i k) := by
  unfold natsH
  rw [List.map_set]
theorem row_downP {w : World} {L L' : Nat} {t : TypeId} {z n : Nat} {v : Value} {xs : List Value} (h : w.ownsRow L t z v n xs) (hL : L' ≤ L) : w.ownsRow L' t z v n xs := by
  refine ⟨h.1, ?_⟩
  rcases h.2 with hn | ⟨g', cap', cur, e, hbg, rest⟩
  · exact .inl hn
  · exact .inr ⟨g', cap', cur, e, by omega, rest⟩
set_option maxRecDepth 100000 in
set_option maxHeartbeats 8000000 in
theorem endings_k (w : World) (n : Nat) (v0 v1 v2 : Value) (P O : List (List UInt8)) (cs : List HV) (h : HPast w w.heap.size (n + 1) v0 v1 v2 P O cs) (hcs : cs.length ≤ 100000000) (q : Nat) (hq : q ≤ 200000000) (hres : ∀ j (hj : j < cs.length), cs[j].1.res = -1 ∨ ∃ r : Nat, cs[j].1.res = (r : Int) ∧ r < q) :
    Calls Tryz.prog 15 #[.agg #[v0, v1, v2], .int .i64 (q : Int)] w fun e w' => (∃ g, e = .returned (.slice (some ⟨g, 0, none⟩) q q) ∧ w'.ownsRow w.heap.size 3 1 (.slice (some ⟨g, 0, none⟩) q q) q (natsH (endN cs q cs.length))) ∧ Below w.heap.size w w' := by
  obtain ⟨i0, hi, hz0, hz1, hz2⟩ := info_partsV infoIntH
  have hsls := h.sls
  obtain ⟨a0, c0, rfl, hl0⟩ := h.pr.len
  obtain ⟨a1, c1, rfl, hl1⟩ := h.ob.len
  obtain ⟨a2, c2, rfl, hl2⟩ := h.cl.len
  obtain ⟨W, hW⟩ : ∃ W, w.alloc (.cells #[.slice a0 P.length c0, .slice a1 O.length c1, .slice a2 cs.length c2] 25) = W := ⟨_, rfl⟩
  have bW : Below w.heap.size w W := by rw [← hW]; exact alloc_v (Below.refl _ _) _
  have zW : W.heap.size = w.heap.size + 1 := by rw [← hW]; simp
  have e1 : W.heap[w.heap.size]? = some (.cells #[.slice a0 P.length c0, .slice a1 O.length c1, .slice a2 cs.length c2] 25 (0, 0)) := by rw [← hW]; exact World.alloc_heap_new w _
  have hmk := fun w => run_make (P := Tryz.prog) w 36 3 i0 (.int .i64 0) Tryz.underlying36 hi hz0 .i64 .i64 (q : Int) (q : Int) (by omega) (by omega) (by rw [hz2]; omega) (by omega)
  rw [hz1] at hmk
  simp only [Nat.mul_one, Int.toNat_natCast] at hmk
  have x2 := cells_at e1 2 _ rfl
  have HH := hide h
  have HRS := hide hres
  have HE := hide e1
  have ZW := hide zW
  clear h e1 hres zW
  go_enter Tryz.func15, Tryz.ntmps15
  go_upto_region 2 with (fail)
  clear x2 hmk
  obtain ⟨X, hX⟩ : ∃ X, W.alloc (.cells (madeCells #[.int .i64 0] q) 3) = X := ⟨_, rfl⟩
  have bX : Below W.heap.size W X := by rw [← hX]; exact alloc_v (Below.refl _ _) _
  have rX : X.ownsRow W.heap.size 3 1 (.slice (some ⟨W.heap.size, 0, none⟩) q q) q (natsH (endN cs q 0)) := by
    rw [← hX, endN, ← made_zeroI]
    exact World.ownsRow_lit W (madeCells #[.int .i64 0] q) q (Nat.le_refl _) (by unfold maxLen; omega) (by simp [madeCells])
  rw [hX]
  clear hX
  have eX := (bX.block w.heap.size (by have := ZW.out; omega)).trans HE.out
  have x2 := cells_at eX 2 _ rfl
  have HX := hide (And.intro rX bX)
  clear rX bX eX
  go_wp2
  clear x2
  go_loopw [6, 7, 13] (fun _ _ i wr => ∃ k : Nat, k ≤ cs.length ∧ i = .int .i64 k ∧ wr.ownsRow W.heap.size 3 1 (.slice (some ⟨W.heap.size, 0, none⟩) q q) q (natsH (endN cs q k)) ∧ Below W.heap.size W wr) (fun _ _ i _ => cs.length - (intOf i).toNat)
  case atStart => exact ⟨0, Nat.zero_le _, rfl, HX.out.1, HX.out.2⟩
  case round =>
    clear HX
    obtain ⟨k, hk, rfl, hrow, hbel⟩ := hrel
    by_cases hlt : k < cs.length
    · obtain ⟨b3, o3, rfl, g3, p0, p1, p2, p3, p4, p5, p6, p7, p8, p9, p10, p11, p12, p13, p14⟩ := (HH.out.cl.below (trans_v bW hbel)).item k hlt
      have hrs := HRS.out k hlt
      have HEN : Hid (endN cs q (k + 1) = if cs[k].1.res = -1 then endN cs q k else (endN cs q k).set cs[k].1.res.toNat k) := hide (by rw [endN, dif_pos hlt])
      obtain ⟨⟨s1, s2, s3, es⟩, ⟨t1, t2, t3, et⟩⟩ := hsls _ (List.getElem_mem hlt)
      rw [es] at p7
      rw [et] at p14
      clear es et
      have hsz := hbel.size
      have l3 : b3 < wr.heap.size := by have := ZW.out; omega
      have k0 : (0 : Int) ≤ (k : Int) := by omega
      have k1 : (k : Int) < (cs.length : Int) := by omega
      have HB := hide hbel
      have HR := hide hrow
      clear hbel g3 hrow
      generalize cs[k] = x at *
      rcases hrs with hr1 | ⟨r, hr1, hrq⟩
      · have hrb : (x.1.res != -1) = false := by simp [hr1]
        have HF := hide (HEN.out.trans (if_pos hr1))
        clear HEN hr1
        go_wp2
        go_roundw
        case rel => exact ⟨k + 1, by omega, by go_num, by rw [HF.out]; exact HR.out.alloc _, alloc_v HB.out _⟩
        case measure => simp [intOf]; omega
      · have hrn : x.1.res ≠ -1 := by omega
        have HF := hide (HEN.out.trans ((if_neg hrn).trans (by rw [hr1, Int.toNat_natCast])))
        obtain ⟨V, hV⟩ : ∃ V, wr.alloc (.cells #[.int .i64 x.1.proc, .int .i64 x.1.obj, .string (bsN x.1.op), .int .i64 x.1.arg.kind, .int .i64 x.1.arg.int, .int .i64 x.1.arg.im, .string x.1.arg.text, .slice s1 s2 s3, .int .i64 x.1.inv, .int .i64 x.1.res, .int .i64 x.1.reply.kind, .int .i64 x.1.reply.int, .int .i64 x.1.reply.im, .string x.1.reply.text, .slice t1 t2 t3] 69) = V := ⟨_, rfl⟩
        have rV := (show V.ownsRow W.heap.size 3 1 (.slice (some ⟨W.heap.size, 0, none⟩) q q) q (natsH (endN cs q k)) from by rw [← hV]; exact HR.out.alloc _)
        have HBV := hide (show Below W.heap.size W V from by rw [← hV]; exact alloc_v HB.out _)
        have eV : V.heap[wr.heap.size]? = some (.cells #[.int .i64 x.1.proc, .int .i64 x.1.obj, .string (bsN x.1.op), .int .i64 x.1.arg.kind, .int .i64 x.1.arg.int, .int .i64 x.1.arg.im, .string x.1.arg.text, .slice s1 s2 s3, .int .i64 x.1.inv, .int .i64 x.1.res, .int .i64 x.1.reply.kind, .int .i64 x.1.reply.int, .int .i64 x.1.reply.im, .string x.1.reply.text, .slice t1 t2 t3] 69 (0, 0)) := by rw [← hV]; exact World.alloc_heap_new wr _
        have g9 : V.cell? ⟨wr.heap.size, 9, none⟩ = some (.int .i64 (r : Int)) := by rw [← hr1]; exact cells_at eV 9 _ rfl
        obtain ⟨y, cy⟩ : ∃ y, V.cell? ⟨W.heap.size, r, none⟩ = some y := by
          rw [rV.cellAt r (by omega)]
          exact ⟨_, List.getElem?_eq_getElem (by unfold natsH; rw [List.length_map, endN_len]; exact hrq)⟩
        have fy := rV.frozenAt r
        have HRV := hide rV
        have r0 : (0 : Int) ≤ (r : Int) := by omega
        have r1 : (r : Int) < (q : Int) := by omega
        have hrb : ((r : Int) != -1) = true := by simp
        clear eV rV HEN hrn
        rw [hr1] at hV p9
        clear hr1
        go_wp2
        have s5 := (HRV.out.stored r (.int .i64 (k : Int))).1
        rw [natsH_set, ← HF.out] at s5
        have HS5 := hide s5
        have HB5 := hide (HBV.out.setCell (p := ⟨W.heap.size, r, none⟩) (Nat.le_refl _) (.int .i64 (k : Int)))
        clear s5
        go_roundw
        case rel => exact ⟨k + 1, by omega, by go_num, HS5.out, HB5.out⟩
        case measure => simp [intOf]; omega
    · have he : k = cs.length := by omega
      subst he
      have R := hide (And.intro (row_downP hrow (show w.heap.size ≤ W.heap.size by have := ZW.out; omega)) (trans_v bW hbel))
      clear hrow hbel
      go_wp2
      go_ret
      exact ⟨⟨_, rfl, R.out.1⟩, R.out.2⟩
end Go.Proofs.YtnmkggoampkekaaGreatDoor
