/- What made operations tell are the events that they were made of, but for where they stood. -/
import Derived.Test.YtjcmajdaebpejaaDoorGHTl
import Derived.Test.YtjcmajdaebpejaaDoorZHRefM
namespace Go.Proofs.YtjcmajdaebpejaaDoor

/-- An event without its place in a text. -/
def unsp (e : Evn) : Evn := ⟨e.kind, e.proc, e.obj, e.op, e.val, 0, 0, 0⟩
theorem getElem_unsp (l : List Evn) (k : Nat) (h : k < (l.map unsp).length) : (l.map unsp)[k] = unsp (l[k]'(by simpa using h)) := by simp
theorem takeM_unsp (g : Gs) (k : Nat) (e : Evn) : takeM g k (unsp e) = takeM g k e := rfl
theorem faultE_unsp (O : List (List UInt8)) (e : Evn) : faultE O (unsp e) = faultE O e := rfl
theorem gAt_unsp (l : List Evn) : ∀ k, gAt (l.map unsp) k = gAt l k
  | 0 => rfl
  | k + 1 => by
    by_cases h : k < l.length
    · rw [gAt_succ _ k (by simpa using h), gAt_succ l k h, gAt_unsp l k, getElem_unsp, takeM_unsp]
    · rw [gAt, dif_neg (by simpa using h), gAt, dif_neg h, gAt_unsp l k]
theorem opensAt_unsp (l : List Evn) (k : Nat) : opensAt (l.map unsp) k = opensAt l k := by
  unfold opensAt
  rw [← List.map_take, List.foldl_map]
  rfl
theorem fine_unsp {l : List Evn} (h : Fine l l.length) : Fine (l.map unsp) (l.map unsp).length := fun j hj _ => by
  rw [opensAt_unsp, getElem_unsp, faultE_unsp]
  exact h j (by simpa using hj) (by simpa using hj)
theorem noLarge_unsp {l : List Evn} (h : NoLarge l) : NoLarge (l.map unsp) := fun j hj => by
  rw [gAt_unsp]
  exact h j (by simpa using hj)

/-- What operations say of the first k events. -/
structure Tel (l : List Evn) (k : Nat) (g : Gs) : Prop where
  inv : ∀ j (h : j < g.calls.length), ∃ hi : g.calls[j].inv < l.length, g.calls[j].inv < k ∧ l[g.calls[j].inv].kind = 1 ∧ g.procs[g.calls[j].proc]? = some l[g.calls[j].inv].proc ∧ g.objs[g.calls[j].obj]? = some l[g.calls[j].inv].obj ∧ g.calls[j].op = l[g.calls[j].inv].op ∧ g.calls[j].arg = l[g.calls[j].inv].val
  res : ∀ j (h : j < g.calls.length), (g.calls[j].res = -1 ∧ g.calls[j].reply = zeroVl) ∨ ∃ r : Nat, ∃ hr : r < l.length, r < k ∧ g.calls[j].res = (r : Int) ∧ l[r].kind = 2 ∧ g.procs[g.calls[j].proc]? = some l[r].proc ∧ g.calls[j].reply = l[r].val
  all : ∀ i, i < k → ∃ j, ∃ h : j < g.calls.length, g.calls[j].inv = i ∨ g.calls[j].res = (i : Int)
  cnt : g.calls.length + (g.calls.filter (fun x => x.res != -1)).length = k
theorem addN_old {l : List (List UInt8)} {s t : List UInt8} {i : Nat} (h : l[i]? = some s) : (addN l t)[i]? = some s := by
  unfold addN
  split
  · exact h
  · rw [List.getElem?_append_left (List.getElem?_eq_some_iff.1 h).1]
    exact h
theorem addN_new (l : List (List UInt8)) (t : List UInt8) : (addN l t)[l.idxOf t]? = some t := by
  unfold addN
  split
  · rename_i h
    have h1 := List.idxOf_lt_length_of_mem h
    rw [List.getElem?_eq_getElem h1, List.getElem_idxOf h1]
  · rename_i h
    rw [List.idxOf_eq_length h]
    simp
theorem count_answer : ∀ (cs : List Cl) (c k : Nat) (v : Vl) (h : c < cs.length), cs[c].res = -1 → ((answer cs c k v).filter (fun x => x.res != -1)).length = (cs.filter (fun x => x.res != -1)).length + 1
  | [], c, k, v, h, e => by simp at h
  | x :: cs, 0, k, v, h, e => by
    simp only [List.getElem_cons_zero] at e
    have hk : ((k : Int) != -1) = true := by simp
    simp [answer, e, hk]
  | x :: cs, c + 1, k, v, h, e => by
    simp only [List.getElem_cons_succ] at e
    have ih := count_answer cs c k v (by simpa using h) e
    unfold answer at ih ⊢
    rw [List.modify_succ_cons, List.filter_cons, List.filter_cons]
    split <;> simp [ih]
theorem tel_at (l : List Evn) : ∀ k, k ≤ l.length → Fine l k → Tel l k (gAt l k)
  | 0, _, _ => ⟨fun j h => by simp [gAt] at h, fun j h => by simp [gAt] at h, fun i h => by omega, rfl⟩
  | k + 1, hk, hf => by
    have ih := tel_at l k (by omega) (fine_less hf (by omega))
    refine take_ways (by omega) hf (fun g g' => Tel l k g → Tel l (k + 1) g') (fun g hg h1 h2 ih => ?_) (fun g c hg h1 h2 h3 ih => ?_) ih
    · refine ⟨fun j h => ?_, fun j h => ?_, fun i hi => ?_, ?_⟩
      · by_cases hj : j < g.calls.length
        · simp only [List.getElem_append_left hj]
          obtain ⟨a, b, c, d, e, f, q⟩ := ih.inv j hj
          exact ⟨a, by omega, c, addN_old d, addN_old e, f, q⟩
        · have hj' : j = g.calls.length := by simp at h; omega
          subst hj'
          simp only [List.getElem_append_right (Nat.le_refl _), Nat.sub_self, List.getElem_singleton]
          exact ⟨by omega, by omega, h1, addN_new _ _, addN_new _ _, by simp⟩
      · by_cases hj : j < g.calls.length
        · simp only [List.getElem_append_left hj]
          rcases ih.res j hj with a | ⟨r, hr, b, c, d, e, f⟩
          · exact .inl a
          · exact .inr ⟨r, hr, by omega, c, d, addN_old e, f⟩
        · have hj' : j = g.calls.length := by simp at h; omega
          subst hj'
          simp only [List.getElem_append_right (Nat.le_refl _), Nat.sub_self, List.getElem_singleton]
          exact .inl (by simp)
      · by_cases hik : i < k
        · obtain ⟨j, hj, e⟩ := ih.all i hik
          refine ⟨j, by simp; omega, ?_⟩
          simp only [List.getElem_append_left hj]
          exact e
        · have : i = k := by omega
          subst this
          exact ⟨g.calls.length, by simp, .inl (by simp)⟩
      · have := ih.cnt
        simp only [List.length_append, List.length_singleton, List.filter_append]
        simp
        omega
    · obtain ⟨hl, hp, hr⟩ := hg.opn _ _ h2
      have hlen := answer_len g.calls c k l[k].val
      refine ⟨fun j h => ?_, fun j h => ?_, fun i hi => ?_, ?_⟩
      · have hj : j < g.calls.length := by rwa [hlen] at h
        obtain ⟨a, b, d, e, f, q, z⟩ := ih.inv j hj
        have hg' := answer_get g.calls c k l[k].val j h
        have k1 : (answer g.calls c k l[k].val)[j].inv = g.calls[j].inv ∧ (answer g.calls c k l[k].val)[j].proc = g.calls[j].proc ∧ (answer g.calls c k l[k].val)[j].obj = g.calls[j].obj ∧ (answer g.calls c k l[k].val)[j].op = g.calls[j].op ∧ (answer g.calls c k l[k].val)[j].arg = g.calls[j].arg := by
          rw [hg']
          split <;> exact ⟨rfl, rfl, rfl, rfl, rfl⟩
        obtain ⟨k1, k2, k3, k4, k5⟩ := k1
        simp only [k1, k2, k3, k4, k5]
        exact ⟨a, by omega, d, e, f, q, z⟩
      · have hj : j < g.calls.length := by rwa [hlen] at h
        have hg' := answer_get g.calls c k l[k].val j h
        by_cases hcj : c = j
        · subst hcj
          rw [if_pos rfl] at hg'
          simp only [hg']
          refine .inr ⟨k, by omega, by omega, rfl, h1, ?_, rfl⟩
          rw [hp]
          have := List.idxOf_lt_length_of_mem h3
          rw [List.getElem?_eq_getElem this, List.getElem_idxOf this]
        · rw [if_neg hcj] at hg'
          simp only [hg']
          rcases ih.res j hj with a | ⟨r, hr', b, d, e, f, q⟩
          · exact .inl a
          · exact .inr ⟨r, hr', by omega, d, e, f, q⟩
      · by_cases hik : i < k
        · obtain ⟨j, hj, e⟩ := ih.all i hik
          have hj' : j < (answer g.calls c k l[k].val).length := by rw [hlen]; exact hj
          obtain ⟨q1, q2, q3⟩ := answer_proc g.calls c k l[k].val j hj'
          refine ⟨j, hj', ?_⟩
          rw [q2, q3]
          rcases e with e | e
          · exact .inl e
          · refine .inr ?_
            split
            · rename_i hcj
              subst hcj
              omega
            · exact e
        · have : i = k := by omega
          subst this
          refine ⟨c, by rw [hlen]; exact hl, .inr ?_⟩
          rw [(answer_proc g.calls c i l[i].val c (by rw [hlen]; exact hl)).2.2, if_pos rfl]
      · have := ih.cnt
        dsimp only
        rw [hlen, count_answer g.calls c k l[k].val hl hr]
        omega
theorem right_res {e : Evn} (h : rightE e = true) (hk : e.kind = 2) : e.obj = [] ∧ e.op = [] := by
  unfold rightE at h
  rw [if_neg (by omega), if_pos hk] at h
  simp only [Bool.and_eq_true, List.isEmpty_iff] at h
  exact ⟨h.1.1.2, h.1.2⟩
theorem getD_of {P : List (List UInt8)} {i : Nat} {s : List UInt8} (h : P[i]? = some s) : P.getD i [] = s ∧ i < P.length := by
  refine ⟨?_, (List.getElem?_eq_some_iff.1 h).1⟩
  rw [List.getD_eq_getElem?_getD, h]
  rfl
theorem laidN_made (l : List Evn) (hf : Fine l l.length) (rs : List CV) (hs : rs.map (·.1) = (gAt l l.length).calls) : ∀ k, k ≤ rs.length → ∃ E, laidN (gAt l l.length).procs (gAt l l.length).objs (rs.map hvOf) k = some E ∧ E.length = l.length ∧ ∀ i (hi : i < l.length) (hE : i < E.length), E[i].1 = unsp l[i] ∨ ∀ j (h : j < rs.length), j < k → rs[j].1.inv ≠ i ∧ rs[j].1.res ≠ (i : Int) := by
  have T := tel_at l l.length (Nat.le_refl _) hf
  have hlen : rs.length = (gAt l l.length).calls.length := by have := congrArg List.length hs; simpa using this
  have hel : ∀ j (h : j < rs.length), ∃ h' : j < (gAt l l.length).calls.length, (gAt l l.length).calls[j] = rs[j].1 := fun j h => ⟨by omega, by
    have e : (rs.map (·.1))[j]'(by simpa using h) = (gAt l l.length).calls[j]'(by omega) := by simp only [hs]
    simpa using e.symm⟩
  intro k
  induction k with
  | zero =>
    intro _
    refine ⟨_, rfl, ?_, fun i hi hE => .inr fun j h hj => by omega⟩
    rw [List.length_replicate]
    unfold placesM placesN
    rw [List.take_length, List.length_map]
    have hc := T.cnt
    have e1 : ((rs.map hvOf).filter (fun x => x.1.res != -1)).length = ((gAt l l.length).calls.filter (fun x => x.res != -1)).length := by
      rw [← hs, List.filter_map, List.filter_map, List.length_map, List.length_map]
      rfl
    rw [e1]
    omega
  | succ k ih =>
    intro hk
    obtain ⟨E, h1, h2, h3⟩ := ih (by omega)
    have hkr : k < rs.length := by omega
    obtain ⟨hkc, hcl⟩ := hel k hkr
    obtain ⟨hi, _, ik, ip, io, iop, iag⟩ := T.inv k hkc
    have hres := T.res k hkc
    simp only [hcl] at hi ik ip io iop iag hres
    have e0 : (rs.map hvOf)[k]'(by simpa using hkr) = hvOf rs[k] := by simp
    obtain ⟨gp, lp⟩ := getD_of ip
    obtain ⟨go, lo⟩ := getD_of io
    have einv : invEv (gAt l l.length).procs (gAt l l.length).objs (chOf rs[k].1) = unsp l[rs[k].1.inv] := by
      unfold invEv unsp chOf
      simp only [Int.toNat_natCast]
      rw [gp, go, iop, iag, ik]
    have hlay : layM E ((rs[k].1.inv : Nat) : Int) (unsp l[rs[k].1.inv], rs[k].2.1) = some (E.set rs[k].1.inv (unsp l[rs[k].1.inv], rs[k].2.1)) := by
      unfold layM
      rw [if_pos (by omega), Int.toNat_natCast]
    have step : laidN (gAt l l.length).procs (gAt l l.length).objs (rs.map hvOf) (k + 1) = (if rs[k].1.res = -1 ∧ zeroB rs[k].1.reply = true then some (E.set rs[k].1.inv (unsp l[rs[k].1.inv], rs[k].2.1)) else layM (E.set rs[k].1.inv (unsp l[rs[k].1.inv], rs[k].2.1)) rs[k].1.res (resEv (gAt l l.length).procs (chOf rs[k].1), rs[k].2.2)) := by
      rw [laidN, h1]
      simp only
      rw [dif_pos (by simpa using hkr), e0]
      unfold stepL
      rw [if_pos (by unfold hvOf chOf; dsimp only; omega)]
      have e1 : layM E (hvOf rs[k]).1.inv (invEv (gAt l l.length).procs (gAt l l.length).objs (hvOf rs[k]).1, (hvOf rs[k]).2.1) = some (E.set rs[k].1.inv (unsp l[rs[k].1.inv], rs[k].2.1)) := by
        rw [show (hvOf rs[k]).1 = chOf rs[k].1 from rfl, einv]
        exact hlay
      rw [e1]
      rfl
    have mid : ∀ i (hi : i < l.length) (hE : i < (E.set rs[k].1.inv (unsp l[rs[k].1.inv], rs[k].2.1)).length), (E.set rs[k].1.inv (unsp l[rs[k].1.inv], rs[k].2.1))[i].1 = unsp l[i] ∨ (rs[k].1.inv ≠ i ∧ ∀ j (h : j < rs.length), j < k → rs[j].1.inv ≠ i ∧ rs[j].1.res ≠ (i : Int)) := fun i hi' hE => by
      rw [List.getElem_set]
      split
      · rename_i e
        subst e
        exact .inl rfl
      · rename_i e
        rcases h3 i hi' (by simpa using hE) with h | h
        · exact .inl h
        · exact .inr ⟨e, h⟩
    rcases hres with ⟨r1, r2⟩ | ⟨r, hr, _, r1, r2, r3, r4⟩
    · rw [if_pos ⟨r1, by rw [r2]; rfl⟩] at step
      refine ⟨_, step, by simpa using h2, fun i hi' hE => ?_⟩
      rcases mid i hi' hE with h | ⟨h, h'⟩
      · exact .inl h
      · refine .inr fun j hj hjk => ?_
        by_cases e : j = k
        · subst e
          exact ⟨h, by omega⟩
        · exact h' j hj (by omega)
    · have hx := right_res (fault_inv (hf r hr hr)).1 r2
      have eres : resEv (gAt l l.length).procs (chOf rs[k].1) = unsp l[r] := by
        unfold resEv unsp chOf
        simp only [Int.toNat_natCast]
        rw [(getD_of r3).1, r4, r2, hx.1, hx.2]
      rw [if_neg (by omega), eres, r1] at step
      have hlay2 : layM (E.set rs[k].1.inv (unsp l[rs[k].1.inv], rs[k].2.1)) (r : Int) (unsp l[r], rs[k].2.2) = some ((E.set rs[k].1.inv (unsp l[rs[k].1.inv], rs[k].2.1)).set r (unsp l[r], rs[k].2.2)) := by
        unfold layM
        rw [if_pos (by simp; omega), Int.toNat_natCast]
      rw [hlay2] at step
      refine ⟨_, step, by simpa using h2, fun i hi' hE => ?_⟩
      rw [List.getElem_set]
      split
      · rename_i e
        subst e
        exact .inl rfl
      · rename_i e
        rcases mid i hi' (by simpa using hE) with h | ⟨h, h'⟩
        · exact .inl h
        · refine .inr fun j hj hjk => ?_
          by_cases ej : j = k
          · subst ej
            refine ⟨h, fun e' => e ?_⟩
            rw [r1] at e'
            omega
          · exact h' j hj (by omega)
theorem laid_made (l : List Evn) (hf : Fine l l.length) (rs : List CV) (hs : rs.map (·.1) = (gAt l l.length).calls) : ∃ E, laidM (gAt l l.length).procs (gAt l l.length).objs (rs.map hvOf) = some E ∧ E.map (·.1) = l.map unsp := by
  obtain ⟨E, h1, h2, h3⟩ := laidN_made l hf rs hs rs.length (Nat.le_refl _)
  have T := tel_at l l.length (Nat.le_refl _) hf
  have hlen : rs.length = (gAt l l.length).calls.length := by have := congrArg List.length hs; simpa using this
  refine ⟨E, by unfold laidM; rw [List.length_map]; exact h1, ?_⟩
  apply List.ext_getElem
  · simpa using h2
  · intro i hi1 hi2
    rw [getElem_unsp, List.getElem_map]
    have hil : i < l.length := by simpa using hi2
    rcases h3 i hil (by omega) with h | h
    · exact h
    · exfalso
      obtain ⟨j, hj, e⟩ := T.all i hil
      have hjr : j < rs.length := by omega
      have e1 : (rs.map (·.1))[j]'(by simpa using hjr) = (gAt l l.length).calls[j] := by simp only [hs]
      rw [List.getElem_map] at e1
      have := h j hjr hjr
      rw [e1] at this
      rcases e with e | e
      · exact this.1 e
      · exact this.2 e
theorem agree_made (l : List Evn) (hf : Fine l l.length) (hn : NoLarge l) (rs : List CV) (hs : rs.map (·.1) = (gAt l l.length).calls) : AgreeM (gAt l l.length).procs (gAt l l.length).objs (rs.map hvOf) (l.map unsp) := by
  have e : gAt (l.map unsp) (l.map unsp).length = gAt l l.length := by rw [gAt_unsp, List.length_map]
  exact ⟨fine_unsp hf, noLarge_unsp hn, by rw [e], by rw [e], by rw [e]; exact plc_calls hs⟩
end Go.Proofs.YtjcmajdaebpejaaDoor
