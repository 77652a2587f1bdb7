/- Operations made by hand: what the reference lays of them; both sides take just those that are made of events. -/
import Derived.Test.YtnmkggoampkekaaGreatDoorGHRT
namespace Go.Proofs.YtnmkggoampkekaaGreatDoor

theorem inv_rise (l : List Evn) : ∀ k, k ≤ l.length → Fine l k → ∀ i j (hi : i < (gAt l k).calls.length) (hj : j < (gAt l k).calls.length), i < j → (gAt l k).calls[i].inv < (gAt l k).calls[j].inv
  | 0, _, _ => fun i j hi => by simp [gAt] at hi
  | k + 1, hk, hf => by
    have ih := inv_rise l k (by omega) (fine_less hf (by omega))
    refine take_ways (by omega) hf (fun g g' => (∀ i j (hi : i < g.calls.length) (hj : j < g.calls.length), i < j → g.calls[i].inv < g.calls[j].inv) → ∀ i j (hi : i < g'.calls.length) (hj : j < g'.calls.length), i < j → g'.calls[i].inv < g'.calls[j].inv) (fun g hg h1 h2 ih => ?_) (fun g c hg h1 h2 h3 ih => ?_) ih
    · intro i j hi hj hij
      have hi' : i < g.calls.length := by simp at hj; omega
      simp only [List.getElem_append_left hi']
      by_cases hj' : j < g.calls.length
      · simp only [List.getElem_append_left hj']
        exact ih i j hi' hj' hij
      · have e : j = g.calls.length := by simp at hj; omega
        subst e
        have := (hg.plc i hi').1
        simpa using this
    · intro i j hi hj hij
      have hi' : i < g.calls.length := by rwa [answer_len] at hi
      have hj' : j < g.calls.length := by rwa [answer_len] at hj
      rw [(answer_proc g.calls c k l[k].val i hi).2.1, (answer_proc g.calls c k l[k].val j hj).2.1]
      exact ih i j hi' hj' hij
theorem objs_dup (l : List Evn) : ∀ k, (gAt l k).objs.Nodup
  | 0 => by simp [gAt]
  | k + 1 => by
    by_cases hk : k < l.length
    · rw [gAt_succ l k hk]
      unfold takeM
      split
      · exact objs_dup l k
      · exact nodup_add (objs_dup l k)
    · rw [gAt, dif_neg hk]
      exact objs_dup l k
theorem idx_one {P : List (List UInt8)} (h : P.Nodup) {i j : Nat} {s : List UInt8} (hi : P[i]? = some s) (hj : P[j]? = some s) : i = j := by
  obtain ⟨h1, e1⟩ := List.getElem?_eq_some_iff.1 hi
  obtain ⟨h2, e2⟩ := List.getElem?_eq_some_iff.1 hj
  exact (List.getElem_inj h).1 (e1.trans e2.symm)
theorem res_lt {l : List Evn} (hf : Fine l l.length) {i j : Nat} (hi : i < (gAt l l.length).calls.length) (hj : j < (gAt l l.length).calls.length) (hij : i < j) (h1 : (gAt l l.length).calls[i].res ≠ -1) : (gAt l l.length).calls[i].res ≠ (gAt l l.length).calls[j].res := fun e => by
  have T := tel_at l l.length (Nat.le_refl _) hf
  have G := good_at l l.length (Nat.le_refl _) hf
  rcases T.res i hi with a | ⟨r, hr, _, c1, _, c3, _⟩
  · exact h1 a.1
  rcases T.res j hj with a | ⟨r', hr', _, d1, _, d3, _⟩
  · exact h1 (e.trans a.1)
  have er : r = r' := by omega
  subst er
  have hp := idx_one G.dup c3 d3
  have h2 := G.seq i j hi hj hij hp
  have h3 := (G.plc j hj).2
  omega
theorem res_one {l : List Evn} (hf : Fine l l.length) {i j : Nat} (hi : i < (gAt l l.length).calls.length) (hj : j < (gAt l l.length).calls.length) (hij : i ≠ j) (h1 : (gAt l l.length).calls[i].res ≠ -1) : (gAt l l.length).calls[i].res ≠ (gAt l l.length).calls[j].res := fun e => by
  by_cases h : i < j
  · exact res_lt hf hi hj h h1 e
  · exact res_lt hf hj hi (by omega) (by rw [← e]; exact h1) e.symm
theorem inv_one {l : List Evn} (hf : Fine l l.length) {i j : Nat} (hi : i < (gAt l l.length).calls.length) (hj : j < (gAt l l.length).calls.length) (hij : i ≠ j) : (gAt l l.length).calls[i].inv ≠ (gAt l l.length).calls[j].inv := fun e => by
  have h := inv_rise l l.length (Nat.le_refl _) hf
  by_cases hlt : i < j
  · have := h i j hi hj hlt
    omega
  · have := h j i hj hi (by omega)
    omega
theorem inv_res {l : List Evn} (hf : Fine l l.length) {i j : Nat} (hi : i < (gAt l l.length).calls.length) (hj : j < (gAt l l.length).calls.length) : ((gAt l l.length).calls[i].inv : Int) ≠ (gAt l l.length).calls[j].res := fun e => by
  have T := tel_at l l.length (Nat.le_refl _) hf
  obtain ⟨a, _, b, _⟩ := T.inv i hi
  rcases T.res j hj with c | ⟨r, hr, _, c1, c2, _⟩
  · omega
  · have er : (gAt l l.length).calls[i].inv = r := by omega
    simp only [er] at b
    omega

/-- What the reference lays. -/
def okC (p o n : Nat) (c : Ch) : Bool := decide (0 ≤ c.proc ∧ c.proc < p ∧ 0 ≤ c.obj ∧ c.obj < o ∧ 0 ≤ c.inv ∧ c.inv < n ∧ -1 ≤ c.res ∧ c.res < n)
def freeAt (E : List Evn) (i : Nat) : Bool := match E[i]? with
  | some e => e.kind == 0
  | none => false
def stepR (P O : List (List UInt8)) (E : List Evn) (c : Ch) : Option (List Evn) :=
  if okC P.length O.length E.length c = true ∧ freeAt E c.inv.toNat = true then
    if c.res < 0 then some (E.set c.inv.toNat (invEv P O c))
    else if freeAt (E.set c.inv.toNat (invEv P O c)) c.res.toNat = true then some ((E.set c.inv.toNat (invEv P O c)).set c.res.toNat (resEv P c)) else none
  else none
def placesR (cs : List HV) : Nat := cs.length + (cs.filter (fun x => decide (0 ≤ x.1.res))).length
def laidR (P O : List (List UInt8)) (cs : List HV) : Nat → Option (List Evn)
  | 0 => some (List.replicate (placesR cs) zeroE)
  | k + 1 => match laidR P O cs k with
    | none => none
    | some E => if h : k < cs.length then stepR P O E cs[k].1 else some E
/-- A place of the first k operations. -/
def Wrt (cs : List Cl) (k i : Nat) : Prop := ∃ j, ∃ h : j < cs.length, j < k ∧ (cs[j].inv = i ∨ cs[j].res = (i : Int))
theorem wrt_succ {cs : List Cl} {k i : Nat} (h : k < cs.length) : Wrt cs (k + 1) i ↔ Wrt cs k i ∨ cs[k].inv = i ∨ cs[k].res = (i : Int) := by
  constructor
  · rintro ⟨j, hj, hjk, e⟩
    by_cases hk : j = k
    · subst hk
      exact .inr e
    · exact .inl ⟨j, hj, by omega, e⟩
  · rintro (⟨j, hj, hjk, e⟩ | e)
    · exact ⟨j, hj, by omega, e⟩
    · exact ⟨k, h, by omega, e⟩
theorem made_laidR (l : List Evn) (hf : Fine l l.length) (cs : List HV) (hs : cs.map (·.1) = (gAt l l.length).calls.map chOf) : ∀ k, k ≤ cs.length → ∃ E, laidR (gAt l l.length).procs (gAt l l.length).objs cs k = some E ∧ E.length = l.length ∧ ∀ i (hi : i < l.length), (Wrt (gAt l l.length).calls k i → E[i]? = some (unsp l[i])) ∧ (¬ Wrt (gAt l l.length).calls k i → E[i]? = some zeroE) := by
  have T := tel_at l l.length (Nat.le_refl _) hf
  have G := good_at l l.length (Nat.le_refl _) hf
  have hlen : cs.length = (gAt l l.length).calls.length := by have := congrArg List.length hs; simpa using this
  have hel : ∀ j (h : j < cs.length), ∃ h' : j < (gAt l l.length).calls.length, cs[j].1 = chOf (gAt l l.length).calls[j] := fun j h => ⟨by omega, by
    have e : (cs.map (·.1))[j]'(by simpa using h) = ((gAt l l.length).calls.map chOf)[j]'(by simpa using (by omega : j < (gAt l l.length).calls.length)) := by simp only [hs]
    simpa using e⟩
  intro k
  induction k with
  | zero =>
    intro _
    have hpl : placesR cs = l.length := by
      have e1 : (cs.filter (fun x => decide (0 ≤ x.1.res))).length = ((cs.map (·.1)).filter (fun x => decide (0 ≤ x.res))).length := by
        rw [List.filter_map, List.length_map]
        rfl
      have e2 : (((gAt l l.length).calls.map chOf).filter (fun x => decide (0 ≤ x.res))).length = ((gAt l l.length).calls.filter (fun x => x.res != -1)).length := by
        rw [List.filter_map, List.length_map]
        congr 1
        apply List.filter_congr
        intro x hx
        obtain ⟨j, hj, rfl⟩ := List.getElem_of_mem hx
        rcases T.res j hj with a | ⟨r, _, _, a, _⟩
        · simp [chOf, a.1]
        · have : ((r : Int) != -1) = true := by simp
          simp [chOf, a, this]
      unfold placesR
      rw [e1, hs, e2, hlen]
      exact T.cnt
    refine ⟨_, rfl, by rw [List.length_replicate, hpl], fun i hi => ⟨fun ⟨j, _, h, _⟩ => by omega, fun _ => ?_⟩⟩
    rw [hpl, List.getElem?_replicate, if_pos hi]
  | succ k ih =>
    intro hk
    obtain ⟨E, h1, h2, h3⟩ := ih (by omega)
    have hkr : k < cs.length := by omega
    obtain ⟨hkc, hcl⟩ := hel k hkr
    obtain ⟨hi, _, ik, ip, io, iop, iag⟩ := T.inv k hkc
    have hres := T.res k hkc
    obtain ⟨gp, lp⟩ := getD_of ip
    obtain ⟨go, lo⟩ := getD_of io
    have hplc := G.plc k hkc
    have einv : invEv (gAt l l.length).procs (gAt l l.length).objs (chOf (gAt l l.length).calls[k]) = unsp l[(gAt l l.length).calls[k].inv] := by
      unfold invEv unsp chOf
      simp only [Int.toNat_natCast]
      rw [gp, go, iop, iag, ik]
    have hnw : ¬ Wrt (gAt l l.length).calls k (gAt l l.length).calls[k].inv := by
      rintro ⟨j, hj, hjk, e | e⟩
      · exact inv_one hf hj hkc (by omega) e
      · exact inv_res hf hkc hj e.symm
    have hfree : freeAt E (gAt l l.length).calls[k].inv = true := by
      unfold freeAt
      rw [(h3 _ hi).2 hnw]
      rfl
    have hok : okC (gAt l l.length).procs.length (gAt l l.length).objs.length E.length (chOf (gAt l l.length).calls[k]) = true := by
      unfold okC chOf
      rw [h2]
      simp only [decide_eq_true_eq]
      omega
    have step : laidR (gAt l l.length).procs (gAt l l.length).objs cs (k + 1) = stepR (gAt l l.length).procs (gAt l l.length).objs E (chOf (gAt l l.length).calls[k]) := by
      rw [laidR, h1]
      simp only
      rw [dif_pos hkr, hcl]
    have hfree' : freeAt E (chOf (gAt l l.length).calls[k]).inv.toNat = true := by
      rw [show (chOf (gAt l l.length).calls[k]).inv = (((gAt l l.length).calls[k].inv : Nat) : Int) from rfl, Int.toNat_natCast]
      exact hfree
    unfold stepR at step
    rw [if_pos ⟨hok, hfree'⟩, einv] at step
    rw [show (chOf (gAt l l.length).calls[k]).inv = (((gAt l l.length).calls[k].inv : Nat) : Int) from rfl, Int.toNat_natCast, show (chOf (gAt l l.length).calls[k]).res = (gAt l l.length).calls[k].res from rfl] at step
    have mid : ∀ i (hi' : i < l.length), (E.set (gAt l l.length).calls[k].inv (unsp l[(gAt l l.length).calls[k].inv]))[i]? = if (gAt l l.length).calls[k].inv = i then some (unsp l[i]) else E[i]? := fun i hi' => by
      rw [List.getElem?_set]
      split
      · rename_i e
        subst e
        rw [if_pos (by omega)]
      · rfl
    rcases hres with ⟨r1, _⟩ | ⟨r, hr, _, r1, r2, r3, r4⟩
    · rw [if_pos (by omega)] at step
      refine ⟨_, step, by simpa using h2, fun i hi' => ?_⟩
      rw [mid i hi', wrt_succ hkc]
      by_cases e : (gAt l l.length).calls[k].inv = i
      · rw [if_pos e]
        exact ⟨fun _ => rfl, fun h => absurd (.inr (.inl e)) h⟩
      · rw [if_neg e]
        refine ⟨fun h => ?_, fun h => (h3 i hi').2 (fun h' => h (.inl h'))⟩
        rcases h with h | h | h
        · exact (h3 i hi').1 h
        · exact absurd h e
        · omega
    · have hx := right_res (fault_inv (hf r hr hr)).1 r2
      have eres : resEv (gAt l l.length).procs (chOf (gAt l l.length).calls[k]) = unsp l[r] := by
        unfold resEv unsp chOf
        simp only [Int.toNat_natCast]
        rw [(getD_of r3).1, r4, r2, hx.1, hx.2]
      have hnr : ¬ Wrt (gAt l l.length).calls k r := by
        rintro ⟨j, hj, hjk, e | e⟩
        · exact inv_res hf hj hkc (by omega)
        · exact res_one hf hj hkc (by omega) (by omega) (by omega)
      have hne : (gAt l l.length).calls[k].inv ≠ r := by omega
      have hfr : freeAt (E.set (gAt l l.length).calls[k].inv (unsp l[(gAt l l.length).calls[k].inv])) r = true := by
        unfold freeAt
        rw [mid r hr, if_neg hne, (h3 r hr).2 hnr]
        rfl
      rw [if_neg (by omega), r1, Int.toNat_natCast, if_pos hfr, eres] at step
      refine ⟨_, step, by simpa using h2, fun i hi' => ?_⟩
      rw [wrt_succ hkc, List.getElem?_set]
      by_cases er : r = i
      · subst er
        rw [if_pos rfl, if_pos (by simpa using (by omega : r < E.length))]
        exact ⟨fun _ => rfl, fun h => absurd (.inr (.inr r1)) h⟩
      · rw [if_neg er, mid i hi']
        by_cases e : (gAt l l.length).calls[k].inv = i
        · rw [if_pos e]
          exact ⟨fun _ => rfl, fun h => absurd (.inr (.inl e)) h⟩
        · rw [if_neg e]
          refine ⟨fun h => ?_, fun h => (h3 i hi').2 (fun h' => h (.inl h'))⟩
          rcases h with h | h | h
          · exact (h3 i hi').1 h
          · exact absurd h e
          · omega
end Go.Proofs.YtnmkggoampkekaaGreatDoor

/- Both sides take just those operations that are made of events. -/
namespace Go.Proofs.YtnmkggoampkekaaGreatDoor

theorem made_laid (l : List Evn) (hf : Fine l l.length) (cs : List HV) (hs : cs.map (·.1) = (gAt l l.length).calls.map chOf) : laidR (gAt l l.length).procs (gAt l l.length).objs cs cs.length = some (l.map unsp) := by
  obtain ⟨E, h1, h2, h3⟩ := made_laidR l hf cs hs cs.length (Nat.le_refl _)
  have T := tel_at l l.length (Nat.le_refl _) hf
  have hlen : cs.length = (gAt l l.length).calls.length := by have := congrArg List.length hs; simpa using this
  rw [h1]
  congr 1
  apply List.ext_getElem?
  intro i
  by_cases hi : i < l.length
  · obtain ⟨j, hj, e⟩ := T.all i hi
    rw [(h3 i hi).1 ⟨j, hj, by omega, e⟩]
    simp [hi]
  · rw [List.getElem?_eq_none (by omega), List.getElem?_eq_none (by simp; omega)]
/-- Without places in a text. -/
def Bare (e : Evn) : Prop := e.off = 0 ∧ e.line = 0 ∧ e.col = 0
theorem bare_unsp {e : Evn} (h : Bare e) : unsp e = e := by
  obtain ⟨a, b, c⟩ := h
  cases e
  dsimp only at a b c
  subst a b c
  rfl
theorem stepR_bare {P O : List (List UInt8)} {E E' : List Evn} {c : Ch} (h : stepR P O E c = some E') (hE : ∀ x ∈ E, Bare x) : ∀ x ∈ E', Bare x := by
  have h1 : ∀ x ∈ E.set c.inv.toNat (invEv P O c), Bare x := fun x hx => by
    rcases List.mem_or_eq_of_mem_set hx with hx | rfl
    · exact hE x hx
    · exact ⟨rfl, rfl, rfl⟩
  unfold stepR at h
  split at h
  · split at h
    · cases h
      exact h1
    · split at h
      · cases h
        intro x hx
        rcases List.mem_or_eq_of_mem_set hx with hx | rfl
        · exact h1 x hx
        · exact ⟨rfl, rfl, rfl⟩
      · cases h
  · cases h
theorem laidR_bare {P O : List (List UInt8)} {cs : List HV} : ∀ k E, laidR P O cs k = some E → ∀ x ∈ E, Bare x
  | 0, E, h => by
    simp only [laidR, Option.some.injEq] at h
    subst h
    intro x hx
    rw [(List.mem_replicate.1 hx).2]
    exact ⟨rfl, rfl, rfl⟩
  | k + 1, E, h => by
    rw [laidR] at h
    split at h
    · cases h
    · rename_i E0 e0
      split at h
      · exact stepR_bare h (laidR_bare k E0 e0)
      · cases h
        exact laidR_bare k _ e0
theorem bare_map {E : List Evn} (h : ∀ x ∈ E, Bare x) : E.map unsp = E := by
  have e : E.map unsp = E.map id := List.map_congr_left (fun x hx => bare_unsp (h x hx))
  rw [e, List.map_id]
/-- Operations that are made of events. -/
structure MadeBy (P O : List (List UInt8)) (cs : List HV) (l : List Evn) : Prop where
  fine : Fine l l.length
  small : NoLarge l
  pr : P = (gAt l l.length).procs
  ob : O = (gAt l l.length).objs
  cl : cs.map (·.1) = (gAt l l.length).calls.map chOf
theorem MadeBy.laidR {P O : List (List UInt8)} {cs : List HV} {l : List Evn} (h : MadeBy P O cs l) : laidR P O cs cs.length = some (l.map unsp) := by
  rw [h.pr, h.ob]
  exact made_laid l h.fine cs h.cl
theorem cv_of {cl : List Cl} : ∀ {cs : List HV}, cs.map (·.1) = cl.map chOf → ∃ rs : List CV, cs = rs.map hvOf ∧ rs.map (·.1) = cl := by
  induction cl with
  | nil =>
    intro cs h
    have : cs = [] := by simpa using h
    subst this
    exact ⟨[], rfl, rfl⟩
  | cons c cl ih =>
    intro cs h
    cases cs with
    | nil => simp at h
    | cons x cs =>
      simp only [List.map_cons, List.cons.injEq] at h
      obtain ⟨rs, e1, e2⟩ := ih h.2
      obtain ⟨x1, x2, x3⟩ := x
      dsimp only at h
      refine ⟨(c, x2, x3) :: rs, ?_, ?_⟩
      · rw [List.map_cons, ← e1]
        congr 1
        unfold hvOf
        rw [h.1]
      · rw [List.map_cons, e2]
theorem MadeBy.told {P O : List (List UInt8)} {cs : List HV} {l : List Evn} (h : MadeBy P O cs l) : ∃ E, laidM P O cs = some E ∧ E.map (·.1) = l.map unsp ∧ AgreeM P O cs (E.map (·.1)) := by
  obtain ⟨rs, rfl, e⟩ := cv_of h.cl
  obtain ⟨E, h1, h2⟩ := laid_made l h.fine rs e
  refine ⟨E, by rw [h.pr, h.ob]; exact h1, h2, ?_⟩
  rw [h2, h.pr, h.ob]
  exact agree_made l h.fine h.small rs e

theorem zeroB_eq {v : Vl} (h : zeroB v = true) : v = zeroVl := by
  unfold zeroB at h
  simp only [Bool.and_eq_true, decide_eq_true_eq] at h
  obtain ⟨h1, h2, h3, h4, h5⟩ := h
  obtain ⟨k, i, m, t, its⟩ := v
  dsimp only at h1 h2 h3 h4 h5
  have h6 : its = [] := List.length_eq_zero_iff.1 h5
  obtain ⟨⟨tl⟩⟩ := t
  have h7 : tl = [] := List.length_eq_zero_iff.1 h4
  subst h1 h2 h3 h6 h7
  rfl
/-- What stands where the program lays operations, none at another's place. -/
structure Lays (P O : List (List UInt8)) (E : List EV) (c : Ch) : Prop where
  pr : ∃ s, P[c.proc.toNat]? = some s ∧ 0 ≤ c.proc
  ob : ∃ s, O[c.obj.toNat]? = some s ∧ 0 ≤ c.obj
  inv : 0 ≤ c.inv ∧ (E[c.inv.toNat]?).map (·.1) = some (invEv P O c)
  res : c.res = -1 ∧ zeroB c.reply = true ∨ 0 ≤ c.res ∧ (E[c.res.toNat]?).map (·.1) = some (resEv P c)
theorem laidN_lays {P O : List (List UInt8)} {cs : List HV}
    (d1 : ∀ i j (hi : i < cs.length) (hj : j < cs.length), i ≠ j → cs[i].1.inv ≠ cs[j].1.inv)
    (d2 : ∀ i j (hi : i < cs.length) (hj : j < cs.length), cs[i].1.inv ≠ cs[j].1.res)
    (d3 : ∀ i j (hi : i < cs.length) (hj : j < cs.length), i ≠ j → cs[i].1.res ≠ -1 → cs[i].1.res ≠ cs[j].1.res) : ∀ k, k ≤ cs.length → ∀ E, laidN P O cs k = some E → ∀ j (h : j < cs.length), j < k → Lays P O E cs[j].1
  | 0, _, E, _ => fun j _ h => by omega
  | k + 1, hk, E, h => by
    have hkc : k < cs.length := by omega
    rw [laidN] at h
    split at h
    · cases h
    rename_i E0 e0
    rw [dif_pos hkc] at h
    have ih := laidN_lays d1 d2 d3 k (by omega) E0 e0
    unfold stepL at h
    split at h
    case isFalse => cases h
    rename_i hb
    have hp : ∃ s, P[cs[k].1.proc.toNat]? = some s ∧ 0 ≤ cs[k].1.proc := ⟨_, List.getElem?_eq_getElem (by omega), hb.1⟩
    have ho : ∃ s, O[cs[k].1.obj.toNat]? = some s ∧ 0 ≤ cs[k].1.obj := ⟨_, List.getElem?_eq_getElem (by omega), hb.2.2.1⟩
    split at h
    · cases h
    rename_i E1 e1
    have h1 : 0 ≤ cs[k].1.inv ∧ cs[k].1.inv < E0.length ∧ E1 = E0.set cs[k].1.inv.toNat (invEv P O cs[k].1, cs[k].2.1) := by
      unfold layM at e1
      split at e1
      · rename_i hr
        exact ⟨hr.1, hr.2, (Option.some.inj e1).symm⟩
      · cases e1
    obtain ⟨a1, a2, rfl⟩ := h1
    have at1 : ∀ (i : Int), 0 ≤ i → i ≠ cs[k].1.inv → (E0.set cs[k].1.inv.toNat (invEv P O cs[k].1, cs[k].2.1))[i.toNat]? = E0[i.toNat]? := fun i hi hne => by
      rw [List.getElem?_set, if_neg (by omega)]
    have at0 : ((E0.set cs[k].1.inv.toNat (invEv P O cs[k].1, cs[k].2.1))[cs[k].1.inv.toNat]?).map (·.1) = some (invEv P O cs[k].1) := by
      rw [List.getElem?_set, if_pos rfl, if_pos (by omega)]
      rfl
    have old1 : ∀ j (hj : j < cs.length), j < k → Lays P O (E0.set cs[k].1.inv.toNat (invEv P O cs[k].1, cs[k].2.1)) cs[j].1 := fun j hj hjk => by
      have hL := ih j hj hjk
      refine ⟨hL.pr, hL.ob, ⟨hL.inv.1, ?_⟩, ?_⟩
      · rw [at1 _ hL.inv.1 (d1 j k hj hkc (by omega))]
        exact hL.inv.2
      · rcases hL.res with r | ⟨r1, r2⟩
        · exact .inl r
        · refine .inr ⟨r1, ?_⟩
          rw [at1 _ r1 (fun e => d2 k j hkc hj e.symm)]
          exact r2
    split at h
    · rename_i hz
      cases h
      intro j hj hjk
      by_cases e : j = k
      · subst e
        exact ⟨hp, ho, ⟨a1, at0⟩, .inl hz⟩
      · exact old1 j hj (by omega)
    · rename_i hz
      have h2 : 0 ≤ cs[k].1.res ∧ cs[k].1.res < (E0.set cs[k].1.inv.toNat (invEv P O cs[k].1, cs[k].2.1)).length ∧ E = (E0.set cs[k].1.inv.toNat (invEv P O cs[k].1, cs[k].2.1)).set cs[k].1.res.toNat (resEv P cs[k].1, cs[k].2.2) := by
        unfold layM at h
        split at h
        · rename_i hr
          exact ⟨hr.1, hr.2, (Option.some.inj h).symm⟩
        · cases h
      obtain ⟨c1, c2, rfl⟩ := h2
      have at2 : ∀ (i : Int), 0 ≤ i → i ≠ cs[k].1.res → ((E0.set cs[k].1.inv.toNat (invEv P O cs[k].1, cs[k].2.1)).set cs[k].1.res.toNat (resEv P cs[k].1, cs[k].2.2))[i.toNat]? = (E0.set cs[k].1.inv.toNat (invEv P O cs[k].1, cs[k].2.1))[i.toNat]? := fun i hi hne => by
        rw [List.getElem?_set, if_neg (by omega)]
      intro j hj hjk
      by_cases e : j = k
      · subst e
        refine ⟨hp, ho, ⟨a1, ?_⟩, .inr ⟨c1, ?_⟩⟩
        · rw [at2 _ a1 (d2 j j hj hj)]
          exact at0
        · rw [List.getElem?_set, if_pos rfl, if_pos (by omega)]
          rfl
      · have hL := old1 j hj (by omega)
        refine ⟨hL.pr, hL.ob, ⟨hL.inv.1, ?_⟩, ?_⟩
        · rw [at2 _ hL.inv.1 (d2 j k hj hkc)]
          exact hL.inv.2
        · rcases hL.res with r | ⟨r1, r2⟩
          · exact .inl r
          · refine .inr ⟨r1, ?_⟩
            rw [at2 _ r1 (d3 j k hj hkc (by omega) (by omega))]
            exact r2
/-- What the program takes is made of the events that it lays. -/
theorem told_made {P O : List (List UInt8)} {cs : List HV} {E : List EV} (h : laidM P O cs = some E) (hag : AgreeM P O cs (E.map (·.1))) : MadeBy P O cs (E.map (·.1)) := by
  have T := tel_at (E.map (·.1)) _ (Nat.le_refl _) hag.fine
  have G := good_at (E.map (·.1)) _ (Nat.le_refl _) hag.fine
  have hlen : cs.length = (gAt (E.map (·.1)) (E.map (·.1)).length).calls.length := by have := congrArg List.length hag.cl; simpa using this
  have hpl : ∀ j (h : j < cs.length), ∃ h' : j < (gAt (E.map (·.1)) (E.map (·.1)).length).calls.length, cs[j].1.inv = ((gAt (E.map (·.1)) (E.map (·.1)).length).calls[j].inv : Int) ∧ cs[j].1.res = (gAt (E.map (·.1)) (E.map (·.1)).length).calls[j].res := fun j hj => by
    have hj' : j < (gAt (E.map (·.1)) (E.map (·.1)).length).calls.length := by omega
    refine ⟨hj', ?_⟩
    have e := congrArg (fun z => z[j]?) hag.cl
    simp only [List.getElem?_map, List.getElem?_eq_getElem hj, List.getElem?_eq_getElem hj', Option.map_some, Option.some.injEq] at e
    unfold plc at e
    exact Prod.mk.inj e
  have hL := laidN_lays (P := P) (O := O) (cs := cs) (fun i j hi hj hij e => by
      obtain ⟨hi', a, _⟩ := hpl i hi
      obtain ⟨hj', b, _⟩ := hpl j hj
      exact inv_one hag.fine hi' hj' hij (by omega)) (fun i j hi hj e => by
      obtain ⟨hi', a, _⟩ := hpl i hi
      obtain ⟨hj', _, b⟩ := hpl j hj
      exact inv_res hag.fine hi' hj' (by omega)) (fun i j hi hj hij h1 e => by
      obtain ⟨hi', _, a⟩ := hpl i hi
      obtain ⟨hj', _, b⟩ := hpl j hj
      exact res_one hag.fine hi' hj' hij (by omega) (by omega)) cs.length (Nat.le_refl _) E h
  refine ⟨hag.fine, hag.small, hag.pr, hag.ob, ?_⟩
  apply List.ext_getElem
  · simpa using hlen
  intro j hj1 hj2
  have hj : j < cs.length := by simpa using hj1
  obtain ⟨hj', e1, e2⟩ := hpl j hj
  have l1 := hL j hj hj
  rw [List.getElem_map, List.getElem_map]
  obtain ⟨hi, _, ik, ip, io, iop, iag⟩ := T.inv j hj'
  have hres := T.res j hj'
  -- the invocation
  have f1 : (E.map (·.1))[(gAt (E.map (·.1)) (E.map (·.1)).length).calls[j].inv] = invEv P O cs[j].1 := by
    have := l1.inv.2
    rw [e1, Int.toNat_natCast, ← List.getElem?_map, List.getElem?_eq_getElem hi] at this
    exact Option.some.inj this
  rw [f1] at ip io iop iag
  obtain ⟨s, hs, hs0⟩ := l1.pr
  obtain ⟨t, ht, ht0⟩ := l1.ob
  have g1 : (invEv P O cs[j].1).proc = s := (getD_of hs).1
  have g2 : (invEv P O cs[j].1).obj = t := (getD_of ht).1
  rw [g1, ← hag.pr] at ip
  rw [g2, ← hag.ob] at io
  have hPd : P.Nodup := by rw [hag.pr]; exact G.dup
  have hOd : O.Nodup := by rw [hag.ob]; exact objs_dup _ _
  have h1 := idx_one hPd hs ip
  have h2 := idx_one hOd ht io
  have hrep : cs[j].1.reply = (gAt (E.map (·.1)) (E.map (·.1)).length).calls[j].reply := by
    rcases hres with ⟨r1, r2⟩ | ⟨r, hr, _, r1, r2, r3, r4⟩
    · rcases l1.res with ⟨_, z⟩ | ⟨z, _⟩
      · rw [r2]
        exact zeroB_eq z
      · omega
    · rcases l1.res with ⟨z, _⟩ | ⟨z, z2⟩
      · omega
      · have f2 : (E.map (·.1))[r] = resEv P cs[j].1 := by
          rw [e2, r1, Int.toNat_natCast, ← List.getElem?_map, List.getElem?_eq_getElem hr] at z2
          exact Option.some.inj z2
        rw [r4, f2]
        rfl
  unfold chOf
  have e3 : cs[j].1.op = (gAt (E.map (·.1)) (E.map (·.1)).length).calls[j].op := iop.symm
  have e4 : cs[j].1.arg = (gAt (E.map (·.1)) (E.map (·.1)).length).calls[j].arg := iag.symm
  have e5 : cs[j].1.proc = ((gAt (E.map (·.1)) (E.map (·.1)).length).calls[j].proc : Int) := by omega
  have e6 : cs[j].1.obj = ((gAt (E.map (·.1)) (E.map (·.1)).length).calls[j].obj : Int) := by omega
  rw [← e1, ← e2, ← e3, ← e4, ← e5, ← e6, ← hrep]
end Go.Proofs.YtnmkggoampkekaaGreatDoor
