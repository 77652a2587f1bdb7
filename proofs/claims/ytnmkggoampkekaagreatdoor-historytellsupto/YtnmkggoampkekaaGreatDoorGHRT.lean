/- The reference's way to operations: looking back at each event; and its limits, of which it is asked afterwards. -/
import Derived.Test.YtnmkggoampkekaaGreatDoorGHRun
import Derived.Test.YtnmkggoampkekaaGreatDoorGHTl
namespace Go.Proofs.YtnmkggoampkekaaGreatDoor

/-- The place of a name; -1: it is not there. -/
def fnd (l : List (List UInt8)) (s : List UInt8) : Int := if s ∈ l then (l.idxOf s : Int) else -1
theorem fnd_in {l : List (List UInt8)} {s : List UInt8} (h : s ∈ l) : fnd l s = (l.idxOf s : Int) := if_pos h
theorem fnd_no {l : List (List UInt8)} {s : List UInt8} (h : s ∉ l) : fnd l s = -1 := if_neg h
theorem fnd_hit {l : List (List UInt8)} {s : List UInt8} {k : Nat} (h : k < l.length) (e : l[k] = s) (hn : ∀ j (hj : j < l.length), j < k → l[j] ≠ s) : fnd l s = (k : Int) := by
  have hm : s ∈ l := by rw [← e]; exact List.getElem_mem h
  rw [fnd_in hm]
  have h1 := List.idxOf_lt_length_of_mem hm
  have h2 := List.getElem_idxOf h1
  have h3 : ¬ l.idxOf s < k := fun hlt => hn _ h1 hlt h2
  have h4 : ¬ k < l.idxOf s := fun hlt => by
    have := List.not_of_lt_findIdx (p := (· == s)) (xs := l) (i := k) (by simpa [List.idxOf] using hlt)
    simp [e] at this
  omega
theorem fnd_miss {l : List (List UInt8)} {s : List UInt8} (hn : ∀ j (hj : j < l.length), l[j] ≠ s) : fnd l s = -1 := by
  refine fnd_no fun hm => ?_
  have h1 := List.idxOf_lt_length_of_mem hm
  exact hn _ h1 (List.getElem_idxOf h1)
/-- The open operation of a process among the first m: its last one, if that is open. -/
def opnR (cs : List Cl) (p : Nat) : Nat → Int
  | 0 => -1
  | m + 1 => if h : m < cs.length then (if cs[m].proc = p then (if cs[m].res < 0 then (m : Int) else -1) else opnR cs p m) else opnR cs p m
theorem opnR_other {cs : List Cl} {p m : Nat} (h : m < cs.length) (e : cs[m].proc ≠ p) : opnR cs p (m + 1) = opnR cs p m := by rw [opnR, dif_pos h, if_neg e]
theorem opnR_open {cs : List Cl} {p m : Nat} (h : m < cs.length) (e : cs[m].proc = p) (r : cs[m].res < 0) : opnR cs p (m + 1) = (m : Int) := by rw [opnR, dif_pos h, if_pos e, if_pos r]
theorem opnR_shut {cs : List Cl} {p m : Nat} (h : m < cs.length) (e : cs[m].proc = p) (r : ¬ cs[m].res < 0) : opnR cs p (m + 1) = -1 := by rw [opnR, dif_pos h, if_pos e, if_neg r]
theorem opnR_yes {O : List (List UInt8)} {k : Nat} {g : Gs} (h : Good O k g) {p c : Nat} (hc : (p, c) ∈ g.opn) : ∀ m, c < m → m ≤ g.calls.length → opnR g.calls p m = (c : Int)
  | 0, h0, _ => by omega
  | m + 1, h0, h1 => by
    obtain ⟨hl, hp, hr⟩ := h.opn p c hc
    by_cases e : m = c
    · subst e
      exact opnR_open hl hp (by omega)
    · have hne : g.calls[m].proc ≠ p := fun ep => by
        have := h.seq c m hl (by omega) (by omega) (by rw [hp, ep])
        omega
      rw [opnR_other (by omega) hne]
      exact opnR_yes h hc m (by omega) (by omega)
theorem opnR_no {O : List (List UInt8)} {k : Nat} {g : Gs} (h : Good O k g) {p : Nat} (hc : ∀ c, (p, c) ∉ g.opn) : ∀ m, m ≤ g.calls.length → opnR g.calls p m = -1
  | 0, _ => rfl
  | m + 1, h1 => by
    have hm : m < g.calls.length := by omega
    by_cases e : g.calls[m].proc = p
    · by_cases r : g.calls[m].res < 0
      · have h2 := (h.plc m hm).2
        have h3 : g.calls[m].res = -1 := by rcases h2 with h2 | h2 <;> omega
        have := h.pend m hm h3
        rw [e] at this
        exact absurd this (hc m)
      · exact opnR_shut hm e r
    · rw [opnR_other hm e]
      exact opnR_no h hc m (by omega)
/-- The open operation of the process of an event, as the reference finds it. -/
def whoR (g : Gs) (s : List UInt8) : Int := if s ∈ g.procs then opnR g.calls (g.procs.idxOf s) g.calls.length else -1
theorem whoR_in {O : List (List UInt8)} {k : Nat} {g : Gs} (h : Good O k g) {s : List UInt8} (hs : s ∈ O) : s ∈ g.procs ∧ whoR g s = (findO g.opn (g.procs.idxOf s) : Int) ∧ findO g.opn (g.procs.idxOf s) < g.calls.length := by
  obtain ⟨c, hc⟩ := (h.nms s).1 hs
  have hm : s ∈ g.procs := List.idxOf_lt_length_iff.1 (h.key _ _ hc)
  have hl := (h.opn _ _ hc).1
  have hf : findO g.opn (g.procs.idxOf s) = c := findO_mem (fun c c' => h.one _ c c') hc
  refine ⟨hm, ?_, by rw [hf]; exact hl⟩
  unfold whoR
  rw [if_pos hm, hf]
  exact opnR_yes h hc _ hl (Nat.le_refl _)
theorem whoR_out {O : List (List UInt8)} {k : Nat} {g : Gs} (h : Good O k g) {s : List UInt8} (hs : s ∉ O) : whoR g s = -1 := by
  unfold whoR
  split
  · refine opnR_no h (fun c hc => hs ((h.nms s).2 ⟨c, hc⟩)) _ (Nat.le_refl _)
  · rfl
/-- What a row of operations comes to at a place: how many processes, and how many are open. -/
def maxP (cs : List Cl) : Nat → Nat
  | 0 => 0
  | m + 1 => if h : m < cs.length then max (maxP cs m) (cs[m].proc + 1) else maxP cs m
def waitN (cs : List Cl) (t : Int) : Nat → Nat
  | 0 => 0
  | m + 1 => if h : m < cs.length then (if cs[m].res < 0 ∨ t < cs[m].res then waitN cs t m + 1 else waitN cs t m) else waitN cs t m
theorem maxP_succ {cs : List Cl} {m : Nat} (h : m < cs.length) : maxP cs (m + 1) = max (maxP cs m) (cs[m].proc + 1) := by rw [maxP, dif_pos h]
theorem waitN_yes {cs : List Cl} {t : Int} {m : Nat} (h : m < cs.length) (e : cs[m].res < 0 ∨ t < cs[m].res) : waitN cs t (m + 1) = waitN cs t m + 1 := by rw [waitN, dif_pos h, if_pos e]
theorem waitN_no {cs : List Cl} {t : Int} {m : Nat} (h : m < cs.length) (e : ¬ (cs[m].res < 0 ∨ t < cs[m].res)) : waitN cs t (m + 1) = waitN cs t m := by rw [waitN, dif_pos h, if_neg e]
theorem waitN_le (cs : List Cl) (t : Int) : ∀ m, waitN cs t m ≤ m
  | 0 => Nat.le_refl _
  | m + 1 => by
    have := waitN_le cs t m
    rw [waitN]
    split
    · split <;> omega
    · omega
/-- Rows that agree in what the limits ask, up to m, at a place. -/
theorem maxP_congr {cs cs' : List Cl} : ∀ m, m ≤ cs.length → m ≤ cs'.length → (∀ j (h : j < cs.length) (h' : j < cs'.length), j < m → cs[j].proc = cs'[j].proc) → maxP cs m = maxP cs' m
  | 0, _, _, _ => rfl
  | m + 1, h1, h2, h => by
    rw [maxP_succ (by omega), maxP_succ (by omega), maxP_congr m (by omega) (by omega) (fun j a b c => h j a b (by omega)), h m (by omega) (by omega) (by omega)]
theorem waitN_congr {cs cs' : List Cl} {t t' : Int} : ∀ m, m ≤ cs.length → m ≤ cs'.length → (∀ j (h : j < cs.length) (h' : j < cs'.length), j < m → ((cs[j].res < 0 ∨ t < cs[j].res) ↔ (cs'[j].res < 0 ∨ t' < cs'[j].res))) → waitN cs t m = waitN cs' t' m
  | 0, _, _, _ => rfl
  | m + 1, h1, h2, h => by
    have ih := waitN_congr m (by omega) (by omega) (fun j a b c => h j a b (by omega))
    have e := h m (by omega) (by omega) (by omega)
    by_cases hc : cs[m].res < 0 ∨ t < cs[m].res
    · rw [waitN_yes (by omega) hc, waitN_yes (by omega) (e.1 hc), ih]
    · rw [waitN_no (by omega) hc, waitN_no (by omega) (fun h' => hc (e.2 h')), ih]
theorem fine_less {l : List Evn} {k n : Nat} (h : Fine l n) (hk : k ≤ n) : Fine l k := fun j hj hjk => h j hj (by omega)
/-- The two ways by which an event more is taken. -/
theorem take_ways {l : List Evn} {k : Nat} (hk : k < l.length) (hf : Fine l (k + 1)) (P : Gs → Gs → Prop)
    (hi : ∀ g : Gs, Good (opensAt l k) k g → l[k].kind = 1 → l[k].proc ∉ opensAt l k → P g ⟨addN g.procs l[k].proc, addN g.objs l[k].obj, g.calls ++ [⟨g.procs.idxOf l[k].proc, g.objs.idxOf l[k].obj, l[k].op, l[k].val, k, -1, zeroVl⟩], (g.procs.idxOf l[k].proc, g.calls.length) :: g.opn⟩)
    (hr : ∀ (g : Gs) (c : Nat), Good (opensAt l k) k g → l[k].kind = 2 → (g.procs.idxOf l[k].proc, c) ∈ g.opn → l[k].proc ∈ g.procs → P g ⟨g.procs, g.objs, answer g.calls c k l[k].val, dropO g.opn (g.procs.idxOf l[k].proc)⟩) : P (gAt l k) (gAt l (k + 1)) := by
  have hg := good_at l k (by omega) (fine_less hf (by omega))
  rw [gAt_succ l k hk]
  obtain ⟨_, h1 | h1⟩ := fault_inv (hf k hk (by omega))
  · have := hi _ hg h1.1 h1.2
    unfold takeM
    rw [if_neg (by rw [h1.1]; decide)]
    exact this
  · obtain ⟨c, hc⟩ := (hg.nms _).1 h1.2
    have hm : l[k].proc ∈ (gAt l k).procs := List.idxOf_lt_length_iff.1 (hg.key _ _ hc)
    have := hr _ c hg h1.1 hc hm
    unfold takeM
    rw [if_pos h1.1, findO_mem (fun c c' => hg.one _ c c') hc, show addN (gAt l k).procs l[k].proc = (gAt l k).procs from if_pos hm]
    exact this
theorem answer_proc (l : List Cl) (i at' : Nat) (v : Vl) (j : Nat) (h : j < (answer l i at' v).length) : (answer l i at' v)[j].proc = (l[j]'(by rwa [answer_len] at h)).proc ∧ (answer l i at' v)[j].inv = (l[j]'(by rwa [answer_len] at h)).inv ∧ (answer l i at' v)[j].res = if i = j then (at' : Int) else (l[j]'(by rwa [answer_len] at h)).res := by
  rw [answer_get]
  split <;> simp
/-- As many processes as the operations' numbers say. -/
theorem procs_max (l : List Evn) : ∀ k, k ≤ l.length → Fine l k → maxP (gAt l k).calls (gAt l k).calls.length = (gAt l k).procs.length
  | 0, _, _ => rfl
  | k + 1, hk, hf => by
    have ih := procs_max l k (by omega) (fine_less hf (by omega))
    refine take_ways (by omega) hf (fun g g' => maxP g.calls g.calls.length = g.procs.length → maxP g'.calls g'.calls.length = g'.procs.length) (fun g hg h1 h2 ih => ?_) (fun g c hg h1 h2 h3 ih => ?_) ih
    · dsimp only
      rw [List.length_append, List.length_singleton, maxP_succ (by simp), maxP_congr (cs' := g.calls) g.calls.length (by simp) (Nat.le_refl _) (fun j a b _ => by rw [List.getElem_append_left b]), ih]
      simp only [List.getElem_append_right (Nat.le_refl _), Nat.sub_self, List.getElem_singleton]
      unfold addN
      split
      · rename_i hm
        have := List.idxOf_lt_length_of_mem hm
        omega
      · rename_i hm
        rw [List.idxOf_eq_length hm, List.length_append, List.length_singleton]
        omega
    · dsimp only
      rw [answer_len, maxP_congr (cs' := g.calls) g.calls.length (by rw [answer_len]; exact Nat.le_refl _) (Nat.le_refl _) (fun j a b _ => (answer_proc _ _ _ _ j a).1), ih]
theorem opn_dup (l : List Evn) : ∀ k, k ≤ l.length → Fine l k → ((gAt l k).opn.map Prod.fst).Nodup
  | 0, _, _ => by simp [gAt]
  | k + 1, hk, hf => by
    have ih := opn_dup l k (by omega) (fine_less hf (by omega))
    refine take_ways (by omega) hf (fun g g' => (g.opn.map Prod.fst).Nodup → (g'.opn.map Prod.fst).Nodup) (fun g hg h1 h2 ih => ?_) (fun g c hg h1 h2 h3 ih => ?_) ih
    · simp only [List.map_cons, List.nodup_cons]
      refine ⟨fun hm => ?_, ih⟩
      obtain ⟨⟨p, c⟩, hc, e⟩ := List.mem_map.1 hm
      dsimp only at e
      subst e
      exact h2 ((hg.nms _).2 ⟨c, hc⟩)
    · exact List.Nodup.sublist (List.Sublist.map _ List.filter_sublist) ih
theorem waitN_answer {cs : List Cl} {c k : Nat} {v : Vl} {T : Int} (hc : c < cs.length) (hr : cs[c].res < 0) (hk : (k : Int) ≤ T) : ∀ m, m ≤ cs.length → waitN (answer cs c k v) T m + (if c < m then 1 else 0) = waitN cs T m
  | 0, _ => by simp [waitN]
  | m + 1, hm => by
    have ih := waitN_answer (v := v) hc hr hk m (by omega)
    have hm' : m < (answer cs c k v).length := by rw [answer_len]; omega
    have hm2 : m < cs.length := by omega
    obtain ⟨_, _, e⟩ := answer_proc cs c k v m hm'
    by_cases hcm : c = m
    · subst hcm
      rw [if_pos rfl] at e
      rw [waitN_no hm' (by rw [e]; omega), waitN_yes hm2 (.inl hr), if_pos (by omega)]
      rw [if_neg (by omega)] at ih
      omega
    · rw [if_neg hcm] at e
      have hif : (if c < m + 1 then 1 else 0) = (if c < m then 1 else 0 : Nat) := by
        by_cases h : c < m
        · rw [if_pos h, if_pos (by omega)]
        · rw [if_neg h, if_neg (by omega)]
      rw [hif]
      by_cases hw : cs[m].res < 0 ∨ T < cs[m].res
      · rw [waitN_yes hm' (by rw [e]; exact hw), waitN_yes hm2 hw]
        omega
      · rw [waitN_no hm' (by rw [e]; exact hw), waitN_no hm2 hw]
        exact ih
/-- As many are open as the operations say. -/
theorem opn_wait (l : List Evn) : ∀ k, k ≤ l.length → Fine l k → ∀ T : Int, (k : Int) ≤ T → waitN (gAt l k).calls T (gAt l k).calls.length = (gAt l k).opn.length
  | 0, _, _, _, _ => rfl
  | k + 1, hk, hf, T, hT => by
    have ih := opn_wait l k (by omega) (fine_less hf (by omega)) T (by omega)
    have hd := opn_dup l k (by omega) (fine_less hf (by omega))
    refine take_ways (by omega) hf (fun g g' => waitN g.calls T g.calls.length = g.opn.length → (g.opn.map Prod.fst).Nodup → waitN g'.calls T g'.calls.length = g'.opn.length) (fun g hg h1 h2 ih _ => ?_) (fun g c hg h1 h2 h3 ih hd => ?_) ih hd
    · dsimp only
      rw [List.length_append, List.length_singleton, waitN_yes (by simp) (by simp), waitN_congr (cs' := g.calls) (t' := T) g.calls.length (by simp) (Nat.le_refl _) (fun j a b _ => by rw [List.getElem_append_left b]), ih, List.length_cons]
    · dsimp only
      obtain ⟨hl, _, hr⟩ := hg.opn _ _ h2
      have e1 := waitN_answer (v := l[k].val) (k := k) (T := T) hl (by omega) (by omega) g.calls.length (Nat.le_refl _)
      rw [if_pos hl, ih] at e1
      have e2 := drop_len (List.mem_map.2 ⟨_, h2, rfl⟩) hd
      dsimp only at e2
      rw [answer_len]
      omega
/-- How operations go on behind a place. -/
structure Ext (k : Nat) (a b : List Cl) : Prop where
  len : a.length ≤ b.length
  same : ∀ j (h : j < a.length) (h' : j < b.length), b[j].proc = a[j].proc ∧ b[j].inv = a[j].inv ∧ (a[j].res = -1 ∧ (b[j].res = -1 ∨ (k : Int) ≤ b[j].res) ∨ 0 ≤ a[j].res ∧ b[j].res = a[j].res)
  late : ∀ j (h : j < b.length), a.length ≤ j → k ≤ b[j].inv
theorem ext_at (l : List Evn) (k : Nat) (hk : k ≤ l.length) : ∀ n, k ≤ n → n ≤ l.length → Fine l n → Ext k (gAt l k).calls (gAt l n).calls
  | 0, h, _, hf => by
    obtain rfl : k = 0 := by omega
    exact ⟨Nat.le_refl _, fun j h => by simp [gAt] at h, fun j h => by simp [gAt] at h⟩
  | n + 1, h, hn, hf => by
    by_cases e : k = n + 1
    · subst e
      have hg := good_at l _ hn hf
      refine ⟨Nat.le_refl _, fun j h h' => ⟨rfl, rfl, ?_⟩, fun j h h' => by omega⟩
      have := (hg.plc j h).2
      rcases this with h1 | h1
      · exact .inl ⟨h1, .inl h1⟩
      · exact .inr ⟨by omega, rfl⟩
    · have ih := ext_at l k hk n (by omega) (by omega) (fine_less hf (by omega))
      refine take_ways (by omega) hf (fun g g' => Ext k (gAt l k).calls g.calls → Ext k (gAt l k).calls g'.calls) (fun g hg h1 h2 ih => ?_) (fun g c hg h1 h2 h3 ih => ?_) ih
      · refine ⟨by have := ih.len; simp; omega, fun j h h' => ?_, fun j h h' => ?_⟩
        · have hj : j < g.calls.length := Nat.lt_of_lt_of_le h ih.len
          simp only [List.getElem_append_left hj]
          exact ih.same j h hj
        · by_cases hj : j < g.calls.length
          · simp only [List.getElem_append_left hj]
            exact ih.late j hj h'
          · have hj' : j = g.calls.length := by simp at h; omega
            subst hj'
            simp
            omega
      · obtain ⟨hl, _, hr⟩ := hg.opn _ _ h2
        refine ⟨by rw [answer_len]; exact ih.len, fun j h h' => ?_, fun j h h' => ?_⟩
        · have hj : j < g.calls.length := by rwa [answer_len] at h'
          obtain ⟨e1, e2, e3⟩ := answer_proc g.calls c n l[n].val j h'
          obtain ⟨i1, i2, i3⟩ := ih.same j h hj
          refine ⟨e1.trans i1, e2.trans i2, ?_⟩
          rw [e3]
          by_cases hcj : c = j
          · subst hcj
            rw [if_pos rfl]
            rcases i3 with ⟨i4, _⟩ | ⟨i4, i5⟩
            · exact .inl ⟨i4, .inr (by omega)⟩
            · omega
          · rw [if_neg hcj]
            exact i3
        · have hj : j < g.calls.length := by rwa [answer_len] at h
          rw [(answer_proc g.calls c n l[n].val j h).2.1]
          exact ih.late j hj h'
/-- The limits, as the reference asks for them. -/
def largeR (cs : List Cl) (t : Int) (m : Nat) : Bool := decide (4096 < m) || (decide (64 < maxP cs m) || decide (10 < waitN cs t m))
theorem largeR_eq {l : List Evn} (hf : Fine l l.length) {t : Nat} (ht : t < l.length) : largeR (gAt l l.length).calls t (gAt l (t + 1)).calls.length = largeG (gAt l (t + 1)) := by
  have hx := ext_at l (t + 1) ht l.length ht (Nat.le_refl _) hf
  have hg := good_at l (t + 1) ht (fine_less hf ht)
  have e1 : maxP (gAt l l.length).calls (gAt l (t + 1)).calls.length = (gAt l (t + 1)).procs.length := by
    rw [← procs_max l (t + 1) ht (fine_less hf ht)]
    exact maxP_congr _ hx.len (Nat.le_refl _) (fun j a b _ => (hx.same j b a).1)
  have e2 : waitN (gAt l l.length).calls t (gAt l (t + 1)).calls.length = (gAt l (t + 1)).opn.length := by
    rw [← opn_wait l (t + 1) ht (fine_less hf ht) ((t + 1 : Nat) : Int) (Int.le_refl _)]
    refine waitN_congr _ hx.len (Nat.le_refl _) (fun j a b _ => ?_)
    have h1 := (hx.same j b a).2.2
    have h2 := (hg.plc j b).2
    omega
  unfold largeR largeG
  rw [e1, e2]
  cases decide (4096 < (gAt l (t + 1)).calls.length) <;> cases decide (64 < (gAt l (t + 1)).procs.length) <;> simp
end Go.Proofs.YtnmkggoampkekaaGreatDoor

/- What made operations tell are the events that they were made of, but for where they stood. -/
namespace Go.Proofs.YtnmkggoampkekaaGreatDoor

/-- An event without its place in a text. -/
def unsp (e : Evn) : Evn := ⟨e.kind, e.proc, e.obj, e.op, e.val, 0, 0, 0⟩
theorem getElem_unsp (l : List Evn) (k : Nat) (h : k < (l.map unsp).length) : (l.map unsp)[k] = unsp (l[k]'(by simpa using h)) := by simp
theorem takeM_unsp (g : Gs) (k : Nat) (e : Evn) : takeM g k (unsp e) = takeM g k e := rfl
theorem faultE_unsp (O : List (List UInt8)) (e : Evn) : faultE O (unsp e) = faultE O e := rfl
theorem gAt_unsp (l : List Evn) : ∀ k, gAt (l.map unsp) k = gAt l k
  | 0 => rfl
  | k + 1 => by
    by_cases h : k < l.length
    · rw [gAt_succ _ k (by simpa using h), gAt_succ l k h, gAt_unsp l k, getElem_unsp, takeM_unsp]
    · rw [gAt, dif_neg (by simpa using h), gAt, dif_neg h, gAt_unsp l k]
theorem opensAt_unsp (l : List Evn) (k : Nat) : opensAt (l.map unsp) k = opensAt l k := by
  unfold opensAt
  rw [← List.map_take, List.foldl_map]
  rfl
theorem fine_unsp {l : List Evn} (h : Fine l l.length) : Fine (l.map unsp) (l.map unsp).length := fun j hj _ => by
  rw [opensAt_unsp, getElem_unsp, faultE_unsp]
  exact h j (by simpa using hj) (by simpa using hj)
theorem noLarge_unsp {l : List Evn} (h : NoLarge l) : NoLarge (l.map unsp) := fun j hj => by
  rw [gAt_unsp]
  exact h j (by simpa using hj)

/-- What operations say of the first k events. -/
structure Tel (l : List Evn) (k : Nat) (g : Gs) : Prop where
  inv : ∀ j (h : j < g.calls.length), ∃ hi : g.calls[j].inv < l.length, g.calls[j].inv < k ∧ l[g.calls[j].inv].kind = 1 ∧ g.procs[g.calls[j].proc]? = some l[g.calls[j].inv].proc ∧ g.objs[g.calls[j].obj]? = some l[g.calls[j].inv].obj ∧ g.calls[j].op = l[g.calls[j].inv].op ∧ g.calls[j].arg = l[g.calls[j].inv].val
  res : ∀ j (h : j < g.calls.length), (g.calls[j].res = -1 ∧ g.calls[j].reply = zeroVl) ∨ ∃ r : Nat, ∃ hr : r < l.length, r < k ∧ g.calls[j].res = (r : Int) ∧ l[r].kind = 2 ∧ g.procs[g.calls[j].proc]? = some l[r].proc ∧ g.calls[j].reply = l[r].val
  all : ∀ i, i < k → ∃ j, ∃ h : j < g.calls.length, g.calls[j].inv = i ∨ g.calls[j].res = (i : Int)
  cnt : g.calls.length + (g.calls.filter (fun x => x.res != -1)).length = k
theorem addN_old {l : List (List UInt8)} {s t : List UInt8} {i : Nat} (h : l[i]? = some s) : (addN l t)[i]? = some s := by
  unfold addN
  split
  · exact h
  · rw [List.getElem?_append_left (List.getElem?_eq_some_iff.1 h).1]
    exact h
theorem addN_new (l : List (List UInt8)) (t : List UInt8) : (addN l t)[l.idxOf t]? = some t := by
  unfold addN
  split
  · rename_i h
    have h1 := List.idxOf_lt_length_of_mem h
    rw [List.getElem?_eq_getElem h1, List.getElem_idxOf h1]
  · rename_i h
    rw [List.idxOf_eq_length h]
    simp
theorem count_answer : ∀ (cs : List Cl) (c k : Nat) (v : Vl) (h : c < cs.length), cs[c].res = -1 → ((answer cs c k v).filter (fun x => x.res != -1)).length = (cs.filter (fun x => x.res != -1)).length + 1
  | [], c, k, v, h, e => by simp at h
  | x :: cs, 0, k, v, h, e => by
    simp only [List.getElem_cons_zero] at e
    have hk : ((k : Int) != -1) = true := by simp
    simp [answer, e, hk]
  | x :: cs, c + 1, k, v, h, e => by
    simp only [List.getElem_cons_succ] at e
    have ih := count_answer cs c k v (by simpa using h) e
    unfold answer at ih ⊢
    rw [List.modify_succ_cons, List.filter_cons, List.filter_cons]
    split <;> simp [ih]
theorem tel_at (l : List Evn) : ∀ k, k ≤ l.length → Fine l k → Tel l k (gAt l k)
  | 0, _, _ => ⟨fun j h => by simp [gAt] at h, fun j h => by simp [gAt] at h, fun i h => by omega, rfl⟩
  | k + 1, hk, hf => by
    have ih := tel_at l k (by omega) (fine_less hf (by omega))
    refine take_ways (by omega) hf (fun g g' => Tel l k g → Tel l (k + 1) g') (fun g hg h1 h2 ih => ?_) (fun g c hg h1 h2 h3 ih => ?_) ih
    · refine ⟨fun j h => ?_, fun j h => ?_, fun i hi => ?_, ?_⟩
      · by_cases hj : j < g.calls.length
        · simp only [List.getElem_append_left hj]
          obtain ⟨a, b, c, d, e, f, q⟩ := ih.inv j hj
          exact ⟨a, by omega, c, addN_old d, addN_old e, f, q⟩
        · have hj' : j = g.calls.length := by simp at h; omega
          subst hj'
          simp only [List.getElem_append_right (Nat.le_refl _), Nat.sub_self, List.getElem_singleton]
          exact ⟨by omega, by omega, h1, addN_new _ _, addN_new _ _, by simp⟩
      · by_cases hj : j < g.calls.length
        · simp only [List.getElem_append_left hj]
          rcases ih.res j hj with a | ⟨r, hr, b, c, d, e, f⟩
          · exact .inl a
          · exact .inr ⟨r, hr, by omega, c, d, addN_old e, f⟩
        · have hj' : j = g.calls.length := by simp at h; omega
          subst hj'
          simp only [List.getElem_append_right (Nat.le_refl _), Nat.sub_self, List.getElem_singleton]
          exact .inl (by simp)
      · by_cases hik : i < k
        · obtain ⟨j, hj, e⟩ := ih.all i hik
          refine ⟨j, by simp; omega, ?_⟩
          simp only [List.getElem_append_left hj]
          exact e
        · have : i = k := by omega
          subst this
          exact ⟨g.calls.length, by simp, .inl (by simp)⟩
      · have := ih.cnt
        simp only [List.length_append, List.length_singleton, List.filter_append]
        simp
        omega
    · obtain ⟨hl, hp, hr⟩ := hg.opn _ _ h2
      have hlen := answer_len g.calls c k l[k].val
      refine ⟨fun j h => ?_, fun j h => ?_, fun i hi => ?_, ?_⟩
      · have hj : j < g.calls.length := by rwa [hlen] at h
        obtain ⟨a, b, d, e, f, q, z⟩ := ih.inv j hj
        have hg' := answer_get g.calls c k l[k].val j h
        have k1 : (answer g.calls c k l[k].val)[j].inv = g.calls[j].inv ∧ (answer g.calls c k l[k].val)[j].proc = g.calls[j].proc ∧ (answer g.calls c k l[k].val)[j].obj = g.calls[j].obj ∧ (answer g.calls c k l[k].val)[j].op = g.calls[j].op ∧ (answer g.calls c k l[k].val)[j].arg = g.calls[j].arg := by
          rw [hg']
          split <;> exact ⟨rfl, rfl, rfl, rfl, rfl⟩
        obtain ⟨k1, k2, k3, k4, k5⟩ := k1
        simp only [k1, k2, k3, k4, k5]
        exact ⟨a, by omega, d, e, f, q, z⟩
      · have hj : j < g.calls.length := by rwa [hlen] at h
        have hg' := answer_get g.calls c k l[k].val j h
        by_cases hcj : c = j
        · subst hcj
          rw [if_pos rfl] at hg'
          simp only [hg']
          refine .inr ⟨k, by omega, by omega, rfl, h1, ?_, rfl⟩
          rw [hp]
          have := List.idxOf_lt_length_of_mem h3
          rw [List.getElem?_eq_getElem this, List.getElem_idxOf this]
        · rw [if_neg hcj] at hg'
          simp only [hg']
          rcases ih.res j hj with a | ⟨r, hr', b, d, e, f, q⟩
          · exact .inl a
          · exact .inr ⟨r, hr', by omega, d, e, f, q⟩
      · by_cases hik : i < k
        · obtain ⟨j, hj, e⟩ := ih.all i hik
          have hj' : j < (answer g.calls c k l[k].val).length := by rw [hlen]; exact hj
          obtain ⟨q1, q2, q3⟩ := answer_proc g.calls c k l[k].val j hj'
          refine ⟨j, hj', ?_⟩
          rw [q2, q3]
          rcases e with e | e
          · exact .inl e
          · refine .inr ?_
            split
            · rename_i hcj
              subst hcj
              omega
            · exact e
        · have : i = k := by omega
          subst this
          refine ⟨c, by rw [hlen]; exact hl, .inr ?_⟩
          rw [(answer_proc g.calls c i l[i].val c (by rw [hlen]; exact hl)).2.2, if_pos rfl]
      · have := ih.cnt
        dsimp only
        rw [hlen, count_answer g.calls c k l[k].val hl hr]
        omega
theorem right_res {e : Evn} (h : rightE e = true) (hk : e.kind = 2) : e.obj = [] ∧ e.op = [] := by
  unfold rightE at h
  rw [if_neg (by omega), if_pos hk] at h
  simp only [Bool.and_eq_true, List.isEmpty_iff] at h
  exact ⟨h.1.1.2, h.1.2⟩
theorem getD_of {P : List (List UInt8)} {i : Nat} {s : List UInt8} (h : P[i]? = some s) : P.getD i [] = s ∧ i < P.length := by
  refine ⟨?_, (List.getElem?_eq_some_iff.1 h).1⟩
  rw [List.getD_eq_getElem?_getD, h]
  rfl
theorem laidN_made (l : List Evn) (hf : Fine l l.length) (rs : List CV) (hs : rs.map (·.1) = (gAt l l.length).calls) : ∀ k, k ≤ rs.length → ∃ E, laidN (gAt l l.length).procs (gAt l l.length).objs (rs.map hvOf) k = some E ∧ E.length = l.length ∧ ∀ i (hi : i < l.length) (hE : i < E.length), E[i].1 = unsp l[i] ∨ ∀ j (h : j < rs.length), j < k → rs[j].1.inv ≠ i ∧ rs[j].1.res ≠ (i : Int) := by
  have T := tel_at l l.length (Nat.le_refl _) hf
  have hlen : rs.length = (gAt l l.length).calls.length := by have := congrArg List.length hs; simpa using this
  have hel : ∀ j (h : j < rs.length), ∃ h' : j < (gAt l l.length).calls.length, (gAt l l.length).calls[j] = rs[j].1 := fun j h => ⟨by omega, by
    have e : (rs.map (·.1))[j]'(by simpa using h) = (gAt l l.length).calls[j]'(by omega) := by simp only [hs]
    simpa using e.symm⟩
  intro k
  induction k with
  | zero =>
    intro _
    refine ⟨_, rfl, ?_, fun i hi hE => .inr fun j h hj => by omega⟩
    rw [List.length_replicate]
    unfold placesM placesN
    rw [List.take_length, List.length_map]
    have hc := T.cnt
    have e1 : ((rs.map hvOf).filter (fun x => x.1.res != -1)).length = ((gAt l l.length).calls.filter (fun x => x.res != -1)).length := by
      rw [← hs, List.filter_map, List.filter_map, List.length_map, List.length_map]
      rfl
    rw [e1]
    omega
  | succ k ih =>
    intro hk
    obtain ⟨E, h1, h2, h3⟩ := ih (by omega)
    have hkr : k < rs.length := by omega
    obtain ⟨hkc, hcl⟩ := hel k hkr
    obtain ⟨hi, _, ik, ip, io, iop, iag⟩ := T.inv k hkc
    have hres := T.res k hkc
    simp only [hcl] at hi ik ip io iop iag hres
    have e0 : (rs.map hvOf)[k]'(by simpa using hkr) = hvOf rs[k] := by simp
    obtain ⟨gp, lp⟩ := getD_of ip
    obtain ⟨go, lo⟩ := getD_of io
    have einv : invEv (gAt l l.length).procs (gAt l l.length).objs (chOf rs[k].1) = unsp l[rs[k].1.inv] := by
      unfold invEv unsp chOf
      simp only [Int.toNat_natCast]
      rw [gp, go, iop, iag, ik]
    have hlay : layM E ((rs[k].1.inv : Nat) : Int) (unsp l[rs[k].1.inv], rs[k].2.1) = some (E.set rs[k].1.inv (unsp l[rs[k].1.inv], rs[k].2.1)) := by
      unfold layM
      rw [if_pos (by omega), Int.toNat_natCast]
    have step : laidN (gAt l l.length).procs (gAt l l.length).objs (rs.map hvOf) (k + 1) = (if rs[k].1.res = -1 ∧ zeroB rs[k].1.reply = true then some (E.set rs[k].1.inv (unsp l[rs[k].1.inv], rs[k].2.1)) else layM (E.set rs[k].1.inv (unsp l[rs[k].1.inv], rs[k].2.1)) rs[k].1.res (resEv (gAt l l.length).procs (chOf rs[k].1), rs[k].2.2)) := by
      rw [laidN, h1]
      simp only
      rw [dif_pos (by simpa using hkr), e0]
      unfold stepL
      rw [if_pos (by unfold hvOf chOf; dsimp only; omega)]
      have e1 : layM E (hvOf rs[k]).1.inv (invEv (gAt l l.length).procs (gAt l l.length).objs (hvOf rs[k]).1, (hvOf rs[k]).2.1) = some (E.set rs[k].1.inv (unsp l[rs[k].1.inv], rs[k].2.1)) := by
        rw [show (hvOf rs[k]).1 = chOf rs[k].1 from rfl, einv]
        exact hlay
      rw [e1]
      rfl
    have mid : ∀ i (hi : i < l.length) (hE : i < (E.set rs[k].1.inv (unsp l[rs[k].1.inv], rs[k].2.1)).length), (E.set rs[k].1.inv (unsp l[rs[k].1.inv], rs[k].2.1))[i].1 = unsp l[i] ∨ (rs[k].1.inv ≠ i ∧ ∀ j (h : j < rs.length), j < k → rs[j].1.inv ≠ i ∧ rs[j].1.res ≠ (i : Int)) := fun i hi' hE => by
      rw [List.getElem_set]
      split
      · rename_i e
        subst e
        exact .inl rfl
      · rename_i e
        rcases h3 i hi' (by simpa using hE) with h | h
        · exact .inl h
        · exact .inr ⟨e, h⟩
    rcases hres with ⟨r1, r2⟩ | ⟨r, hr, _, r1, r2, r3, r4⟩
    · rw [if_pos ⟨r1, by rw [r2]; rfl⟩] at step
      refine ⟨_, step, by simpa using h2, fun i hi' hE => ?_⟩
      rcases mid i hi' hE with h | ⟨h, h'⟩
      · exact .inl h
      · refine .inr fun j hj hjk => ?_
        by_cases e : j = k
        · subst e
          exact ⟨h, by omega⟩
        · exact h' j hj (by omega)
    · have hx := right_res (fault_inv (hf r hr hr)).1 r2
      have eres : resEv (gAt l l.length).procs (chOf rs[k].1) = unsp l[r] := by
        unfold resEv unsp chOf
        simp only [Int.toNat_natCast]
        rw [(getD_of r3).1, r4, r2, hx.1, hx.2]
      rw [if_neg (by omega), eres, r1] at step
      have hlay2 : layM (E.set rs[k].1.inv (unsp l[rs[k].1.inv], rs[k].2.1)) (r : Int) (unsp l[r], rs[k].2.2) = some ((E.set rs[k].1.inv (unsp l[rs[k].1.inv], rs[k].2.1)).set r (unsp l[r], rs[k].2.2)) := by
        unfold layM
        rw [if_pos (by simp; omega), Int.toNat_natCast]
      rw [hlay2] at step
      refine ⟨_, step, by simpa using h2, fun i hi' hE => ?_⟩
      rw [List.getElem_set]
      split
      · rename_i e
        subst e
        exact .inl rfl
      · rename_i e
        rcases mid i hi' (by simpa using hE) with h | ⟨h, h'⟩
        · exact .inl h
        · refine .inr fun j hj hjk => ?_
          by_cases ej : j = k
          · subst ej
            refine ⟨h, fun e' => e ?_⟩
            rw [r1] at e'
            omega
          · exact h' j hj (by omega)
theorem laid_made (l : List Evn) (hf : Fine l l.length) (rs : List CV) (hs : rs.map (·.1) = (gAt l l.length).calls) : ∃ E, laidM (gAt l l.length).procs (gAt l l.length).objs (rs.map hvOf) = some E ∧ E.map (·.1) = l.map unsp := by
  obtain ⟨E, h1, h2, h3⟩ := laidN_made l hf rs hs rs.length (Nat.le_refl _)
  have T := tel_at l l.length (Nat.le_refl _) hf
  have hlen : rs.length = (gAt l l.length).calls.length := by have := congrArg List.length hs; simpa using this
  refine ⟨E, by unfold laidM; rw [List.length_map]; exact h1, ?_⟩
  apply List.ext_getElem
  · simpa using h2
  · intro i hi1 hi2
    rw [getElem_unsp, List.getElem_map]
    have hil : i < l.length := by simpa using hi2
    rcases h3 i hil (by omega) with h | h
    · exact h
    · exfalso
      obtain ⟨j, hj, e⟩ := T.all i hil
      have hjr : j < rs.length := by omega
      have e1 : (rs.map (·.1))[j]'(by simpa using hjr) = (gAt l l.length).calls[j] := by simp only [hs]
      rw [List.getElem_map] at e1
      have := h j hjr hjr
      rw [e1] at this
      rcases e with e | e
      · exact this.1 e
      · exact this.2 e
theorem agree_made (l : List Evn) (hf : Fine l l.length) (hn : NoLarge l) (rs : List CV) (hs : rs.map (·.1) = (gAt l l.length).calls) : AgreeM (gAt l l.length).procs (gAt l l.length).objs (rs.map hvOf) (l.map unsp) := by
  have e : gAt (l.map unsp) (l.map unsp).length = gAt l l.length := by rw [gAt_unsp, List.length_map]
  exact ⟨fine_unsp hf, noLarge_unsp hn, by rw [e], by rw [e], by rw [e]; exact plc_calls hs⟩
end Go.Proofs.YtnmkggoampkekaaGreatDoor
