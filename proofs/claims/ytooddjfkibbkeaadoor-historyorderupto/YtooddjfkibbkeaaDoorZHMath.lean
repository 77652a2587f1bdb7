/- Histories: events, operations, what comes of events; what precedes is an interval order. -/
import Derived.Test.YtooddjfkibbkeaaDoorGFld
namespace Go.Proofs.YtooddjfkibbkeaaDoor

/-- An event. -/
structure Evn where
  kind : Int
  proc : List UInt8
  obj : List UInt8
  op : List UInt8
  val : Vl
  off : Int
  line : Int
  col : Int
/-- An operation. -/
structure Cl where
  proc : Nat
  obj : Nat
  op : List UInt8
  arg : Vl
  inv : Nat
  res : Int
  reply : Vl
def zeroVl : Vl := ⟨0, 0, 0, ⟨#[]⟩, []⟩
/-- A name in memory. -/
abbrev bsN (l : List UInt8) : ByteArray := ⟨⟨l⟩⟩
def anyB (t : List UInt8) : Bool := nameE t == 0
/-- A right event. -/
def rightE (e : Evn) : Bool :=
  if e.kind = 1 then symB (bsN e.proc) && anyB e.obj && symB (bsN e.op) && rightV e.val
  else if e.kind = 2 then symB (bsN e.proc) && e.obj.isEmpty && e.op.isEmpty && rightV e.val else false
/-- Processes that have an operation open. -/
def stepO (O : List (List UInt8)) (e : Evn) : List (List UInt8) := if e.kind = 1 then e.proc :: O else O.filter (fun p => decide (p ≠ e.proc))
/-- What is wrong with an event, where these have an operation open. -/
def faultE (O : List (List UInt8)) (e : Evn) : Int := if rightE e = false then 2 else if e.kind = 1 then (if e.proc ∈ O then 71 else 0) else (if e.proc ∈ O then 0 else 70)
def opensAt (l : List Evn) (k : Nat) : List (List UInt8) := (l.take k).foldl stepO []
theorem opensAt_zero (l : List Evn) : opensAt l 0 = [] := rfl
theorem opensAt_succ (l : List Evn) (k : Nat) (h : k < l.length) : opensAt l (k + 1) = stepO (opensAt l k) l[k] := by
  unfold opensAt
  rw [List.take_succ_eq_append_getElem h, List.foldl_append]
  rfl
/-- Nothing is wrong with the first k events. -/
def Fine (l : List Evn) (k : Nat) : Prop := ∀ j (h : j < l.length), j < k → faultE (opensAt l j) l[j] = 0
/-- What well formed events have come to. -/
structure Gs where
  procs : List (List UInt8)
  objs : List (List UInt8)
  calls : List Cl
  opn : List (Nat × Nat)
def addN (l : List (List UInt8)) (s : List UInt8) : List (List UInt8) := if s ∈ l then l else l ++ [s]
def findO (o : List (Nat × Nat)) (p : Nat) : Nat := ((o.find? (fun x => x.1 == p)).map Prod.snd).getD 0
def dropO (o : List (Nat × Nat)) (p : Nat) : List (Nat × Nat) := o.filter (fun x => x.1 != p)
def answer (l : List Cl) (i : Nat) (at' : Nat) (v : Vl) : List Cl := l.modify i (fun c => { c with res := (at' : Int), reply := v })
def takeM (g : Gs) (at' : Nat) (e : Evn) : Gs :=
  if e.kind = 2 then ⟨addN g.procs e.proc, g.objs, answer g.calls (findO g.opn (g.procs.idxOf e.proc)) at' e.val, dropO g.opn (g.procs.idxOf e.proc)⟩
  else ⟨addN g.procs e.proc, addN g.objs e.obj, g.calls ++ [⟨g.procs.idxOf e.proc, g.objs.idxOf e.obj, e.op, e.val, at', -1, zeroVl⟩], (g.procs.idxOf e.proc, g.calls.length) :: g.opn⟩
def gAt (l : List Evn) : Nat → Gs
  | 0 => ⟨[], [], [], []⟩
  | k + 1 => if h : k < l.length then takeM (gAt l k) k l[k] else gAt l k
theorem gAt_succ (l : List Evn) (k : Nat) (h : k < l.length) : gAt l (k + 1) = takeM (gAt l k) k l[k] := by
  rw [gAt, dif_pos h]
def largeG (g : Gs) : Bool := decide (64 < g.procs.length) || decide (4096 < g.calls.length) || decide (10 < g.opn.length)

theorem idx_add {l : List (List UInt8)} {s : List UInt8} : (addN l s).idxOf s = l.idxOf s := by
  unfold addN
  split
  · rfl
  · rename_i h
    rw [List.idxOf_append, if_neg h, List.idxOf_eq_length h]
    simp
theorem mem_add {l : List (List UInt8)} {s t : List UInt8} : t ∈ addN l s ↔ t ∈ l ∨ t = s := by
  unfold addN
  split
  · rename_i h
    constructor
    · exact .inl
    · rintro (h' | rfl)
      · exact h'
      · exact h
  · simp
theorem idx_add_old {l : List (List UInt8)} {s t : List UInt8} (h : t ∈ l) : (addN l s).idxOf t = l.idxOf t := by
  unfold addN
  split
  · rfl
  · rw [List.idxOf_append, if_pos h]
theorem nodup_add {l : List (List UInt8)} {s : List UInt8} (h : l.Nodup) : (addN l s).Nodup := by
  unfold addN
  split
  · exact h
  · rename_i hs
    rw [List.nodup_append]
    refine ⟨h, by simp, ?_⟩
    intro a ha b hb e
    simp at hb
    subst hb e
    exact hs ha
theorem idx_inj {l : List (List UInt8)} {s t : List UInt8} (hs : s ∈ l) (ht : t ∈ l) (h : l.idxOf s = l.idxOf t) : s = t := by
  have h1 := List.getElem_idxOf (List.idxOf_lt_length_of_mem hs)
  have h2 := List.getElem_idxOf (List.idxOf_lt_length_of_mem ht)
  rw [← h1, ← h2]
  congr 1

/-- What holds of the operations while the events are gone through. -/
structure Good (O : List (List UInt8)) (k : Nat) (g : Gs) : Prop where
  dup : g.procs.Nodup
  key : ∀ p c, (p, c) ∈ g.opn → p < g.procs.length
  one : ∀ p c c', (p, c) ∈ g.opn → (p, c') ∈ g.opn → c = c'
  opn : ∀ p c, (p, c) ∈ g.opn → ∃ h : c < g.calls.length, g.calls[c].proc = p ∧ g.calls[c].res = -1
  pend : ∀ i (h : i < g.calls.length), g.calls[i].res = -1 → (g.calls[i].proc, i) ∈ g.opn
  num : ∀ i (h : i < g.calls.length), g.calls[i].proc < g.procs.length
  plc : ∀ i (h : i < g.calls.length), g.calls[i].inv < k ∧ (g.calls[i].res = -1 ∨ (g.calls[i].inv : Int) < g.calls[i].res ∧ g.calls[i].res < k)
  seq : ∀ i j (hi : i < g.calls.length) (hj : j < g.calls.length), i < j → g.calls[i].proc = g.calls[j].proc → 0 ≤ g.calls[i].res ∧ g.calls[i].res < g.calls[j].inv
  nms : ∀ s, s ∈ O ↔ ∃ c, (g.procs.idxOf s, c) ∈ g.opn
theorem good_start : Good [] 0 ⟨[], [], [], []⟩ := by
  refine ⟨by simp, by simp, by simp, by simp, by simp, by simp, by simp, by simp, by simp⟩
theorem findO_mem {o : List (Nat × Nat)} {p c : Nat} (h1 : ∀ c c', (p, c) ∈ o → (p, c') ∈ o → c = c') (h : (p, c) ∈ o) : findO o p = c := by
  unfold findO
  cases e : o.find? (fun x => x.1 == p) with
  | none => have := List.find?_eq_none.1 e _ h; simp at this
  | some x =>
    have hx := List.find?_some e
    have hm := List.mem_of_find?_eq_some e
    simp only [beq_iff_eq] at hx
    obtain ⟨a, b⟩ := x
    simp only at hx
    subst hx
    simp only [Option.map_some, Option.getD_some]
    exact h1 _ _ hm h
theorem mem_drop {o : List (Nat × Nat)} {p q c : Nat} : (q, c) ∈ dropO o p ↔ (q, c) ∈ o ∧ q ≠ p := by
  unfold dropO
  simp
theorem answer_len (l : List Cl) (i at' : Nat) (v : Vl) : (answer l i at' v).length = l.length := by simp [answer]
theorem answer_get (l : List Cl) (i at' : Nat) (v : Vl) (j : Nat) (h : j < (answer l i at' v).length) : (answer l i at' v)[j] = if i = j then { l[j]'(by rwa [answer_len] at h) with res := (at' : Int), reply := v } else l[j]'(by rwa [answer_len] at h) := by
  have h' : j < l.length := by rwa [answer_len] at h
  have e := List.getElem_modify (fun c : Cl => { c with res := (at' : Int), reply := v }) i l j (by rwa [List.length_modify])
  exact e
/-- An invocation more. -/
theorem good_inv {O : List (List UInt8)} {k : Nat} {g : Gs} {e : Evn} (h : Good O k g) (hk : e.kind = 1) (ho : e.proc ∉ O) : Good (stepO O e) (k + 1) (takeM g k e) := by
  have hno : ∀ c, (g.procs.idxOf e.proc, c) ∉ g.opn := fun c hc => ho ((h.nms _).2 ⟨c, hc⟩)
  have hle : g.procs.length ≤ (addN g.procs e.proc).length := by unfold addN; split <;> simp
  have hix : g.procs.idxOf e.proc < (addN g.procs e.proc).length := by rw [← idx_add]; exact List.idxOf_lt_length_of_mem (mem_add.2 (.inr rfl))
  have hcl : ∀ i (hi : i < g.calls.length), g.calls[i].proc = g.procs.idxOf e.proc → 0 ≤ g.calls[i].res ∧ g.calls[i].res < k := fun i hi he => by
    have h1 := h.plc i hi
    rcases h1.2 with h2 | h2
    · exact absurd (h.pend i hi h2) (by rw [he]; exact hno i)
    · omega
  have gl : ∀ i (hi : i < (g.calls ++ [(⟨g.procs.idxOf e.proc, g.objs.idxOf e.obj, e.op, e.val, k, -1, zeroVl⟩ : Cl)]).length), (∃ h' : i < g.calls.length, (g.calls ++ [(⟨g.procs.idxOf e.proc, g.objs.idxOf e.obj, e.op, e.val, k, -1, zeroVl⟩ : Cl)])[i] = g.calls[i]) ∨ (i = g.calls.length ∧ (g.calls ++ [(⟨g.procs.idxOf e.proc, g.objs.idxOf e.obj, e.op, e.val, k, -1, zeroVl⟩ : Cl)])[i] = ⟨g.procs.idxOf e.proc, g.objs.idxOf e.obj, e.op, e.val, k, -1, zeroVl⟩) := fun i hi => by
    by_cases hl : i < g.calls.length
    · exact .inl ⟨hl, List.getElem_append_left hl⟩
    · have : i = g.calls.length := by simp at hi; omega
      subst this
      exact .inr ⟨rfl, by simp⟩
  unfold takeM stepO
  rw [if_pos hk, if_neg (by rw [hk]; decide)]
  refine ⟨nodup_add h.dup, fun p c hp => ?_, fun p c c' h1 h2 => ?_, fun p c hp => ?_, fun i hi hr => ?_, fun i hi => ?_, fun i hi => ?_, fun i j hi hj hij he => ?_, fun s => ?_⟩
  · rcases List.mem_cons.1 hp with hp | hp
    · cases hp; exact hix
    · exact Nat.lt_of_lt_of_le (h.key p c hp) hle
  · rcases List.mem_cons.1 h1 with h1 | h1 <;> rcases List.mem_cons.1 h2 with h2 | h2
    · cases h1; cases h2; rfl
    · cases h1; exact absurd h2 (hno _)
    · cases h2; exact absurd h1 (hno _)
    · exact h.one _ _ _ h1 h2
  · rcases List.mem_cons.1 hp with hp | hp
    · cases hp
      exact ⟨by simp, by simp⟩
    · obtain ⟨h1, h2⟩ := h.opn p c hp
      refine ⟨by simp; omega, ?_⟩
      rw [List.getElem_append_left h1]
      exact h2
  · rcases gl i hi with ⟨h', e'⟩ | ⟨rfl, e'⟩
    · rw [e'] at hr ⊢
      exact List.mem_cons_of_mem _ (h.pend i h' hr)
    · rw [e']
      exact List.mem_cons_self
  · rcases gl i hi with ⟨h', e'⟩ | ⟨rfl, e'⟩
    · rw [e']
      exact Nat.lt_of_lt_of_le (h.num i h') hle
    · rw [e']
      exact hix
  · rcases gl i hi with ⟨h', e'⟩ | ⟨rfl, e'⟩
    · rw [e']
      have := h.plc i h'
      omega
    · rw [e']
      exact ⟨by simp, .inl rfl⟩
  · dsimp only at he hi hj ⊢
    rcases gl j hj with ⟨hj', ej⟩ | ⟨rfl, ej⟩
    · rcases gl i hi with ⟨hi', ei⟩ | ⟨rfl, ei⟩
      · rw [ei, ej] at he ⊢
        exact h.seq i j hi' hj' hij he
      · omega
    · rcases gl i hi with ⟨hi', ei⟩ | ⟨rfl, ei⟩
      · rw [ei, ej] at he ⊢
        exact hcl i hi' he
      · omega
  · simp only [List.mem_cons]
    by_cases hs : s = e.proc
    · subst hs
      rw [idx_add]
      exact ⟨fun _ => ⟨_, .inl rfl⟩, fun _ => .inl rfl⟩
    · constructor
      · rintro (h1 | h1)
        · exact absurd h1 hs
        · obtain ⟨c, hc⟩ := (h.nms s).1 h1
          have hm : s ∈ g.procs := by
            have := h.key _ _ hc
            exact List.idxOf_lt_length_iff.1 this
          exact ⟨c, .inr (by rw [idx_add_old hm]; exact hc)⟩
      · rintro ⟨c, hc | hc⟩
        · have hq := (Prod.mk.inj hc).1
          rw [← idx_add (l := g.procs)] at hq
          have hm : s ∈ addN g.procs e.proc := List.idxOf_lt_length_iff.1 (by rw [hq, idx_add]; exact hix)
          exact absurd (idx_inj hm (mem_add.2 (.inr rfl)) hq) hs
        · right
          refine (h.nms s).2 ⟨c, ?_⟩
          have hlt := h.key _ _ hc
          have hm : s ∈ addN g.procs e.proc := List.idxOf_lt_length_iff.1 (by omega)
          rcases mem_add.1 hm with hm | hm
          · rwa [idx_add_old hm] at hc
          · exact absurd hm hs
/-- A response more. -/
theorem good_res {O : List (List UInt8)} {k : Nat} {g : Gs} {e : Evn} (h : Good O k g) (hk : e.kind = 2) (ho : e.proc ∈ O) : Good (stepO O e) (k + 1) (takeM g k e) := by
  obtain ⟨c0, hc0⟩ := (h.nms _).1 ho
  obtain ⟨hlt, hp0, hr0⟩ := h.opn _ _ hc0
  have hf : findO g.opn (g.procs.idxOf e.proc) = c0 := findO_mem (fun c c' => h.one _ c c') hc0
  have hm : e.proc ∈ g.procs := List.idxOf_lt_length_iff.1 (h.key _ _ hc0)
  have hadd : addN g.procs e.proc = g.procs := if_pos hm
  unfold takeM stepO
  rw [if_neg (show ¬ e.kind = 1 by rw [hk]; decide), if_pos hk, hf, hadd]
  have gl : ∀ i (hi : i < (answer g.calls c0 k e.val).length), ∃ h' : i < g.calls.length, (answer g.calls c0 k e.val)[i].proc = g.calls[i].proc ∧ (answer g.calls c0 k e.val)[i].inv = g.calls[i].inv ∧ (answer g.calls c0 k e.val)[i].res = if c0 = i then (k : Int) else g.calls[i].res := fun i hi => by
    have h' : i < g.calls.length := by rwa [answer_len] at hi
    refine ⟨h', ?_⟩
    rw [answer_get]
    split <;> simp
  refine ⟨h.dup, fun p c hp => h.key p c (mem_drop.1 hp).1, fun p c c' h1 h2 => h.one p c c' (mem_drop.1 h1).1 (mem_drop.1 h2).1, fun p c hp => ?_, fun i hi hr => ?_, fun i hi => ?_, fun i hi => ?_, fun i j hi hj hij he => ?_, fun s => ?_⟩
  · obtain ⟨hp1, hp2⟩ := mem_drop.1 hp
    obtain ⟨h1, h2, h3⟩ := h.opn p c hp1
    have hl : c < (answer g.calls c0 k e.val).length := by rwa [answer_len]
    obtain ⟨_, e1, _, e3⟩ := gl c hl
    have hne : c0 ≠ c := fun e' => by subst e'; exact hp2 (h2.symm.trans hp0)
    rw [if_neg hne] at e3
    exact ⟨hl, e1.trans h2, e3.trans h3⟩
  · obtain ⟨h', e1, _, e3⟩ := gl i hi
    rw [e3] at hr
    split at hr
    · omega
    · rename_i hne
      refine mem_drop.2 ⟨by rw [e1]; exact h.pend i h' hr, fun e' => hne ?_⟩
      have := h.pend i h' hr
      rw [e1] at e'
      rw [e'] at this
      exact h.one _ _ _ hc0 this
  · obtain ⟨h', e1, _, _⟩ := gl i hi
    rw [e1]
    exact h.num i h'
  · obtain ⟨h', _, e2, e3⟩ := gl i hi
    have h1 := h.plc i h'
    rw [e2, e3]
    split
    · exact ⟨by omega, .inr ⟨by have := h1.1; omega, by omega⟩⟩
    · exact ⟨by omega, by rcases h1.2 with h2 | h2; exact .inl h2; exact .inr (by omega)⟩
  · obtain ⟨hi', e1, _, e3⟩ := gl i hi
    obtain ⟨hj', f1, f2, _⟩ := gl j hj
    rw [e1, f1] at he
    have hs := h.seq i j hi' hj' hij he
    rw [e3, f2]
    split
    · rename_i h0
      subst h0
      omega
    · exact hs
  · simp only [List.mem_filter, decide_eq_true_eq]
    constructor
    · rintro ⟨h1, h2⟩
      obtain ⟨c, hc⟩ := (h.nms s).1 h1
      refine ⟨c, mem_drop.2 ⟨hc, fun e' => h2 ?_⟩⟩
      exact idx_inj (List.idxOf_lt_length_iff.1 (h.key _ _ hc)) hm e'
    · rintro ⟨c, hc⟩
      obtain ⟨h1, h2⟩ := mem_drop.1 hc
      exact ⟨(h.nms s).2 ⟨c, h1⟩, fun e' => h2 (by rw [e'])⟩
theorem fault_inv {O : List (List UInt8)} {e : Evn} (h : faultE O e = 0) : rightE e = true ∧ (e.kind = 1 ∧ e.proc ∉ O ∨ e.kind = 2 ∧ e.proc ∈ O) := by
  unfold faultE at h
  cases hr : rightE e
  · rw [hr] at h; simp at h
  · rw [hr] at h
    simp only [Bool.true_eq_false, if_false] at h
    refine ⟨rfl, ?_⟩
    split at h
    · rename_i h1
      split at h
      · omega
      · rename_i h2; exact .inl ⟨h1, h2⟩
    · rename_i h1
      split at h
      · rename_i h2
        have h3 : e.kind = 2 := by
          unfold rightE at hr
          rw [if_neg h1] at hr
          split at hr
          · assumption
          · cases hr
        exact .inr ⟨h3, h2⟩
      · omega
theorem good_at (l : List Evn) : ∀ k, k ≤ l.length → Fine l k → Good (opensAt l k) k (gAt l k)
  | 0, _, _ => good_start
  | k + 1, hk, hf => by
    have hlt : k < l.length := by omega
    have h := good_at l k (by omega) (fun j hj hjk => hf j hj (by omega))
    have h0 := hf k hlt (by omega)
    rw [opensAt_succ l k hlt, gAt_succ l k hlt]
    obtain ⟨_, h1 | h1⟩ := fault_inv h0
    · exact good_inv h h1.1 h1.2
    · exact good_res h h1.1 h1.2
end Go.Proofs.YtooddjfkibbkeaaDoor
