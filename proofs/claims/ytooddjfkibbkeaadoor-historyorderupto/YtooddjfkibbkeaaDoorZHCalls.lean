/- How operations lie in memory while they are gathered. -/
import Derived.Test.YtooddjfkibbkeaaDoorZHRoll
namespace Go.Proofs.YtooddjfkibbkeaaDoor
open Go.RowKit Go.Maps

/-- The fifteen cells of an operation. -/
def clCells (c : Cl) (sa sr : Value) : List Value := [.int .i64 c.proc, .int .i64 c.obj, .string (bsN c.op), .int .i64 c.arg.kind, .int .i64 c.arg.int, .int .i64 c.arg.im, .string c.arg.text, sa, .int .i64 c.inv, .int .i64 c.res, .int .i64 c.reply.kind, .int .i64 c.reply.int, .int .i64 c.reply.im, .string c.reply.text, sr]
/-- An operation with where the items of its argument and of its reply lie. -/
abbrev CV := Cl × Value × Value
def clOf (x : CV) : List Value := clCells x.1 x.2.1 x.2.2
def crow (l : List CV) : List Value := l.flatMap clOf
theorem clOf_len (x : CV) : (clOf x).length = 15 := rfl
theorem crow_len (l : List CV) : (crow l).length = l.length * 15 := by
  induction l with
  | nil => rfl
  | cons x l ih => rw [crow, List.flatMap_cons, List.length_append, clOf_len]; change 15 + (crow l).length = _; rw [ih, List.length_cons]; omega
theorem crow_snoc (l : List CV) (x : CV) : crow (l ++ [x]) = crow l ++ clOf x := by simp [crow]
theorem crow_split (l : List CV) (j : Nat) (h : j < l.length) : crow l = crow (l.take j) ++ (clOf l[j] ++ crow (l.drop (j + 1))) := by
  have e : l = l.take j ++ l[j] :: l.drop (j + 1) := by rw [← List.drop_eq_getElem_cons h, List.take_append_drop]
  have : crow l = crow (l.take j ++ l[j] :: l.drop (j + 1)) := by rw [← e]
  rw [this]
  unfold crow
  rw [List.flatMap_append, List.flatMap_cons]
theorem crow_get (l : List CV) (j : Nat) (h : j < l.length) (i : Nat) (hi : i < 15) : (crow l)[j * 15 + i]? = (clOf l[j])[i]? := by
  have hl : (crow (l.take j)).length = j * 15 := by rw [crow_len, List.length_take]; congr 1; omega
  rw [crow_split l j h, List.getElem?_append_right (by omega), hl, Nat.add_sub_cancel_left, List.getElem?_append_left (by rw [clOf_len]; exact hi)]
/-- A cell of one operation is written. -/
theorem crow_set (l : List CV) (j : Nat) (h : j < l.length) (C : List Value) (hC : C.length = 15) (i : Nat) (hi : i < 15) (v : Value) :
    (crow (l.take j) ++ (C ++ crow (l.drop (j + 1)))).set (j * 15 + i) v = crow (l.take j) ++ (C.set i v ++ crow (l.drop (j + 1))) := by
  have hl : (crow (l.take j)).length = j * 15 := by rw [crow_len, List.length_take]; congr 1; omega
  rw [List.set_append_right _ _ (by omega), hl, Nat.add_sub_cancel_left, List.set_append_left _ _ (by omega)]
theorem crow_with (l : List CV) (j : Nat) (h : j < l.length) (x : CV) : crow (l.set j x) = crow (l.take j) ++ (clOf x ++ crow (l.drop (j + 1))) := by
  have h' : j < (l.set j x).length := by simpa using h
  rw [crow_split (l.set j x) j h', List.getElem_set_self, List.take_set_of_le (Nat.le_refl _), List.drop_set_of_lt (Nat.lt_succ_self _)]
/-- Which operation each process has open. -/
def OpnM (w : World) (mb k : Nat) (o : List (Nat × Nat)) : Prop := ∃ D : DataW Unit, w.ownsMap Tryd.prog 3 (plainElem Tryd.prog 3) mb k D ∧ (∀ p : Nat, Maps.has D (.int .i64 p) = decide (p ∈ o.map Prod.fst)) ∧ (∀ p c, (p, c) ∈ o → D.atKey (.int .i64 p) (.lit (.int .i64 0)) = .lit (.int .i64 (c : Nat))) ∧ Maps.size D = o.length ∧ (o.map Prod.fst).Nodup
theorem OpnM.new (w : World) : OpnM (w.alloc (.map #[] 0)) w.heap.size 0 [] := ⟨_, World.ownsMap_made _ _ _ _, fun p => (by simp [Maps.has]), fun p c h => absurd h (by simp), rfl, by simp⟩
theorem Keeps.opn {M : Nat → Prop} {w w' : World} {mb k : Nat} {o : List (Nat × Nat)} (h : Keeps M w w') (hm : OpnM w mb k o) (hM : ¬ M mb) : OpnM w' mb k o := by
  obtain ⟨D, h1, h2⟩ := hm
  exact ⟨D, h.map h1 hM, h2⟩
theorem hLawInt : Keyed Tryd.prog 3 := int_keyed Tryd.underlying3
theorem keyInt (p : Nat) (h : p ≤ 1000000000) : keyOf Tryd.prog 3 (.int .i64 (p : Int)) = some (.int .i64 (p : Int)) := keyOf_int_mk Tryd.underlying3 (WalkArith.wf_i64 (by omega))
theorem opn_put {D : DataW Unit} {o : List (Nat × Nat)} {p c : Nat} (ht : Tidy D) (hp : p ∉ o.map Prod.fst) (h1 : ∀ q : Nat, Maps.has D (.int .i64 q) = decide (q ∈ o.map Prod.fst)) (h2 : ∀ q d, (q, d) ∈ o → D.atKey (.int .i64 q) (.lit (.int .i64 0)) = .lit (.int .i64 (d : Nat))) (h3 : Maps.size D = o.length) (h4 : (o.map Prod.fst).Nodup) :
    (∀ q : Nat, Maps.has (D.put (.int .i64 p) (.lit (.int .i64 (c : Nat)))) (.int .i64 q) = decide (q ∈ ((p, c) :: o).map Prod.fst)) ∧ (∀ q d, (q, d) ∈ (p, c) :: o → (D.put (.int .i64 p) (.lit (.int .i64 (c : Nat)))).atKey (.int .i64 q) (.lit (.int .i64 0)) = .lit (.int .i64 (d : Nat))) ∧ Maps.size (D.put (.int .i64 p) (.lit (.int .i64 (c : Nat)))) = ((p, c) :: o).length ∧ (((p, c) :: o).map Prod.fst).Nodup := by
  refine ⟨fun q => ?_, fun q d hq => ?_, ?_, ?_⟩
  · by_cases e : q = p
    · subst e
      rw [has_put_same (k := .int .i64 q) ht.isMap trivial]
      simp
    · rw [has_put_other (by simp; omega), h1]
      simp [e]
  · rcases List.mem_cons.1 hq with e | e
    · cases e
      rw [atKey_put_same (k := .int .i64 p) ht.isMap trivial]
    · have : q ≠ p := fun h => hp (by subst h; exact List.mem_map.2 ⟨_, e, rfl⟩)
      rw [atKey_put_other (by simp; omega), h2 q d e]
  · rw [size_put ht, h1, if_neg (by simpa using hp), h3, List.length_cons]
  · rw [List.map_cons, List.nodup_cons]
    exact ⟨hp, h4⟩
theorem drop_len : ∀ {o : List (Nat × Nat)} {p : Nat}, p ∈ o.map Prod.fst → (o.map Prod.fst).Nodup → (dropO o p).length + 1 = o.length
  | x :: o, p, h, hn => by
    rw [List.map_cons, List.nodup_cons] at hn
    unfold dropO
    rw [List.filter_cons]
    by_cases e : x.1 = p
    · have hall : o.filter (fun y => y.1 != p) = o := List.filter_eq_self.2 fun y hy => by
        have : y.1 ≠ p := fun e' => hn.1 (by rw [e, ← e']; exact List.mem_map.2 ⟨y, hy, rfl⟩)
        simpa using this
      simp [e, hall]
    · have hin : p ∈ o.map Prod.fst := by
        rw [List.map_cons] at h
        rcases List.mem_cons.1 h with h | h
        · exact absurd h.symm e
        · exact h
      have := drop_len hin hn.2
      unfold dropO at this
      simp [e, this]
theorem opn_del {D : DataW Unit} {o : List (Nat × Nat)} {p : Nat} (ht : Tidy D) (hp : p ∈ o.map Prod.fst) (h1 : ∀ q : Nat, Maps.has D (.int .i64 q) = decide (q ∈ o.map Prod.fst)) (h2 : ∀ q d, (q, d) ∈ o → D.atKey (.int .i64 q) (.lit (.int .i64 0)) = .lit (.int .i64 (d : Nat))) (h3 : Maps.size D = o.length) (h4 : (o.map Prod.fst).Nodup) :
    (∀ q : Nat, Maps.has (D.del (.int .i64 p)) (.int .i64 q) = decide (q ∈ (dropO o p).map Prod.fst)) ∧ (∀ q d, (q, d) ∈ dropO o p → (D.del (.int .i64 p)).atKey (.int .i64 q) (.lit (.int .i64 0)) = .lit (.int .i64 (d : Nat))) ∧ Maps.size (D.del (.int .i64 p)) = (dropO o p).length ∧ ((dropO o p).map Prod.fst).Nodup := by
  have hk : ∀ q, q ∈ (dropO o p).map Prod.fst ↔ q ∈ o.map Prod.fst ∧ q ≠ p := fun q => by
    constructor
    · intro h
      obtain ⟨⟨a, b⟩, h1, rfl⟩ := List.mem_map.1 h
      obtain ⟨h2, h3⟩ := mem_drop.1 h1
      exact ⟨List.mem_map.2 ⟨_, h2, rfl⟩, h3⟩
    · rintro ⟨h, h3⟩
      obtain ⟨⟨a, b⟩, h1, rfl⟩ := List.mem_map.1 h
      exact List.mem_map.2 ⟨(a, b), mem_drop.2 ⟨h1, h3⟩, rfl⟩
  refine ⟨fun q => ?_, fun q d hq => ?_, ?_, ?_⟩
  · by_cases e : q = p
    · subst e
      rw [has_del_same]
      have : q ∉ (dropO o q).map Prod.fst := fun h => ((hk q).1 h).2 rfl
      simp [this]
    · rw [has_del_other (by simp; omega), h1]
      rw [Bool.eq_iff_iff, decide_eq_true_eq, decide_eq_true_eq, hk]
      exact ⟨fun h => ⟨h, e⟩, fun h => h.1⟩
  · obtain ⟨h5, h6⟩ := mem_drop.1 hq
    rw [atKey_del_other (by simp; omega), h2 q d h5]
  · have e1 := size_del (k := .int .i64 (p : Int)) ht
    rw [h1, if_pos (by simpa using hp), h3] at e1
    have e2 := drop_len hp h4
    omega
  · exact List.Nodup.sublist (List.Sublist.map _ List.filter_sublist) h4
/-- The blocks of a gathering. -/
structure Fix (h0 L gb mp mo mm : Nat) : Prop where
  lo : h0 ≤ gb ∧ h0 ≤ mp ∧ h0 ≤ mo ∧ h0 ≤ mm ∧ h0 ≤ L
  hi : gb < L ∧ mp < L ∧ mo < L ∧ mm < L
  ne : gb ≠ mp ∧ gb ≠ mo ∧ gb ≠ mm ∧ mp ≠ mo ∧ mp ≠ mm ∧ mo ≠ mm
/-- Where the items of operations lie. -/
def CvAt (w : World) (B n : Nat) (x : CV) : Prop := ItemsAt w B n x.2.1 x.1.arg.items ∧ ItemsAt w B n x.2.2 x.1.reply.items ∧ x.1.arg.ok ∧ x.1.reply.ok ∧ x.1.arg.size ≤ 1000000000 ∧ x.1.reply.size ≤ 1000000000 ∧ x.1.op.length ≤ 1048576
/-- A gathering in memory. -/
structure GAt (w : World) (B h0 L gb mp mo mm k n : Nat) (g : Gs) (v0 v1 v2 : Value) (rs : List CV) : Prop where
  blk : w.heap[gb]? = some (.cells #[v0, .map (some mp), v1, .map (some mo), v2, .map (some mm)] 84 (0, 0))
  pr : w.ownsRow L 9 1 v0 g.procs.length (strs g.procs)
  ob : w.ownsRow L 9 1 v1 g.objs.length (strs g.objs)
  cl : w.ownsRow L 49 15 v2 g.calls.length (crow rs)
  same : rs.map (·.1) = g.calls
  its : ∀ x ∈ rs, CvAt w B n x
  bh : B ≤ h0
  np : NumM w mp g.procs
  no : NumM w mo g.objs
  om : OpnM w mm k g.opn
  dis : ∀ k, v0.ownBlock = some k → v1.ownBlock ≠ some k
  sz : L ≤ w.heap.size
theorem CvAt.below {w w' : World} {B n : Nat} {x : CV} (h : CvAt w B n x) (hb : Below B w w') : CvAt w' B n x := ⟨h.1.below hb, h.2.1.below hb, h.2.2⟩
theorem row_types {w : World} {L L' : Nat} {t t' : TypeId} {z z' n n' : Nat} {v v' : Value} {xs xs' : List Value} (h : w.ownsRow L t z v n xs) (h' : w.ownsRow L' t' z' v' n' xs') (ht : t ≠ t') (k : Nat) (e : v.ownBlock = some k) : v'.ownBlock ≠ some k := fun e' => by
  rcases h.2 with ⟨rfl, _⟩ | ⟨g, cap, cur, rfl, _, hg, _⟩
  · cases e
  · rcases h'.2 with ⟨rfl, _⟩ | ⟨g', cap', cur', rfl, _, hg', _⟩
    · cases e'
    · simp only [Value.ownBlock, Option.some.injEq] at e e'
      subst e e'
      rw [hg] at hg'
      simp only [Option.some.injEq, Obj.cells.injEq] at hg'
      exact ht hg'.2.1
end Go.Proofs.YtooddjfkibbkeaaDoor
