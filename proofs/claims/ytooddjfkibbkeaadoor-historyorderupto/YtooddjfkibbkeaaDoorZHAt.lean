/- How events lie in memory; illFormed: the first event that is not right, or that its process may not have there. -/
import Derived.Test.YtooddjfkibbkeaaDoorZHRight
import Derived.Maps.OwnSet
import Derived.StringKeys
namespace Go.Proofs.YtooddjfkibbkeaaDoor
open Go.RowKit Go.Maps

/-- A slice of events that lies in blocks below B; n bounds how deep their values are. -/
def EvsAt (w : World) (B n : Nat) (sl : Value) (l : List Evn) : Prop := ∃ a c, sl = .slice a l.length c ∧ l.length ≤ 1000000000 ∧ ∀ j (h : j < l.length), ∃ b off s', a = some ⟨b, off, none⟩ ∧ b < B ∧
  (∀ (i : Nat) (v : Value), (evCells l[j] s')[i]? = some v → w.cell? ⟨b, off + j * 12 + i, none⟩ = some v) ∧ ItemsAt w B n s' l[j].val.items ∧ EvOk l[j] ∧ l[j].val.size ≤ 1000000000
theorem EvsAt.kept {w w' : World} {B n : Nat} {sl : Value} {l : List Evn} (h : EvsAt w B n sl l) (hk : ∀ b o, b < B → w'.cell? ⟨b, o, none⟩ = w.cell? ⟨b, o, none⟩) : EvsAt w' B n sl l := by
  obtain ⟨a, c, e, hl, hc⟩ := h
  refine ⟨a, c, e, hl, fun j hj => ?_⟩
  obtain ⟨b, off, s', e, hb, h0, h1, h2, h3⟩ := hc j hj
  exact ⟨b, off, s', e, hb, fun i v hv => (hk _ _ hb).trans (h0 i v hv), h1.kept hk, h2, h3⟩
theorem EvsAt.below {w w' : World} {B n : Nat} {sl : Value} {l : List Evn} (h : EvsAt w B n sl l) (hb : Below B w w') : EvsAt w' B n sl l :=
  h.kept fun b o hB => hb.cell (p := ⟨b, o, none⟩) hB
theorem EvsAt.up {w : World} {B B' n : Nat} {sl : Value} {l : List Evn} (h : EvsAt w B n sl l) (hB : B ≤ B') : EvsAt w B' n sl l := by
  obtain ⟨a, c, e, hl, hc⟩ := h
  refine ⟨a, c, e, hl, fun j hj => ?_⟩
  obtain ⟨b, off, s', e, hb, h0, h1, h2, h3⟩ := hc j hj
  exact ⟨b, off, s', e, by omega, h0, h1.up hB, h2, h3⟩
theorem EvsAt.len {w : World} {B n : Nat} {sl : Value} {l : List Evn} (h : EvsAt w B n sl l) : ∃ a c, sl = .slice a l.length c ∧ l.length ≤ 1000000000 := by
  obtain ⟨a, c, e, hl, _⟩ := h
  exact ⟨a, c, e, hl⟩
/-- The event at a place, cell by cell. -/
theorem EvsAt.item {w : World} {B n : Nat} {a : Option Addr} {m c : Nat} {l : List Evn} (h : EvsAt w B n (.slice a m c) l) (j : Nat) (hj : j < l.length) : ∃ b off s', a = some ⟨b, off, none⟩ ∧ b < B ∧
    w.cell? ⟨b, off + j * 12, none⟩ = some (.int .i64 l[j].kind) ∧ w.cell? ⟨b, off + j * 12 + 1, none⟩ = some (.string (bsN l[j].proc)) ∧ w.cell? ⟨b, off + j * 12 + 2, none⟩ = some (.string (bsN l[j].obj)) ∧ w.cell? ⟨b, off + j * 12 + 3, none⟩ = some (.string (bsN l[j].op)) ∧
    w.cell? ⟨b, off + j * 12 + 4, none⟩ = some (.int .i64 l[j].val.kind) ∧ w.cell? ⟨b, off + j * 12 + 5, none⟩ = some (.int .i64 l[j].val.int) ∧ w.cell? ⟨b, off + j * 12 + 6, none⟩ = some (.int .i64 l[j].val.im) ∧ w.cell? ⟨b, off + j * 12 + 7, none⟩ = some (.string l[j].val.text) ∧ w.cell? ⟨b, off + j * 12 + 8, none⟩ = some s' ∧
    w.cell? ⟨b, off + j * 12 + 9, none⟩ = some (.int .i64 l[j].off) ∧ w.cell? ⟨b, off + j * 12 + 10, none⟩ = some (.int .i64 l[j].line) ∧ w.cell? ⟨b, off + j * 12 + 11, none⟩ = some (.int .i64 l[j].col) ∧ ItemsAt w B n s' l[j].val.items ∧ EvOk l[j] ∧ l[j].val.size ≤ 1000000000 := by
  obtain ⟨a', c', e, _, hc⟩ := h
  cases e
  obtain ⟨b, off, s', e, hb, h0, h1⟩ := hc j hj
  exact ⟨b, off, s', e, hb, h0 0 _ rfl, h0 1 _ rfl, h0 2 _ rfl, h0 3 _ rfl, h0 4 _ rfl, h0 5 _ rfl, h0 6 _ rfl, h0 7 _ rfl, h0 8 _ rfl, h0 9 _ rfl, h0 10 _ rfl, h0 11 _ rfl, h1⟩
theorem hLawStr : Keyed Tryd.prog 9 := string_keyed Tryd.underlying9
theorem hZeroUnit (w : World) : (zeroValue 94).run Tryd.prog w = .ok (.agg #[]) w := by kernel_rfl
theorem keyStr {t : List UInt8} (h : t.length ≤ 1048576) : keyOf Tryd.prog 9 (.string (bsN t)) = some (.string t) := by
  rw [WideMaps.keyOf_string_mk Tryd.underlying9 (by unfold maxLen; show (bsN t).size ≤ _; rw [bsN_size]; omega)]
/-- What illFormed answers. -/
def IllR (l : List Evn) (at' : Nat) (code : Int) : Prop := (code = 0 ∧ at' = 0 ∧ Fine l l.length) ∨ (∃ h : at' < l.length, code = faultE (opensAt l at') l[at'] ∧ code ≠ 0 ∧ Fine l at')
/-- A set of names in a map. -/
def SetM (w : World) (mb k : Nat) (O : List (List UInt8)) : Prop := ∃ D : DataW Unit, w.ownsMap Tryd.prog 9 (unitElem (H := Unit)) mb k D ∧ ∀ s, Maps.has D (.string s) = decide (s ∈ O)
theorem SetM.new (w : World) : SetM (w.alloc (.map #[] 0)) w.heap.size 0 [] := ⟨_, World.ownsMap_made _ _ _ _, fun s => by simp [Maps.has]⟩
theorem SetM.kept {w w' : World} {mb k : Nat} {O : List (List UInt8)} {row : Option Nat} (h : SetM w mb k O) (hg : w.grownBy w' row) (hne : some mb ≠ row) : SetM w' mb k O := by
  obtain ⟨D, h1, h2⟩ := h
  exact ⟨D, h1.kept hg hne, h2⟩
theorem SetM.below {w w' : World} {mb k : Nat} {O : List (List UInt8)} (h : SetM w mb k O) (hb : Below w.heap.size w w') : SetM w' mb k O := h.kept (grown_of_below (r := none) hb) (by simp)
theorem set_put {D : DataW Unit} {O : List (List UInt8)} {t : List UInt8} (hm : IsMap D) (h : ∀ s, Maps.has D (.string s) = decide (s ∈ O)) (s : List UInt8) : Maps.has (D.put (.string t) (.agg [])) (.string s) = decide (s ∈ t :: O) := by
  by_cases e : s = t
  · subst e
    rw [has_put_same (k := .string s) hm trivial]
    simp
  · rw [has_put_other (by simpa using e), h]
    simp [e]
theorem set_del {D : DataW Unit} {O : List (List UInt8)} {t : List UInt8} (h : ∀ s, Maps.has D (.string s) = decide (s ∈ O)) (s : List UInt8) : Maps.has (D.del (.string t)) (.string s) = decide (s ∈ O.filter (fun p => decide (p ≠ t))) := by
  by_cases e : s = t
  · subst e
    rw [has_del_same]
    simp
  · rw [has_del_other (by simpa using e), h]
    simp [e]
theorem fine_more {l : List Evn} {k : Nat} (hf : Fine l k) (hk : k < l.length) (h0 : faultE (opensAt l k) l[k] = 0) : Fine l (k + 1) := fun j hj hjk => by
  by_cases e : j = k
  · subst e; exact h0
  · exact hf j hj (by omega)
end Go.Proofs.YtooddjfkibbkeaaDoor
