/- Events: the events that operations tell, with values of their own. -/
import Derived.Test.YtnmkggoampkekaaGreatDoorGHTl
import Derived.Test.YtnmkggoampkekaaGreatDoorGHRfD
import Derived.Test.YtnmkggoampkekaaGreatDoorGSmr
namespace Go.Proofs.YtnmkggoampkekaaGreatDoor
open Go.RowKit Go.Maps

/-- A value is stored into an event of a row. -/
theorem erow_put5 {w : World} {L g cap m : Nat} {E : List EV} (hr : w.ownsRow L 61 12 (.slice (some ⟨g, 0, none⟩) m cap) m (erow E)) (k : Nat) (hk : k < E.length) (s : Value) :
    (((((w.setCell ⟨g, k * 12 + 4, none⟩ (.int .i64 E[k].1.val.kind)).setCell ⟨g, k * 12 + 4 + 1, none⟩ (.int .i64 E[k].1.val.int)).setCell ⟨g, k * 12 + 4 + 2, none⟩ (.int .i64 E[k].1.val.im)).setCell ⟨g, k * 12 + 4 + 3, none⟩ (.string E[k].1.val.text)).setCell ⟨g, k * 12 + 4 + 4, none⟩ s).ownsRow L 61 12 (.slice (some ⟨g, 0, none⟩) m cap) m (erow (E.set k (E[k].1, s))) ∧
    Keeps (fun x => x = g) w (((((w.setCell ⟨g, k * 12 + 4, none⟩ (.int .i64 E[k].1.val.kind)).setCell ⟨g, k * 12 + 4 + 1, none⟩ (.int .i64 E[k].1.val.int)).setCell ⟨g, k * 12 + 4 + 2, none⟩ (.int .i64 E[k].1.val.im)).setCell ⟨g, k * 12 + 4 + 3, none⟩ (.string E[k].1.val.text)).setCell ⟨g, k * 12 + 4 + 4, none⟩ s) := by
  have s1 := hr.stored (k * 12 + 4) (.int .i64 E[k].1.val.kind)
  have s2 := s1.1.stored (k * 12 + 4 + 1) (.int .i64 E[k].1.val.int)
  have s3 := s2.1.stored (k * 12 + 4 + 2) (.int .i64 E[k].1.val.im)
  have s4 := s3.1.stored (k * 12 + 4 + 3) (.string E[k].1.val.text)
  have s5 := s4.1.stored (k * 12 + 4 + 4) s
  have e1 : (erow (E.take k)).length = k * 12 := by rw [erow_len, List.length_take]; congr 1; omega
  have one : ∀ (A M D : List Value) (i : Nat) (v : Value), A.length = k * 12 → i < M.length → (A ++ (M ++ D)).set (k * 12 + i) v = A ++ (M.set i v ++ D) := fun A M D i v hA hi => by
    rw [List.set_append_right _ _ (by omega), hA, Nat.add_sub_cancel_left, List.set_append_left _ _ hi]
  have hfin : (((((erow E).set (k * 12 + 4) (.int .i64 E[k].1.val.kind)).set (k * 12 + 4 + 1) (.int .i64 E[k].1.val.int)).set (k * 12 + 4 + 2) (.int .i64 E[k].1.val.im)).set (k * 12 + 4 + 3) (.string E[k].1.val.text)).set (k * 12 + 4 + 4) s = erow (E.set k (E[k].1, s)) := by
    rw [erow_split E k hk, erow_set E k hk]
    simp only [Nat.add_assoc]
    rw [one _ _ _ 4 _ e1 (by simp [evOf_len]), one _ _ _ 5 _ e1 (by simp [evOf_len]), one _ _ _ 6 _ e1 (by simp [evOf_len]), one _ _ _ 7 _ e1 (by simp [evOf_len]), one _ _ _ 8 _ e1 (by simp [evOf_len])]
    rfl
  have s6 := s5.1
  rw [hfin] at s6
  exact ⟨s6, ((((Keeps.set _ _ _ _).trans (Keeps.set _ _ _ _) (fun _ _ h => h)).trans (Keeps.set _ _ _ _) (fun _ _ h => h)).trans (Keeps.set _ _ _ _) (fun _ _ h => h)).trans (Keeps.set _ _ _ _) (fun _ _ h => h)⟩
/-- Half of the events of a row have copies for values. -/
structure EHalf (w wr : World) (L n g k : Nat) (E E' : List EV) : Prop where
  row : wr.ownsRow L 61 12 (.slice (some ⟨g, 0, none⟩) E.length E.length) E.length (erow E')
  same : E'.map (·.1) = E.map (·.1)
  new : ∀ j (h : j < E'.length), j < k → ItemsS wr (fun b => w.heap.size ≤ b ∧ b < wr.heap.size ∧ b ≠ g) n E'[j].2 E'[j].1.val.items
  old : ∀ j (h : j < E'.length) (h' : j < E.length), k ≤ j → E'[j] = E[j]
  bel : Below w.heap.size w wr
theorem EHalf.len {w wr : World} {L n g k : Nat} {E E' : List EV} (h : EHalf w wr L n g k E E') : E'.length = E.length := by have := congrArg List.length h.same; simpa using this
theorem EHalf.put {w wr w5 : World} {L n g k : Nat} {E E' : List EV} (h : EHalf w wr L n g k E E') (hk : k < E.length) (s : Value) (hg : w.heap.size ≤ g) (kp : Keeps (fun x => x = g) wr w5)
    (hr : w5.ownsRow L 61 12 (.slice (some ⟨g, 0, none⟩) E.length E.length) E.length (erow (E'.set k (E[k].1, s)))) (i : ItemsS w5 (fun b => w.heap.size ≤ b ∧ b < w5.heap.size ∧ b ≠ g) n s E[k].1.val.items) : EHalf w w5 L n g (k + 1) E (E'.set k (E[k].1, s)) := by
  have hl := h.len
  have hz := kp.size
  have hb := h.bel.size
  refine ⟨hr, ?_, fun j hj hjk => ?_, fun j hj hj' hjk => ?_, h.bel.trans (kp.toBelow (by omega) (fun x h => by omega))⟩
  · have e := h.same
    apply List.ext_getElem
    · simp [hl]
    · intro i h1 h2
      simp only [List.getElem_map, List.getElem_set]
      split
      · rename_i e'; subst e'; rfl
      · have e2 : (E'.map (·.1))[i]'(by simpa using h1) = (E.map (·.1))[i]'h2 := by simp only [e]
        simpa using e2
  · by_cases ej : j = k
    · subst ej
      simp only [List.getElem_set_self]
      exact i
    · have hj' : j < E'.length := by simpa using hj
      rw [List.getElem_set_ne (by omega)]
      exact (h.new j hj' (by omega)).kept (fun b hb hb2 => kp.block b hb2 hb.2.2) (fun b hb => ⟨hb.1, by omega, hb.2.2⟩)
  · have hj2 : j < E'.length := by simpa using hj
    rw [List.getElem_set_ne (by omega)]
    exact h.old j hj2 hj' (by omega)

end Go.Proofs.YtnmkggoampkekaaGreatDoor

/- smear, of layer 7's statements. -/
namespace Go.Proofs.YtnmkggoampkekaaGreatDoor
open Go.RowKit

end Go.Proofs.YtnmkggoampkekaaGreatDoor
