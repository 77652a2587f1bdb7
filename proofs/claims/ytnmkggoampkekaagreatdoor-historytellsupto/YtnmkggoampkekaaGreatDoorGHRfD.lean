/- The statements' own CopyEvents. -/
import Derived.Test.YtnmkggoampkekaaGreatDoorGHRfB
import Derived.Test.YtnmkggoampkekaaGreatDoorGHLdG
import Derived.Test.YtnmkggoampkekaaGreatDoorZVRefCopy
import Derived.Deep.Cut
import Derived.Test.YtnmkggoampkekaaGreatDoorGHChMG
import Derived.Test.YtnmkggoampkekaaGreatDoorGHRfC
namespace Go.Proofs.YtnmkggoampkekaaGreatDoor
open Go.RowKit Go.Maps

/-- An event is laid behind the others. -/
theorem evPush {w : World} {L n : Nat} {v : Value} {xs : List Value} (h : w.ownsRow L 61 12 v n xs) (hL : L ≤ w.heap.size) (hn : n + 1 ≤ 1000000000) (x : EV) (ty : TypeId) (h1 : ∃ a m c, x.2 = .slice a m c) :
    ∃ g cap w', (Builtin.append_ #[46, 46] ty #[v, .slice (some ⟨w.heap.size, 0, none⟩) 1 1]).run Tryz.prog (w.alloc (.cells ⟨evOf x⟩ 61)) = .ok (.slice (some ⟨g, 0, none⟩) (n + 1) cap) w' ∧ w'.ownsRow L 61 12 (.slice (some ⟨g, 0, none⟩) (n + 1) cap) (n + 1) (xs ++ evOf x) ∧ w.grownBy w' v.ownBlock ∧ (v.ownBlock = some g ∨ w.heap.size ≤ g) := by
  obtain ⟨i0, hi, hz0, hz1, hz2⟩ := info_partsV infoEv
  obtain ⟨a1, m1, c1, e1⟩ := h1
  have bA : Below w.heap.size w (w.alloc (.cells ⟨evOf x⟩ 61)) := alloc_v (Below.refl _ _) _
  have e := World.alloc_heap_new w (.cells ⟨evOf x⟩ 61)
  have hA : (w.alloc (.cells ⟨evOf x⟩ 61)).ownsRow L 61 12 v n xs := h.kept (grown_of_below (r := none) bA) (by cases v.ownBlock <;> simp)
  obtain ⟨g, cap, w', hrun, A1, A2, A3, A4⟩ := run_append_lies (P := Tryz.prog) (w.alloc (.cells ⟨evOf x⟩ 61)) 46 ty L 61 i0 _ 12 144 Tryz.underlying46 hi hz0 hz1 hz2 rfl (by decide) v n xs hA ⟨w.heap.size, 0, none⟩ 1 1 (evOf x) rfl (fun j u hj => by
      rw [Addr.add_lit, Nat.zero_add]
      exact cells_at e j u (by simpa using hj)) (fun u hu => by
      simp only [evOf, List.mem_cons, List.not_mem_nil, or_false, e1] at hu
      rcases hu with rfl | rfl | rfl | rfl | rfl | rfl | rfl | rfl | rfl | rfl | rfl | rfl <;> rfl) (by omega) (by unfold maxLen; omega) (by omega) (by rw [World.size_alloc]; omega) (w.heap.size + 1) (by rw [World.size_alloc])
  refine ⟨g, cap, w', hrun, A1, ?_, ?_⟩
  · exact (World.grownBy_alloc w _ _).trans A2
  · rcases A3 with A3 | A3
    · exact .inl A3
    · exact .inr (by omega)
/-- Events in the making: I are the blocks in which their values' items lie. -/
structure CeAt (w : World) (h0 n : Nat) (I : Nat → Prop) (v : Value) (E : List EV) : Prop where
  row : w.ownsRow h0 61 12 v E.length (erow E)
  its : ∀ x ∈ E, ItemsIn w I n x.2 x.1.val.items ∧ EvOk x.1 ∧ x.1.val.size ≤ 1000000000
  no : ∀ b, I b → b < w.heap.size ∧ v.ownBlock ≠ some b
theorem CeAt.below {w w' : World} {h0 n : Nat} {I : Nat → Prop} {v : Value} {E : List EV} (h : CeAt w h0 n I v E) (hb : Below w.heap.size w w') : CeAt w' h0 n I v E :=
  ⟨(Keeps.below (M := fun _ => False) hb).row h.row (fun _ _ h => h), fun x hx => ⟨(h.its x hx).1.kept (fun b o hS => cell_block (hb.block b (h.no b hS).1) o) (fun _ h => h), (h.its x hx).2⟩, fun b hS => ⟨Nat.lt_of_lt_of_le (h.no b hS).1 hb.size, (h.no b hS).2⟩⟩
theorem erow_snoc (E : List EV) (x : EV) : erow (E ++ [x]) = erow E ++ evOf x := by simp [erow]
theorem CeAt.push {w W : World} {h0 n q cap : Nat} {I J : Nat → Prop} {v : Value} {E : List EV} (h : CeAt w h0 n I v E) (x : EV)
    (hr : W.ownsRow h0 61 12 (.slice (some ⟨q, 0, none⟩) (E.length + 1) cap) (E.length + 1) (erow E ++ evOf x)) (gr : w.grownBy W v.ownBlock) (lie : v.ownBlock = some q ∨ w.heap.size ≤ q)
    (hx : ItemsIn w J n x.2 x.1.val.items) (ho : EvOk x.1) (hz : x.1.val.size ≤ 1000000000) (hJ : ∀ b, J b → b < w.heap.size ∧ v.ownBlock ≠ some b) : CeAt W h0 n (fun b => I b ∨ J b) (.slice (some ⟨q, 0, none⟩) (E.length + 1) cap) (E ++ [x]) := by
  have kA : Keeps (fun y => v.ownBlock = some y) w W := Keeps.grown gr (fun r e => e)
  have hk : ∀ b o, (b < w.heap.size ∧ v.ownBlock ≠ some b) → W.cell? ⟨b, o, none⟩ = w.cell? ⟨b, o, none⟩ := fun b o hS => cell_block (kA.block b hS.1 hS.2) o
  have hS : ∀ b, (b < w.heap.size ∧ v.ownBlock ≠ some b) → b < W.heap.size ∧ (Value.slice (some ⟨q, 0, none⟩) (E.length + 1) cap).ownBlock ≠ some b := fun b hb => ⟨Nat.lt_of_lt_of_le hb.1 kA.size, fun e => by
    have e' : q = b := Option.some.inj e
    rcases lie with l | l
    · exact hb.2 (by rw [l, e'])
    · have := hb.1; omega⟩
  refine ⟨by rw [erow_snoc, List.length_append, List.length_singleton]; exact hr, fun y hy => ?_, fun b hb => hS b (hb.elim (h.no b) (hJ b))⟩
  rcases List.mem_append.1 hy with hy | hy
  · exact ⟨(h.its y hy).1.kept (fun b o hb => hk b o (h.no b hb)) (fun _ hb => .inl hb), (h.its y hy).2⟩
  · simp at hy
    subst hy
    exact ⟨hx.kept (fun b o hb => hk b o (hJ b hb)) (fun _ hb => .inr hb), ho, hz⟩
theorem CeAt.evs {w : World} {h0 n : Nat} {I : Nat → Prop} {v : Value} {E : List EV} (h : CeAt w h0 n I v E) (hl : E.length ≤ 1000000000) : EvsAt w w.heap.size n v (E.map (·.1)) := by
  have hg : EvsGood w w.heap.size n E := fun x hx => ⟨(h.its x hx).1.at (fun b hb => (h.no b hb).1), (h.its x hx).2⟩
  rcases Nat.eq_zero_or_pos E.length with h0' | h0'
  · have : E = [] := List.length_eq_zero_iff.1 h0'
    subst this
    obtain ⟨a, c, e⟩ := rowLen h.row
    exact ⟨a, c, e, by simp, fun j hj => by simp at hj⟩
  · obtain ⟨g, cap, rfl, hL, hgl⟩ := h.row.form h0'
    exact evs_of_row h.row hl hg (Nat.le_refl _)

end Go.Proofs.YtnmkggoampkekaaGreatDoor

/- The reference's Events: how many there are, and the row that is made for them. -/
namespace Go.Proofs.YtnmkggoampkekaaGreatDoor
open Go.RowKit Go.Maps

/-- How many events operations have, as the reference counts them. -/
def cntR (cs : List HV) (k : Nat) : Nat := ((cs.take k).filter (fun x => decide (0 ≤ x.1.res))).length
theorem cntR_succ (cs : List HV) (k : Nat) (h : k < cs.length) : cntR cs (k + 1) = cntR cs k + if 0 ≤ cs[k].1.res then 1 else 0 := by
  unfold cntR
  rw [List.take_succ_eq_append_getElem h, List.filter_append, List.length_append]
  by_cases e : 0 ≤ cs[k].1.res
  · simp [e]
  · simp [e]
theorem cntR_le (cs : List HV) (k : Nat) : cntR cs k ≤ cs.length := by
  unfold cntR
  exact Nat.le_trans (List.length_filter_le _ _) (by rw [List.length_take]; omega)
theorem placesR_eq (cs : List HV) : placesR cs = cs.length + cntR cs cs.length := by
  unfold placesR cntR
  rw [List.take_length]
end Go.Proofs.YtnmkggoampkekaaGreatDoor
