/- What slices.Clone and NewReader make: new memory with the same bytes. -/
import Derived.Test.YtfgcpkbbneicfabReader
namespace Go.Proofs.Ytfgcpkbbneicfab
open Go.RowKit

theorem hide {p : Prop} (h : p) : Hid p := h

theorem info_u8 : (Try.prog.info? 5).map (fun i => (i.zero, i.size, i.bytes)) = some (some (.int .u8 0), 1, 1) := by kernel_rfl

def cellsOf (l : List UInt8) : List Value := l.map fun c => Value.int .u8 (c.toNat : Int)
theorem cellsOf_length (l : List UInt8) : (cellsOf l).length = l.length := by simp [cellsOf]
theorem cellsOf_one (l : List UInt8) : ∀ u ∈ cellsOf l, u.oneCell' = true := by
  intro u hu
  obtain ⟨_, _, rfl⟩ := List.mem_map.1 hu
  rfl

theorem ownsRow_bytes {w : World} {base n : Nat} {v : Value} {l : List UInt8} (h : w.ownsRow base 5 1 v n (cellsOf l)) :
    n = l.length ∧ BytesIn w base w.heap.size v l := by
  have hn : n = l.length := by have := h.1; rw [cellsOf_length] at this; omega
  subst hn
  refine ⟨rfl, ?_⟩
  rcases h.2 with ⟨rfl, h0⟩ | ⟨g, cap, cur, rfl, hb, hg, hnc, hcm, hcs, htake⟩
  · exact ⟨none, 0, by rw [h0], by omega, by unfold maxLen; omega, fun j hj => by omega⟩
  · refine ⟨_, cap, rfl, hnc, hcm, fun j hj => ⟨g, 0, rfl, hb, (Array.getElem?_eq_some_iff.1 hg).1, ?_⟩⟩
    have := h.cells (g := g) rfl j (.int .u8 (l[j].toNat : Int)) (by simp [cellsOf, hj])
    rw [Addr.add_lit] at this
    exact this

theorem Bytes.cells {w : World} {ad : Addr} {c : Nat} {l : List UInt8} (h : Bytes w (.slice (some ad) l.length c) l) :
    ∀ j u, (cellsOf l)[j]? = some u → w.cell? (ad.add j) = some u := by
  intro j u hu
  obtain ⟨a', c', e, h⟩ := h
  simp only [Value.slice.injEq, true_and] at e
  obtain ⟨e1, rfl⟩ := e
  have hj : j < l.length := by
    have := (List.getElem?_eq_some_iff.1 hu).1
    rwa [cellsOf_length] at this
  obtain ⟨b, off, e, h'⟩ := h j hj
  rw [e] at e1
  simp only [Option.some.injEq] at e1
  subst e1
  rw [Addr.add_lit, h']
  simp [cellsOf, hj] at hu
  rw [hu]

theorem Bytes.later {w w' : World} {v : Value} {l : List UInt8} (h : Bytes w v l) (hb : Below w.heap.size w w') : Bytes w' v l := by
  obtain ⟨a, c, rfl, h⟩ := h
  refine ⟨a, c, rfl, fun j hj => ?_⟩
  obtain ⟨b, off, e, h'⟩ := h j hj
  exact ⟨b, off, e, cell_later hb h'⟩

set_option maxRecDepth 100000 in
set_option maxHeartbeats 1000000 in
theorem clone_any (w : World) (v : Value) (l : List UInt8) (hb : Bytes w v l) (hl : l.length ≤ 140737488355328) :
    Calls Try.prog 22 #[v] w fun e w' => ∃ a' c', e = .returned (.slice a' l.length c') ∧ BytesIn w' w.heap.size w'.heap.size (.slice a' l.length c') l ∧ Below w.heap.size w w' := by
  obtain ⟨i0, hi, hz0, hz1, hz2⟩ := info_parts info_u8
  obtain ⟨a, c, rfl, _⟩ := id hb
  rcases a with _ | ad
  · have : l = [] := by
      rcases hb.elim with ⟨h, _⟩ | ⟨_, b, off, c, h, _⟩
      · exact h
      · cases h
    subst this
    have hnil := fun w => Lib.run_eql_slice_nil (P := Try.prog) w 22 5 none 0 c 0 0 Try.underlying22
    go_enter Try.func22, Try.ntmps22
    go_wp2
    go_ret
    exact ⟨_, _, rfl, ⟨none, 0, rfl, by simp, by unfold maxLen; omega, fun j hj => by simp at hj⟩, Below.refl _ _⟩
  · have HB : Hid (Bytes w (.slice (some ad) l.length c) l) := hb
    clear hb
    have hnil := fun w => Lib.run_eql_slice_nil (P := Try.prog) w 22 5 (some ad) l.length c 0 0 Try.underlying22
    go_enter Try.func22, Try.ntmps22
    go_wp2_with (at_builtin; refine wpList_append_own _ rfl _ _ 22 rfl w.heap.size 5 i0 (.int .u8 0) 1 1 Try.underlying22 hi hz0 hz1 hz2 rfl (by decide) _ _ _ rfl (World.ownsRow_made w #[] 0 (Nat.le_refl _) (by unfold maxLen; omega) rfl) ad l.length c (cellsOf l) rfl ?c0 ?c1 (cellsOf_one l) ?c3 ?c4 ?c5 ?_)
    case c0 => rw [cellsOf_length, Nat.mul_one]
    case c1 => exact Bytes.cells (HB.out.later ((Below.refl _ _).alloc (Nat.le_refl _) _))
    case c3 => unfold maxLen; omega
    case c4 => omega
    case c5 => simp
    · intro v' w1 hown hgrow hne
      have hin := (ownsRow_bytes hown).2
      obtain ⟨a', c', ev, _⟩ := id hin
      have hbel : Below w.heap.size w w1 := ((Below.refl _ _).alloc (Nat.le_refl _) _).grown hgrow (by simp) (fun k hk => by simp [Value.ownBlock] at hk; omega)
      have R : Hid (v' = .slice a' l.length c' ∧ BytesIn w1 w.heap.size w1.heap.size v' l ∧ Below w.heap.size w w1) := ⟨ev, hin, hbel⟩
      clear hown hgrow hne hin hbel ev
      go_wp2
      go_ret
      obtain ⟨ev, hin, hbel⟩ := R
      exact ⟨a', c', congrArg Ending.returned ev, by rw [← ev]; exact hin, hbel⟩

set_option maxRecDepth 100000 in
set_option maxHeartbeats 1000000 in
theorem newReader_any (w : World) (v : Value) (l : List UInt8) (hb : Bytes w v l) (hl : l.length ≤ 140737488355328) :
    Calls Try.prog 14 #[v] w fun e w' => ∃ rb, e = .returned (.pointer (some ⟨rb, 0, none⟩)) ∧ w.heap.size ≤ rb ∧ rb + 1 = w'.heap.size ∧ Rd w' rb w.heap.size l ∧ Below w.heap.size w w' := by
  go_enter Try.func14, Try.ntmps14
  go_wp2_with (go_at_call 22; refine (clone_any _ _ l hb hl).mono ?_; rintro e w1 ⟨a1, c1, rfl, HB, HW⟩; have HB' := hide HB; have HW' := hide HW; clear HB HW)
  go_ret
  have h4 := HB'.out
  have h5 := HW'.out
  refine ⟨_, rfl, h5.size, by simp, ?_, h5.alloc h5.size _⟩
  refine ⟨?_, ?_, .slice a1 l.length c1, ?_, h4.mono (fun b o _ hb => World.cell?_alloc_lt _ _ _ hb) (Nat.le_refl _) (Nat.le_refl _)⟩
  · simp
  · simp
  · simp
end Go.Proofs.Ytfgcpkbbneicfab
