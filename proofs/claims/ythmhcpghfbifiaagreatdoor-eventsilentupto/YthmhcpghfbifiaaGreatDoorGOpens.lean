/- How a value that came in is opened: a tree of structs. -/
import Derived.Test.YthmhcpghfbifiaaGreatDoorGVals
import Derived.Test.YthmhcpghfbifiaaGreatDoorRows
import Derived.Lib.SmallJoins
import Derived.Deep.Slices
namespace Go.Proofs.YthmhcpghfbifiaaGreatDoor
open Go.ChangeShapes Go.WideShapes Go.ChangeAt Go.RowKit

theorem ItemsAt.more {w : World} {B : Nat} : ∀ {n : Nat} {sl : Value} {its : List Vl}, ItemsAt w B n sl its → ItemsAt w B (n + 1) sl its
  | 0, _, _, h => h.elim
  | n + 1, _, its, h => by
    obtain ⟨a, c, e, hl, hc⟩ := h
    refine ⟨a, c, e, hl, fun j hj => ?_⟩
    obtain ⟨b, off, s', e, hb, h0, h1, h2, h3, h4, h5, h6⟩ := hc j hj
    exact ⟨b, off, s', e, hb, h0, h1, h2, h3, h4, ItemsAt.more h5, h6⟩
theorem ItemsAt.upto {w : World} {B n m : Nat} {sl : Value} {its : List Vl} (h : ItemsAt w B n sl its) (hm : n ≤ m) : ItemsAt w B m sl its := by
  induction m with
  | zero => obtain ⟨k, rfl⟩ := h.pos; omega
  | succ m ih =>
    by_cases e : n ≤ m
    · exact (ih e).more
    · obtain rfl : n = m + 1 := by omega
      exact h
theorem cells_val : Tryz.prog.cellsOf 46 = 5 := by kernel_rfl
theorem cells_kindV : Tryz.prog.cellsOf 43 = 1 := by kernel_rfl
theorem cells_i64V : Tryz.prog.cellsOf 2 = 1 := by kernel_rfl
theorem cells_strV : Tryz.prog.cellsOf 9 = 1 := by kernel_rfl
theorem cells_slV : Tryz.prog.cellsOf 44 = 1 := by kernel_rfl
theorem boundsV {n : Int} (h : (Lit.int .i64 n).wf = true) : -9223372036854775808 ≤ n ∧ n ≤ 9223372036854775807 := by
  simp only [Lit.wf, Bool.and_eq_true, decide_eq_true_eq] at h
  exact ⟨h.1, h.2⟩
theorem list5 {α : Type} {cs : List α} (h : cs.length = 5) : ∃ c0 c1 c2 c3 c4, cs = [c0, c1, c2, c3, c4] := by
  match cs, h with
  | [c0, c1, c2, c3, c4], _ => exact ⟨c0, c1, c2, c3, c4, rfl⟩
theorem bulkSum {H : Type} {its : List Vl} {D : List (DataW H)} (hl : its.length = D.length) (h : ∀ j (hj : j < its.length), its[j].size ≤ Rows.uptoBulk (D[j]'(by omega))) : (its.map Vl.size).sum ≤ Rows.uptoBulkAll D := by
  induction its generalizing D with
  | nil => simp
  | cons x l ih =>
    cases D with
    | nil => simp at hl
    | cons d D =>
      have h0 := h 0 (by simp)
      have h1 := ih (D := D) (by simpa using hl) fun j hj => h (j + 1) (by simpa using hj)
      simp only [List.getElem_cons_zero] at h0
      simp only [List.map_cons, List.sum_cons, Rows.uptoBulkAll]
      omega
theorem bulkMem {H : Type} {d : DataW H} {l : List (DataW H)} (h : d ∈ l) : Rows.uptoBulk d ≤ Rows.uptoBulkAll l := by
  induction l with
  | nil => cases h
  | cons x r ih =>
    simp only [Rows.uptoBulkAll]
    rcases List.mem_cons.1 h with rfl | e
    · omega
    · have := ih e
      omega
/-- A value that came in, by the reading's fuel. -/
theorem open_val {H : Type} {enc : TypeId × Value → H} {W : World} : ∀ (fuel : Nat) {cs : List Value} {d : DataW H} {p : List MemPlace},
    DataW.trod enc Tryz.prog W 0 (fun _ => true) true fuel 46 cs = some (d, p) → Rows.uptoBulk d ≤ 1048576 →
    ∃ v sl, cs = (vcells v sl).toList ∧ ItemsAt W W.heap.size (fuel + 1) sl v.items ∧ v.size ≤ Rows.uptoBulk d ∧ v.ok := by
  intro fuel
  induction fuel using Nat.strongRecOn with
  | ind fuel ih =>
    intro cs d p hf hbk
    obtain ⟨xs, n, rfl, hx, hl, hlen, hfs⟩ := DataW.trod_struct Tryz.underlying46 hf
    rw [cells_val] at hl
    obtain ⟨c0, c1, c2, c3, c4, rfl⟩ := list5 hl
    obtain ⟨y0, y1, y2, y3, y4, rfl⟩ := list5 hlen
    have h0 : DataW.trod enc Tryz.prog W 0 (fun _ => true) true n 43 (([c0, c1, c2, c3, c4].drop 0).take (Tryz.prog.cellsOf 43)) = some y0 := hfs 0 _ rfl
    rw [cells_kindV] at h0
    have h1 : DataW.trod enc Tryz.prog W 0 (fun _ => true) true n 2 (([c0, c1, c2, c3, c4].drop 1).take (Tryz.prog.cellsOf 2)) = some y1 := hfs 1 _ rfl
    rw [cells_i64V] at h1
    have h2 : DataW.trod enc Tryz.prog W 0 (fun _ => true) true n 2 (([c0, c1, c2, c3, c4].drop 2).take (Tryz.prog.cellsOf 2)) = some y2 := hfs 2 _ rfl
    rw [cells_i64V] at h2
    have h3 : DataW.trod enc Tryz.prog W 0 (fun _ => true) true n 9 (([c0, c1, c2, c3, c4].drop 3).take (Tryz.prog.cellsOf 9)) = some y3 := hfs 3 _ rfl
    rw [cells_strV] at h3
    have h4 : DataW.trod enc Tryz.prog W 0 (fun _ => true) true n 44 (([c0, c1, c2, c3, c4].drop 4).take (Tryz.prog.cellsOf 44)) = some y4 := hfs 4 _ rfl
    rw [cells_slV] at h4
    have h0' : DataW.trod enc Tryz.prog W 0 (fun _ => true) true n 43 [c0] = some y0 := h0
    have h1' : DataW.trod enc Tryz.prog W 0 (fun _ => true) true n 2 [c1] = some y1 := h1
    have h2' : DataW.trod enc Tryz.prog W 0 (fun _ => true) true n 2 [c2] = some y2 := h2
    have h3' : DataW.trod enc Tryz.prog W 0 (fun _ => true) true n 9 [c3] = some y3 := h3
    have h4' : DataW.trod enc Tryz.prog W 0 (fun _ => true) true n 44 [c4] = some y4 := h4
    obtain ⟨k0, e0, r0, wf0⟩ := DataW.trod_int Tryz.underlying43 h0'
    obtain ⟨k1, e1, r1, wf1⟩ := DataW.trod_int Tryz.underlying2 h1'
    obtain ⟨k2, e2, r2, wf2⟩ := DataW.trod_int Tryz.underlying2 h2'
    obtain ⟨k3, e3, r3, wf3⟩ := DataW.trod_string Tryz.underlying9 h3'
    simp only [List.cons.injEq, and_true] at e0 e1 e2 e3
    subst e0 e1 e2 e3
    subst r0 r1 r2 r3
    have hd : d = .agg [.lit (.int .i64 k0), .lit (.int .i64 k1), .lit (.int .i64 k2), .lit (.string k3.data.toList), y4.1] := by
      have := congrArg Prod.fst hx
      simpa using this
    have hlen3 : k3.data.toList.length = k3.size := by rw [Array.length_toList]; rfl
    have hb : Rows.uptoBulk d = Rows.uptoBulk y4.1 + k3.size + 5 := by
      rw [hd]
      simp only [Rows.uptoBulk, Rows.uptoBulkAll]
      omega
    have ok : (k3.size ≤ 1048576 ∧ (-9223372036854775808 ≤ k1 ∧ k1 ≤ 9223372036854775807) ∧ (-9223372036854775808 ≤ k2 ∧ k2 ≤ 9223372036854775807)) := ⟨by omega, boundsV wf1, boundsV wf2⟩
    rcases DataW.trod_slice Tryz.underlying44 h4' with ⟨hcs, hy⟩ | ⟨x, len, cap, elems, rest, m, rfl, hcs, hy, _, hlc, hcm, hel, hV, _, _⟩
    · simp only [List.cons.injEq, and_true] at hcs
      subst hcs
      refine ⟨⟨k0, k1, k2, k3, []⟩, _, rfl, ⟨none, 0, rfl, Nat.zero_le _, fun j hj => by simp at hj⟩, ?_, ok⟩
      rw [Vl.size_eq, hb]
      simp only [List.map_nil, List.sum_nil]
      omega
    · simp only [List.cons.injEq, and_true] at hcs
      subst hcs
      have hy4 : y4.1 = .slice (elems.map (·.1)) (rest.map (·.1)) := congrArg Prod.fst hy
      have hb4 : Rows.uptoBulkAll (elems.map (·.1)) + 1 ≤ Rows.uptoBulk y4.1 := by
        rw [hy4]
        simp only [Rows.uptoBulk]
        omega
      rw [cells_val] at hV
      have hall : ∀ i, i < len → ∃ q : Vl × Value, W.cells? 0 (x.add (i * 5)) 5 = some (vcells q.1 q.2).toList ∧ ItemsAt W W.heap.size (m + 1) q.2 q.1.items ∧ (∀ d : DataW H, (elems.map (·.1))[i]? = some d → q.1.size ≤ Rows.uptoBulk d) ∧ q.1.ok := fun i hi => by
        have h := hV i hi
        have hei : i < elems.length := by omega
        rw [List.getElem?_eq_getElem hei] at h
        cases hc : W.cells? 0 (x.add (i * 5)) 5 with
        | none => rw [hc] at h; simp at h
        | some cs' =>
          rw [hc] at h
          simp only [Option.bind_some] at h
          have hm : (elems[i]).1 ∈ elems.map (·.1) := List.mem_map.2 ⟨_, List.getElem_mem hei, rfl⟩
          obtain ⟨v, sl, e, hI, hs, hk⟩ := ih m (by omega) (d := (elems[i]).1) (p := (elems[i]).2) h (by have := bulkMem hm; omega)
          refine ⟨(v, sl), by rw [e], hI, fun d hd => ?_, hk⟩
          rw [List.getElem?_map, List.getElem?_eq_getElem hei] at hd
          simp only [Option.map_some, Option.some.injEq] at hd
          rw [← hd]
          exact hs
      obtain ⟨F, hF⟩ : ∃ F : Nat → Vl × Value, ∀ i, i < len → W.cells? 0 (x.add (i * 5)) 5 = some (vcells (F i).1 (F i).2).toList ∧ ItemsAt W W.heap.size (m + 1) (F i).2 (F i).1.items ∧ (∀ d : DataW H, (elems.map (·.1))[i]? = some d → (F i).1.size ≤ Rows.uptoBulk d) ∧ (F i).1.ok :=
        ⟨fun i => if h : i < len then (hall i h).choose else (⟨0, 0, 0, k3, []⟩, .slice none 0 0), fun i hi => by simp only [hi, dif_pos]; exact (hall i hi).choose_spec⟩
      refine ⟨⟨k0, k1, k2, k3, (List.range len).map (fun i => (F i).1)⟩, _, rfl, ⟨some x, cap, by simp, by simp; omega, fun i hi => ?_⟩, ?_, ok⟩
      · have hi' : i < len := by simpa using hi
        obtain ⟨h1, hI, _, hk⟩ := hF i hi'
        have h0 := (hF 0 (by omega)).1
        obtain ⟨b, off, spot⟩ := x
        have hspot : spot = none := by
          have h := (World.cells?_some h0).2.2 0 (by omega)
          simpa [Addr.add] using World.cell?_spot h
        subst hspot
        have hc := (World.cells?_some h1).2.2
        simp only [Addr.add_lit] at hc
        have eg : ((List.range len).map (fun i => (F i).1))[i] = (F i).1 := by simp
        simp only [eg]
        exact ⟨b, off, (F i).2, rfl, World.block_lt_of_cell? W _ (hc 0 (by omega)), hc 0 (by omega), hc 1 (by omega), hc 2 (by omega), hc 3 (by omega), hc 4 (by omega), hI.more, hk⟩
      · rw [Vl.size_eq, hb]
        have := bulkSum (its := (List.range len).map (fun i => (F i).1)) (D := elems.map (·.1)) (by simp [hel]) fun j hj => by
          have hj' : j < len := by simpa using hj
          have := (hF j hj').2.2.1 _ (List.getElem?_eq_getElem (by simp; omega))
          simpa using this
        simp only at this ⊢
        omega
end Go.Proofs.YthmhcpghfbifiaaGreatDoor
