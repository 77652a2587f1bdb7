/- How a row of events that came in is opened. -/
import Derived.Test.YthmhcpghfbifiaaGreatDoorGOpens
import Derived.Test.YthmhcpghfbifiaaGreatDoorGHBase
namespace Go.Proofs.YthmhcpghfbifiaaGreatDoor
open Go.ChangeShapes Go.WideShapes Go.ChangeAt Go.RowKit

theorem cells_ev : Tryz.prog.cellsOf 48 = 12 := by kernel_rfl
theorem cells_kindE : Tryz.prog.cellsOf 42 = 1 := by kernel_rfl
theorem cells_spot : Tryz.prog.cellsOf 32 = 3 := by kernel_rfl
theorem cells_intH : Tryz.prog.cellsOf 3 = 1 := by kernel_rfl
theorem list12 {α : Type} {cs : List α} (h : cs.length = 12) : ∃ c0 c1 c2 c3 c4 c5 c6 c7 c8 c9 c10 c11, cs = [c0, c1, c2, c3, c4, c5, c6, c7, c8, c9, c10, c11] := by
  match cs, h with
  | [c0, c1, c2, c3, c4, c5, c6, c7, c8, c9, c10, c11], _ => exact ⟨c0, c1, c2, c3, c4, c5, c6, c7, c8, c9, c10, c11, rfl⟩
theorem list6 {α : Type} {cs : List α} (h : cs.length = 6) : ∃ c0 c1 c2 c3 c4 c5, cs = [c0, c1, c2, c3, c4, c5] := by
  match cs, h with
  | [c0, c1, c2, c3, c4, c5], _ => exact ⟨c0, c1, c2, c3, c4, c5, rfl⟩
theorem list3 {α : Type} {cs : List α} (h : cs.length = 3) : ∃ c0 c1 c2, cs = [c0, c1, c2] := by
  match cs, h with
  | [c0, c1, c2], _ => exact ⟨c0, c1, c2, rfl⟩
theorem bsN_of (k : ByteArray) : bsN k.data.toList = k := by
  cases k with
  | mk d => cases d; rfl
/-- A place in a text that came in. -/
theorem open_spot {H : Type} {enc : TypeId × Value → H} {W : World} {fuel : Nat} {cs : List Value} {y : DataW H × List MemPlace}
    (hf : DataW.trod enc Tryz.prog W 0 (fun _ => true) true fuel 32 cs = some y) : ∃ a b c : Int, cs = [.int .i64 a, .int .i64 b, .int .i64 c] := by
  obtain ⟨d, p⟩ := y
  obtain ⟨xs, n, rfl, hx, hl, hlen, hfs⟩ := DataW.trod_struct Tryz.underlying32 hf
  rw [cells_spot] at hl
  obtain ⟨c0, c1, c2, rfl⟩ := list3 hl
  obtain ⟨y0, y1, y2, rfl⟩ := list3 hlen
  have h0 : DataW.trod enc Tryz.prog W 0 (fun _ => true) true n 3 (([c0, c1, c2].drop 0).take (Tryz.prog.cellsOf 3)) = some y0 := hfs 0 _ rfl
  have h1 : DataW.trod enc Tryz.prog W 0 (fun _ => true) true n 3 (([c0, c1, c2].drop 1).take (Tryz.prog.cellsOf 3)) = some y1 := hfs 1 _ rfl
  have h2 : DataW.trod enc Tryz.prog W 0 (fun _ => true) true n 3 (([c0, c1, c2].drop 2).take (Tryz.prog.cellsOf 3)) = some y2 := hfs 2 _ rfl
  rw [cells_intH] at h0 h1 h2
  have h0' : DataW.trod enc Tryz.prog W 0 (fun _ => true) true n 3 [c0] = some y0 := h0
  have h1' : DataW.trod enc Tryz.prog W 0 (fun _ => true) true n 3 [c1] = some y1 := h1
  have h2' : DataW.trod enc Tryz.prog W 0 (fun _ => true) true n 3 [c2] = some y2 := h2
  obtain ⟨k0, e0, _⟩ := DataW.trod_int Tryz.underlying3 h0'
  obtain ⟨k1, e1, _⟩ := DataW.trod_int Tryz.underlying3 h1'
  obtain ⟨k2, e2, _⟩ := DataW.trod_int Tryz.underlying3 h2'
  simp only [List.cons.injEq, and_true] at e0 e1 e2
  subst e0 e1 e2
  exact ⟨k0, k1, k2, rfl⟩
/-- An event that came in. -/
theorem open_ev {H : Type} {enc : TypeId × Value → H} {W : World} {fuel : Nat} {cs : List Value} {d : DataW H} {p : List MemPlace}
    (hf : DataW.trod enc Tryz.prog W 0 (fun _ => true) true fuel 48 cs = some (d, p)) (hbk : Rows.uptoBulk d ≤ 1048576) :
    ∃ e sl, cs = (evCells e sl).toList ∧ ItemsAt W W.heap.size (fuel + 1) sl e.val.items ∧ EvOk e ∧ e.val.size ≤ Rows.uptoBulk d := by
  obtain ⟨xs, n, rfl, hx, hl, hlen, hfs⟩ := DataW.trod_struct Tryz.underlying48 hf
  rw [cells_ev] at hl
  obtain ⟨c0, c1, c2, c3, c4, c5, c6, c7, c8, c9, c10, c11, rfl⟩ := list12 hl
  obtain ⟨y0, y1, y2, y3, y4, y5, rfl⟩ := list6 hlen
  have h0 : DataW.trod enc Tryz.prog W 0 (fun _ => true) true n 42 (([c0, c1, c2, c3, c4, c5, c6, c7, c8, c9, c10, c11].drop 0).take (Tryz.prog.cellsOf 42)) = some y0 := hfs 0 _ rfl
  have h1 : DataW.trod enc Tryz.prog W 0 (fun _ => true) true n 9 (([c0, c1, c2, c3, c4, c5, c6, c7, c8, c9, c10, c11].drop 1).take (Tryz.prog.cellsOf 9)) = some y1 := hfs 1 _ rfl
  have h2 : DataW.trod enc Tryz.prog W 0 (fun _ => true) true n 9 (([c0, c1, c2, c3, c4, c5, c6, c7, c8, c9, c10, c11].drop 2).take (Tryz.prog.cellsOf 9)) = some y2 := hfs 2 _ rfl
  have h3 : DataW.trod enc Tryz.prog W 0 (fun _ => true) true n 9 (([c0, c1, c2, c3, c4, c5, c6, c7, c8, c9, c10, c11].drop 3).take (Tryz.prog.cellsOf 9)) = some y3 := hfs 3 _ rfl
  have h4 : DataW.trod enc Tryz.prog W 0 (fun _ => true) true n 46 (([c0, c1, c2, c3, c4, c5, c6, c7, c8, c9, c10, c11].drop 4).take (Tryz.prog.cellsOf 46)) = some y4 := hfs 4 _ rfl
  have h5 : DataW.trod enc Tryz.prog W 0 (fun _ => true) true n 32 (([c0, c1, c2, c3, c4, c5, c6, c7, c8, c9, c10, c11].drop 9).take (Tryz.prog.cellsOf 32)) = some y5 := hfs 5 _ rfl
  rw [cells_kindE] at h0
  rw [cells_strV] at h1 h2 h3
  rw [cells_val] at h4
  rw [cells_spot] at h5
  have h0' : DataW.trod enc Tryz.prog W 0 (fun _ => true) true n 42 [c0] = some y0 := h0
  have h1' : DataW.trod enc Tryz.prog W 0 (fun _ => true) true n 9 [c1] = some y1 := h1
  have h2' : DataW.trod enc Tryz.prog W 0 (fun _ => true) true n 9 [c2] = some y2 := h2
  have h3' : DataW.trod enc Tryz.prog W 0 (fun _ => true) true n 9 [c3] = some y3 := h3
  have h4' : DataW.trod enc Tryz.prog W 0 (fun _ => true) true n 46 [c4, c5, c6, c7, c8] = some (y4.1, y4.2) := h4
  have h5' : DataW.trod enc Tryz.prog W 0 (fun _ => true) true n 32 [c9, c10, c11] = some y5 := h5
  obtain ⟨k0, e0, r0, wf0⟩ := DataW.trod_int Tryz.underlying42 h0'
  obtain ⟨k1, e1, r1, wf1⟩ := DataW.trod_string Tryz.underlying9 h1'
  obtain ⟨k2, e2, r2, wf2⟩ := DataW.trod_string Tryz.underlying9 h2'
  obtain ⟨k3, e3, r3, wf3⟩ := DataW.trod_string Tryz.underlying9 h3'
  obtain ⟨sa, sb, sc, es⟩ := open_spot h5'
  simp only [List.cons.injEq, and_true] at e0 e1 e2 e3 es
  obtain ⟨es0, es1, es2⟩ := es
  subst e0 e1 e2 e3 es0 es1 es2
  subst r0 r1 r2 r3
  have hd : d = .agg [.lit (.int .i64 k0), .lit (.string k1.data.toList), .lit (.string k2.data.toList), .lit (.string k3.data.toList), y4.1, y5.1] := by
    have := congrArg Prod.fst hx
    simpa using this
  have hb : Rows.uptoBulk d = Rows.uptoBulk y4.1 + Rows.uptoBulk y5.1 + k1.data.toList.length + k2.data.toList.length + k3.data.toList.length + 5 := by
    rw [hd]
    simp only [Rows.uptoBulk, Rows.uptoBulkAll]
    omega
  obtain ⟨v, sl, ev, hI, hs, hk⟩ := open_val n h4' (by omega)
  simp only [List.cons.injEq, and_true] at ev
  obtain ⟨ev0, ev1, ev2, ev3, ev4⟩ := ev
  subst ev0 ev1 ev2 ev3 ev4
  refine ⟨⟨k0, k1.data.toList, k2.data.toList, k3.data.toList, v, sa, sb, sc⟩, _, ?_, hI.upto (by omega), ⟨by dsimp only; omega, by dsimp only; omega, by dsimp only; omega, hk⟩, by dsimp only; omega⟩
  simp only [bsN_of]
/-- A row of events that came in. -/
theorem open_evs {H : Type} {enc : TypeId × Value → H} {W : World} {fuel : Nat} {a : Option Addr} {len cap : Nat} {d : DataW H} {p : List MemPlace}
    (hf : DataW.trod enc Tryz.prog W 0 (fun _ => true) true fuel 22 (Value.cells (.slice a len cap)).toList = some (d, p)) (hbk : Rows.uptoBulk d ≤ 1048576) :
    ∃ l : List Evn, l.length = len ∧ EvsAt W W.heap.size (fuel + 2) (.slice a len cap) l ∧ l.length ≤ Rows.uptoBulk d := by
  rcases DataW.trod_slice Tryz.underlying22 hf with ⟨hcs, hy⟩ | ⟨x, len', cap', elems, rest, m, hfu, hcs, hy, _, hlc, hcm, hel, hV, _, _⟩
  · simp [Value.cells] at hcs
    obtain ⟨rfl, rfl, rfl⟩ := hcs
    exact ⟨[], rfl, ⟨none, 0, rfl, Nat.zero_le _, fun j hj => by simp at hj⟩, Nat.zero_le _⟩
  · simp [Value.cells] at hcs
    obtain ⟨rfl, rfl, rfl⟩ := hcs
    have hd : d = .slice (elems.map (·.1)) (rest.map (·.1)) := congrArg Prod.fst hy
    have hb4 : Rows.uptoBulkAll (elems.map (·.1)) + 1 ≤ Rows.uptoBulk d := by
      rw [hd]
      simp only [Rows.uptoBulk]
      omega
    rw [cells_ev] at hV
    have hone : ∀ D : DataW H, 1 ≤ Rows.uptoBulk D := fun D => by
      cases D with
      | lit x => cases x <;> simp [Rows.uptoBulk]
      | _ => simp [Rows.uptoBulk]
    have hsum : ∀ D : List (DataW H), D.length ≤ Rows.uptoBulkAll D := fun D => by
      induction D with
      | nil => simp
      | cons x r ih => have := hone x; simp only [List.length_cons, Rows.uptoBulkAll]; omega
    have hlb : len ≤ 1048576 := by have := hsum (elems.map (·.1)); rw [List.length_map] at this; omega
    have hall : ∀ i, i < len → ∃ q : Evn × Value, W.cells? 0 (x.add (i * 12)) 12 = some (evCells q.1 q.2).toList ∧ ItemsAt W W.heap.size (m + 1) q.2 q.1.val.items ∧ EvOk q.1 ∧ q.1.val.size ≤ 1048576 := fun i hi => by
      have h := hV i hi
      have hei : i < elems.length := by omega
      rw [List.getElem?_eq_getElem hei] at h
      cases hc : W.cells? 0 (x.add (i * 12)) 12 with
      | none => rw [hc] at h; simp at h
      | some cs' =>
        rw [hc] at h
        simp only [Option.bind_some] at h
        have hm : (elems[i]).1 ∈ elems.map (·.1) := List.mem_map.2 ⟨_, List.getElem_mem hei, rfl⟩
        have hbm := bulkMem hm
        obtain ⟨v, sl, e, hI, hk, hs⟩ := open_ev (d := (elems[i]).1) (p := (elems[i]).2) h (by omega)
        exact ⟨(v, sl), by rw [e], hI, hk, Nat.le_trans hs (by omega)⟩
    obtain ⟨F, hF⟩ : ∃ F : Nat → Evn × Value, ∀ i, i < len → W.cells? 0 (x.add (i * 12)) 12 = some (evCells (F i).1 (F i).2).toList ∧ ItemsAt W W.heap.size (m + 1) (F i).2 (F i).1.val.items ∧ EvOk (F i).1 ∧ (F i).1.val.size ≤ 1048576 :=
      ⟨fun i => if h : i < len then (hall i h).choose else (⟨0, [], [], [], ⟨0, 0, 0, ⟨#[]⟩, []⟩, 0, 0, 0⟩, .slice none 0 0), fun i hi => by simp only [hi, dif_pos]; exact (hall i hi).choose_spec⟩
    refine ⟨(List.range len).map (fun i => (F i).1), by simp, ⟨some x, cap, by simp, by simp; omega, fun i hi => ?_⟩, by have := hsum (elems.map (·.1)); simp at this ⊢; omega⟩
    have hi' : i < len := by simpa using hi
    obtain ⟨h1, hI, hk, hs⟩ := hF i hi'
    obtain ⟨b, off, spot⟩ := x
    have hspot : spot = none := by
      have h := (World.cells?_some (hF 0 (by omega)).1).2.2 0 (by omega)
      simpa [Addr.add] using World.cell?_spot h
    subst hspot
    have hc := (World.cells?_some h1).2.2
    simp only [Addr.add_lit] at hc
    have eg : ((List.range len).map (fun i => (F i).1))[i] = (F i).1 := by simp
    simp only [eg]
    refine ⟨b, off, (F i).2, rfl, World.block_lt_of_cell? W _ (hc 0 (by omega)), fun j v hv => ?_, hI.upto (by omega), hk, by omega⟩
    have hj : j < 12 := (Array.getElem?_eq_some_iff.1 hv).1
    rw [hc j hj]
    exact (by simpa using hv)
end Go.Proofs.YthmhcpghfbifiaaGreatDoor
