/- How tokens that came in are opened. -/
import Derived.Test.YthpkjehoogodkaaDoorZKJoin
import Derived.Test.YthpkjehoogodkaaDoorZTLaid
namespace Go.Proofs.YthpkjehoogodkaaDoor
open Go.ChangeShapes Go.WideShapes Go.ChangeAt Go.RowKit

theorem kcells_tok : Tryd.prog.cellsOf 35 = 6 := by kernel_rfl
theorem kcells_kind : Tryd.prog.cellsOf 33 = 1 := by kernel_rfl
theorem kcells_spot : Tryd.prog.cellsOf 25 = 3 := by kernel_rfl
theorem kcells_int : Tryd.prog.cellsOf 3 = 1 := by kernel_rfl
theorem kcells_i64 : Tryd.prog.cellsOf 2 = 1 := by kernel_rfl
theorem kcells_str : Tryd.prog.cellsOf 9 = 1 := by kernel_rfl
theorem klist6 {α : Type} {cs : List α} (h : cs.length = 6) : ∃ c0 c1 c2 c3 c4 c5, cs = [c0, c1, c2, c3, c4, c5] := by
  match cs, h with
  | [c0, c1, c2, c3, c4, c5], _ => exact ⟨c0, c1, c2, c3, c4, c5, rfl⟩
theorem klist4 {α : Type} {cs : List α} (h : cs.length = 4) : ∃ c0 c1 c2 c3, cs = [c0, c1, c2, c3] := by
  match cs, h with
  | [c0, c1, c2, c3], _ => exact ⟨c0, c1, c2, c3, rfl⟩
theorem klist3 {α : Type} {cs : List α} (h : cs.length = 3) : ∃ c0 c1 c2, cs = [c0, c1, c2] := by
  match cs, h with
  | [c0, c1, c2], _ => exact ⟨c0, c1, c2, rfl⟩
theorem kopen_spot {H : Type} {enc : TypeId × Value → H} {W : World} {fuel : Nat} {cs : List Value} {y : DataW H × List MemPlace}
    (hf : DataW.trod enc Tryd.prog W 0 (fun _ => true) true fuel 25 cs = some y) : ∃ a b c : Int, cs = [.int .i64 a, .int .i64 b, .int .i64 c] := by
  obtain ⟨d, p⟩ := y
  obtain ⟨xs, n, rfl, hx, hl, hlen, hfs⟩ := DataW.trod_struct Tryd.underlying25 hf
  rw [kcells_spot] at hl
  obtain ⟨c0, c1, c2, rfl⟩ := klist3 hl
  obtain ⟨y0, y1, y2, rfl⟩ := klist3 hlen
  have h0 : DataW.trod enc Tryd.prog W 0 (fun _ => true) true n 3 (([c0, c1, c2].drop 0).take (Tryd.prog.cellsOf 3)) = some y0 := hfs 0 _ rfl
  have h1 : DataW.trod enc Tryd.prog W 0 (fun _ => true) true n 3 (([c0, c1, c2].drop 1).take (Tryd.prog.cellsOf 3)) = some y1 := hfs 1 _ rfl
  have h2 : DataW.trod enc Tryd.prog W 0 (fun _ => true) true n 3 (([c0, c1, c2].drop 2).take (Tryd.prog.cellsOf 3)) = some y2 := hfs 2 _ rfl
  rw [kcells_int] at h0 h1 h2
  have h0' : DataW.trod enc Tryd.prog W 0 (fun _ => true) true n 3 [c0] = some y0 := h0
  have h1' : DataW.trod enc Tryd.prog W 0 (fun _ => true) true n 3 [c1] = some y1 := h1
  have h2' : DataW.trod enc Tryd.prog W 0 (fun _ => true) true n 3 [c2] = some y2 := h2
  obtain ⟨k0, e0, _⟩ := DataW.trod_int Tryd.underlying3 h0'
  obtain ⟨k1, e1, _⟩ := DataW.trod_int Tryd.underlying3 h1'
  obtain ⟨k2, e2, _⟩ := DataW.trod_int Tryd.underlying3 h2'
  simp only [List.cons.injEq, and_true] at e0 e1 e2
  subst e0 e1 e2
  exact ⟨k0, k1, k2, rfl⟩
/-- A token that came in. -/
theorem open_tq {H : Type} {enc : TypeId × Value → H} {W : World} {fuel : Nat} {cs : List Value} {d : DataW H} {p : List MemPlace}
    (hf : DataW.trod enc Tryd.prog W 0 (fun _ => true) true fuel 35 cs = some (d, p)) (hbk : Rows.uptoBulk d ≤ 1048576) :
    ∃ x : Tq, cs = (tcells x.k x.o x.l x.c x.t x.i).toList ∧ x.ok ∧ x.t.size ≤ Rows.uptoBulk d := by
  obtain ⟨xs, n, rfl, hx, hl, hlen, hfs⟩ := DataW.trod_struct Tryd.underlying35 hf
  rw [kcells_tok] at hl
  obtain ⟨c0, c1, c2, c3, c4, c5, rfl⟩ := klist6 hl
  obtain ⟨y0, y1, y2, y3, rfl⟩ := klist4 hlen
  have h0 : DataW.trod enc Tryd.prog W 0 (fun _ => true) true n 33 (([c0, c1, c2, c3, c4, c5].drop 0).take (Tryd.prog.cellsOf 33)) = some y0 := hfs 0 _ rfl
  have h1 : DataW.trod enc Tryd.prog W 0 (fun _ => true) true n 25 (([c0, c1, c2, c3, c4, c5].drop 1).take (Tryd.prog.cellsOf 25)) = some y1 := hfs 1 _ rfl
  have h2 : DataW.trod enc Tryd.prog W 0 (fun _ => true) true n 9 (([c0, c1, c2, c3, c4, c5].drop 4).take (Tryd.prog.cellsOf 9)) = some y2 := hfs 2 _ rfl
  have h3 : DataW.trod enc Tryd.prog W 0 (fun _ => true) true n 2 (([c0, c1, c2, c3, c4, c5].drop 5).take (Tryd.prog.cellsOf 2)) = some y3 := hfs 3 _ rfl
  rw [kcells_kind] at h0
  rw [kcells_spot] at h1
  rw [kcells_str] at h2
  rw [kcells_i64] at h3
  have h0' : DataW.trod enc Tryd.prog W 0 (fun _ => true) true n 33 [c0] = some y0 := h0
  have h1' : DataW.trod enc Tryd.prog W 0 (fun _ => true) true n 25 [c1, c2, c3] = some y1 := h1
  have h2' : DataW.trod enc Tryd.prog W 0 (fun _ => true) true n 9 [c4] = some y2 := h2
  have h3' : DataW.trod enc Tryd.prog W 0 (fun _ => true) true n 2 [c5] = some y3 := h3
  obtain ⟨k0, e0, r0, wf0⟩ := DataW.trod_int Tryd.underlying33 h0'
  obtain ⟨k2, e2, r2, wf2⟩ := DataW.trod_string Tryd.underlying9 h2'
  obtain ⟨k3, e3, r3, wf3⟩ := DataW.trod_int Tryd.underlying2 h3'
  obtain ⟨sa, sb, sc', es⟩ := kopen_spot h1'
  simp only [List.cons.injEq, and_true] at e0 e2 e3 es
  obtain ⟨es0, es1, es2⟩ := es
  subst e0 e2 e3 es0 es1 es2
  subst r0 r2 r3
  have hd : d = .agg [.lit (.int .i64 k0), y1.1, .lit (.string k2.data.toList), .lit (.int .i64 k3)] := by
    have := congrArg Prod.fst hx
    simpa using this
  have hb : Rows.uptoBulk d = Rows.uptoBulk y1.1 + k2.data.toList.length + 4 := by
    rw [hd]
    simp only [Rows.uptoBulk, Rows.uptoBulkAll]
    omega
  have hw3 := bounds_i64 wf3
  rw [size_toList] at hb
  exact ⟨⟨k0, sa, sb, sc', k2, k3⟩, rfl, ⟨hw3.1, hw3.2, by dsimp only; omega⟩, by dsimp only; omega⟩
theorem kbulk_one {H : Type} (D : DataW H) : 1 ≤ Rows.uptoBulk D := by
  cases D with
  | lit x => cases x <;> simp [Rows.uptoBulk]
  | _ => simp [Rows.uptoBulk]
theorem kbulk_len {H : Type} (D : List (DataW H)) : D.length ≤ Rows.uptoBulkAll D := by
  induction D with
  | nil => simp
  | cons x r ih => have := kbulk_one x; simp only [List.length_cons, Rows.uptoBulkAll]; omega
theorem kbulk_mem {H : Type} {D : List (DataW H)} {x : DataW H} (h : x ∈ D) : Rows.uptoBulk x ≤ Rows.uptoBulkAll D := by
  induction D with
  | nil => cases h
  | cons y r ih =>
    simp only [Rows.uptoBulkAll]
    rcases List.mem_cons.1 h with rfl | h
    · omega
    · have := ih h; omega
theorem kbulk_sum {H : Type} : ∀ (D : List (DataW H)) (f : Nat → Nat), (∀ i (h : i < D.length), f i ≤ Rows.uptoBulk D[i]) → ((List.range D.length).map f).sum ≤ Rows.uptoBulkAll D
  | [], _, _ => by simp
  | x :: r, f, h => by
    rw [List.length_cons, List.range_succ_eq_map, List.map_cons, List.sum_cons, List.map_map]
    have h0 := h 0 (by simp)
    have ih := kbulk_sum r (f ∘ Nat.succ) (fun i hi => h (i + 1) (by simpa using hi))
    simp only [Rows.uptoBulkAll]
    simp only [List.getElem_cons_zero] at h0
    omega
/-- A row of tokens that came in. -/
theorem open_tqs {H : Type} {enc : TypeId × Value → H} {W : World} {fuel : Nat} {a : Option Addr} {len cap : Nat} {d : DataW H} {p : List MemPlace}
    (hf : DataW.trod enc Tryd.prog W 0 (fun _ => true) true fuel 22 (Value.cells (.slice a len cap)).toList = some (d, p)) (hbk : Rows.uptoBulk d ≤ 1048576) :
    ∃ l : List Tq, l.length = len ∧ TqAt W W.heap.size (.slice a len cap) l ∧ (l.map fun x => x.t.size).sum ≤ 1048576 := by
  rcases DataW.trod_slice Tryd.underlying22 hf with ⟨hcs, hy⟩ | ⟨x, len', cap', elems, rest, m, hfu, hcs, hy, _, hlc, hcm, hel, hV, _, _⟩
  · simp [Value.cells] at hcs
    obtain ⟨rfl, rfl, rfl⟩ := hcs
    exact ⟨[], rfl, ⟨none, 0, rfl, Nat.zero_le _, fun j hj => by simp at hj⟩, Nat.zero_le _⟩
  · simp [Value.cells] at hcs
    obtain ⟨rfl, rfl, rfl⟩ := hcs
    have hd : d = .slice (elems.map (·.1)) (rest.map (·.1)) := congrArg Prod.fst hy
    have hb4 : Rows.uptoBulkAll (elems.map (·.1)) + 1 ≤ Rows.uptoBulk d := by
      rw [hd]
      simp only [Rows.uptoBulk]
      omega
    rw [kcells_tok] at hV
    have hlb : len ≤ 1048576 := by have := kbulk_len (elems.map (·.1)); rw [List.length_map] at this; omega
    have hall : ∀ i, i < len → ∃ q : Tq, W.cells? 0 (x.add (i * 6)) 6 = some (tcells q.k q.o q.l q.c q.t q.i).toList ∧ q.ok ∧ ∀ h : i < elems.length, q.t.size ≤ Rows.uptoBulk (elems[i]).1 := fun i hi => by
      have h := hV i hi
      have hei : i < elems.length := by omega
      rw [List.getElem?_eq_getElem hei] at h
      cases hc : W.cells? 0 (x.add (i * 6)) 6 with
      | none => rw [hc] at h; simp at h
      | some cs' =>
        rw [hc] at h
        simp only [Option.bind_some] at h
        have hm : (elems[i]).1 ∈ elems.map (·.1) := List.mem_map.2 ⟨_, List.getElem_mem hei, rfl⟩
        have hbm := kbulk_mem hm
        obtain ⟨v, e, hk, hs⟩ := open_tq (d := (elems[i]).1) (p := (elems[i]).2) h (by omega)
        exact ⟨v, by rw [e], hk, fun _ => hs⟩
    obtain ⟨F, hF⟩ : ∃ F : Nat → Tq, ∀ i, i < len → W.cells? 0 (x.add (i * 6)) 6 = some (tcells (F i).k (F i).o (F i).l (F i).c (F i).t (F i).i).toList ∧ (F i).ok ∧ ∀ h : i < elems.length, (F i).t.size ≤ Rows.uptoBulk (elems[i]).1 :=
      ⟨fun i => if h : i < len then (hall i h).choose else ⟨0, 0, 0, 0, ⟨#[]⟩, 0⟩, fun i hi => by simp only [hi, dif_pos]; exact (hall i hi).choose_spec⟩
    refine ⟨(List.range len).map F, by simp, ⟨some x, cap, by simp, by simp; omega, fun i hi => ?_⟩, ?_⟩
    · have hi' : i < len := by simpa using hi
      obtain ⟨h1, hk, _⟩ := hF i hi'
      obtain ⟨b, off, spot⟩ := x
      have hspot : spot = none := by
        have h := (World.cells?_some (hF 0 (by omega)).1).2.2 0 (by omega)
        simpa [Addr.add] using World.cell?_spot h
      subst hspot
      have hc := (World.cells?_some h1).2.2
      simp only [Addr.add_lit] at hc
      have eg : ((List.range len).map F)[i] = F i := by simp
      simp only [eg]
      refine ⟨b, off, rfl, World.block_lt_of_cell? W _ (hc 0 (by omega)), fun j v hv => ?_, hk⟩
      have hj : j < 6 := (Array.getElem?_eq_some_iff.1 hv).1
      rw [hc j hj]
      exact (by simpa using hv)
    · have h := kbulk_sum (elems.map (·.1)) (fun i => (F i).t.size) (fun i hi => by
        have hei : i < elems.length := by simpa using hi
        rw [List.getElem_map]
        exact (hF i (by omega)).2.2 hei)
      rw [List.length_map] at h
      have e : elems.length = len := by omega
      rw [e] at h
      rw [List.map_map]
      have e2 : ((fun x : Tq => x.t.size) ∘ F) = fun i => (F i).t.size := rfl
      rw [e2]
      omega
end Go.Proofs.YthpkjehoogodkaaDoor
