/- How a row of tokens that came in is opened, with its bulk told. -/
import Derived.Test.YthpkjehoogodkaaDoorZKOpen
namespace Go.Proofs.YthpkjehoogodkaaDoor
open Go.ChangeShapes Go.WideShapes Go.ChangeAt Go.RowKit

/-- A row of tokens that came in. -/
theorem open_tqsB {H : Type} {enc : TypeId × Value → H} {W : World} {fuel : Nat} {a : Option Addr} {len cap : Nat} {d : DataW H} {p : List MemPlace}
    (hf : DataW.trod enc Tryd.prog W 0 (fun _ => true) true fuel 22 (Value.cells (.slice a len cap)).toList = some (d, p)) (hbk : Rows.uptoBulk d ≤ 1048576) :
    ∃ l : List Tq, l.length = len ∧ TqAt W W.heap.size (.slice a len cap) l ∧ (l.map fun x => x.t.size).sum + 1 ≤ Rows.uptoBulk d := by
  rcases DataW.trod_slice Tryd.underlying22 hf with ⟨hcs, hy⟩ | ⟨x, len', cap', elems, rest, m, hfu, hcs, hy, _, hlc, hcm, hel, hV, _, _⟩
  · simp [Value.cells] at hcs
    obtain ⟨rfl, rfl, rfl⟩ := hcs
    exact ⟨[], rfl, ⟨none, 0, rfl, Nat.zero_le _, fun j hj => by simp at hj⟩, kbulk_one _⟩
  · simp [Value.cells] at hcs
    obtain ⟨rfl, rfl, rfl⟩ := hcs
    have hd : d = .slice (elems.map (·.1)) (rest.map (·.1)) := congrArg Prod.fst hy
    have hb4 : Rows.uptoBulkAll (elems.map (·.1)) + 1 ≤ Rows.uptoBulk d := by
      rw [hd]
      simp only [Rows.uptoBulk]
      omega
    rw [kcells_tok] at hV
    have hlb : len ≤ 1048576 := by have := kbulk_len (elems.map (·.1)); rw [List.length_map] at this; omega
    have hall : ∀ i, i < len → ∃ q : Tq, W.cells? 0 (x.add (i * 6)) 6 = some (tcells q.k q.o q.l q.c q.t q.i).toList ∧ q.ok ∧ ∀ h : i < elems.length, q.t.size ≤ Rows.uptoBulk (elems[i]).1 := fun i hi => by
      have h := hV i hi
      have hei : i < elems.length := by omega
      rw [List.getElem?_eq_getElem hei] at h
      cases hc : W.cells? 0 (x.add (i * 6)) 6 with
      | none => rw [hc] at h; simp at h
      | some cs' =>
        rw [hc] at h
        simp only [Option.bind_some] at h
        have hm : (elems[i]).1 ∈ elems.map (·.1) := List.mem_map.2 ⟨_, List.getElem_mem hei, rfl⟩
        have hbm := kbulk_mem hm
        obtain ⟨v, e, hk, hs⟩ := open_tq (d := (elems[i]).1) (p := (elems[i]).2) h (by omega)
        exact ⟨v, by rw [e], hk, fun _ => hs⟩
    obtain ⟨F, hF⟩ : ∃ F : Nat → Tq, ∀ i, i < len → W.cells? 0 (x.add (i * 6)) 6 = some (tcells (F i).k (F i).o (F i).l (F i).c (F i).t (F i).i).toList ∧ (F i).ok ∧ ∀ h : i < elems.length, (F i).t.size ≤ Rows.uptoBulk (elems[i]).1 :=
      ⟨fun i => if h : i < len then (hall i h).choose else ⟨0, 0, 0, 0, ⟨#[]⟩, 0⟩, fun i hi => by simp only [hi, dif_pos]; exact (hall i hi).choose_spec⟩
    refine ⟨(List.range len).map F, by simp, ⟨some x, cap, by simp, by simp; omega, fun i hi => ?_⟩, ?_⟩
    · have hi' : i < len := by simpa using hi
      obtain ⟨h1, hk, _⟩ := hF i hi'
      obtain ⟨b, off, spot⟩ := x
      have hspot : spot = none := by
        have h := (World.cells?_some (hF 0 (by omega)).1).2.2 0 (by omega)
        simpa [Addr.add] using World.cell?_spot h
      subst hspot
      have hc := (World.cells?_some h1).2.2
      simp only [Addr.add_lit] at hc
      have eg : ((List.range len).map F)[i] = F i := by simp
      simp only [eg]
      refine ⟨b, off, rfl, World.block_lt_of_cell? W _ (hc 0 (by omega)), fun j v hv => ?_, hk⟩
      have hj : j < 6 := (Array.getElem?_eq_some_iff.1 hv).1
      rw [hc j hj]
      exact (by simpa using hv)
    · have h := kbulk_sum (elems.map (·.1)) (fun i => (F i).t.size) (fun i hi => by
        have hei : i < elems.length := by simpa using hi
        rw [List.getElem_map]
        exact (hF i (by omega)).2.2 hei)
      rw [List.length_map] at h
      have e : elems.length = len := by omega
      rw [e] at h
      rw [List.map_map]
      have e2 : ((fun x : Tq => x.t.size) ∘ F) = fun i => (F i).t.size := rfl
      rw [e2]
      omega
end Go.Proofs.YthpkjehoogodkaaDoor
