/- How a row of numbers that came in is opened. -/
import Derived.Test.YthpkjehoogodkaaDoorZKSil
import Derived.Test.YthpkjehoogodkaaDoorZKOpen
namespace Go.Proofs.YthpkjehoogodkaaDoor
open Go.ChangeShapes Go.WideShapes Go.ChangeAt Go.RowKit

theorem open_gaps {H : Type} {enc : TypeId × Value → H} {W : World} {a : Option Addr} {len cap : Nat} {d : DataW H} {p : List MemPlace} {fuel : Nat}
    (hf : DataW.trod enc Tryd.prog W 0 (fun _ => true) true fuel 45 (Value.cells (.slice a len cap)).toList = some (d, p)) (hbk : Rows.uptoBulk d ≤ 1048576) :
    ∃ l : List Int, l.length = len ∧ GapsAt W W.heap.size (.slice a len cap) l := by
  rcases open_ints Tryd.underlying45 Tryd.underlying3 (by kernel_rfl) hf with ⟨hcs, hx⟩ | ⟨x, l, c, zs, hcs, _, hl, hm, hz, hx, hcell, hwz⟩
  · simp [Value.cells] at hcs
    obtain ⟨rfl, rfl, rfl⟩ := hcs
    exact ⟨[], rfl, ⟨none, 0, rfl, Nat.zero_le _, fun j hj => by simp at hj⟩⟩
  · simp [Value.cells] at hcs
    obtain ⟨rfl, rfl, rfl⟩ := hcs
    have hz' : zs.length = cap := by simpa using hz
    have e : d = _ := congrArg Prod.fst hx
    have h3 := kbulk_len (lits (H := H) .i64 (zs.take len))
    have hle : (zs.take len).length ≤ 1048576 := by
      rw [e] at hbk
      simp only [Rows.uptoBulk] at hbk
      simp only [lits, List.length_map] at h3 hbk ⊢
      omega
    refine ⟨zs.take len, by simp; omega, ⟨some x, cap, by simp; omega, hle, fun j hj => ?_⟩⟩
    have hj' : j < len := by simp at hj; omega
    obtain ⟨b, off, rfl, hc⟩ := ints_at hcell (by omega)
    have h1 := hc j (by omega)
    refine ⟨b, off, rfl, World.block_lt_of_cell? W ⟨b, off + j, none⟩ h1, ?_⟩
    have hjz : j < zs.length := by omega
    rw [h1, List.getElem_take]
    simp [List.getD, hjz]
end Go.Proofs.YthpkjehoogodkaaDoor
