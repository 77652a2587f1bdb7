/- How a row of bytes that came in is opened. -/
import Derived.Test.YtfgcpkbbneicfabHeads
import Derived.ProofKit
import Derived.OpenShut
import Derived.ChangeOld
import Derived.SizedLaws
namespace Go.Proofs.Ytfgcpkbbneicfab
open Go.ChangeShapes Go.WideShapes Go.ChangeAt Go.RowKit

theorem own : ownKnob Try.prog.godebug = none := by kernel_rfl
theorem laidOut : laidOutB Try.prog = true := by kernel_rfl
theorem bytes_u8 : Try.prog.bytesOf 5 = 1 := by kernel_rfl

theorem bytes_of_row {W : World} {x : Addr} {len cap : Nat} {zs : List Int} (hl : len ≤ cap) (hm : cap ≤ maxLen) (hz : zs.length = cap)
    (hcell : ∀ i, i < zs.length → W.cell? (x.add i) = some (.int .u8 (zs.getD i 0))) (hwz : ∀ n ∈ zs, (Lit.int .u8 n).wf = true) :
    ∃ l : List UInt8, l.length = len ∧ BytesIn W 0 W.heap.size (.slice (some x) len cap) l := by
  refine ⟨(zs.take len).map (fun n => UInt8.ofNat n.toNat), by simp; omega, some x, cap, ?_, ?_, hm, ?_⟩
  · simp; omega
  · simp; omega
  · intro j hj
    have hj' : j < len := by simp at hj; omega
    obtain ⟨b, off, rfl, hc⟩ := ints_at hcell (by omega)
    have h1 := hc j (by omega)
    refine ⟨b, off, rfl, Nat.zero_le _, World.block_lt_of_cell? W ⟨b, off + j, none⟩ h1, ?_⟩
    have hjz : j < zs.length := by omega
    have hb := range_u8 hwz j
    rw [h1, List.getElem_map, List.getElem_take]
    have e1 : zs.getD j 0 = zs[j] := by simp [List.getD, hjz]
    have e2 : zs[j]?.getD 0 = zs[j] := by simp [hjz]
    rw [e2] at hb
    rw [e1]
    have e3 : (UInt8.ofNat zs[j].toNat).toNat = zs[j].toNat := by
      rw [UInt8.toNat_ofNat']
      omega
    rw [e3]
    congr 2
    omega

/-- A slice of bytes that came in: the bytes that it reads as; its size is within the form's reach. -/
theorem open_bytes {H : Type} {enc : TypeId × Value → H} {W : World} {a : Option Addr} {len cap : Nat} {d : DataW H} {p : List MemPlace} {fuel : Nat}
    (hf : DataW.trod enc Try.prog W 0 (fun _ => true) true fuel 22 (Value.cells (.slice a len cap)).toList = some (d, p)) :
    ∃ l : List UInt8, l.length = len ∧ len ≤ cap ∧ BytesIn W 0 W.heap.size (.slice a len cap) l ∧
      ((d = .nil ∧ cap = 0) ∨ ∃ elems spare, d = .slice elems spare ∧ elems.length + spare.length = cap) := by
  rcases open_ints Try.underlying22 Try.underlying5 (by kernel_rfl) hf with ⟨hcs, hx⟩ | ⟨x, l, c, zs, hcs, _, hl, hm, hz, hx, hcell, hwz⟩
  · simp [Value.cells] at hcs
    obtain ⟨rfl, rfl, rfl⟩ := hcs
    refine ⟨[], rfl, Nat.le_refl _, ⟨none, 0, rfl, Nat.le_refl _, by unfold maxLen; omega, fun j hj => by simp at hj⟩, .inl ⟨?_, rfl⟩⟩
    have := congrArg Prod.fst hx
    exact this
  · simp [Value.cells] at hcs
    obtain ⟨rfl, rfl, rfl⟩ := hcs
    have hz' : zs.length = cap := by simpa using hz
    obtain ⟨l', h1, h2⟩ := bytes_of_row hl hm hz' hcell hwz
    refine ⟨l', h1, hl, h2, .inr ⟨_, _, congrArg Prod.fst hx, ?_⟩⟩
    simp only [lits, List.length_map, List.length_take, List.length_drop]
    omega
end Go.Proofs.Ytfgcpkbbneicfab
