/- A row of bytes that came in, with its bulk. -/
import Derived.Deep.Slices
import Derived.ChangeMaps5
import Derived.Test.YthmhcpghfbifiaaGreatDoorGOpens
import Derived.Test.YthmhcpghfbifiaaGreatDoorGOctet
namespace Go.Proofs.YthmhcpghfbifiaaGreatDoor
open Go.ChangeShapes Go.WideShapes Go.ChangeAt Go.RowKit

theorem bulk_oneB {H : Type} (d : DataW H) : 1 ≤ Rows.uptoBulk d := by
  cases d with
  | lit l => cases l <;> simp [Rows.uptoBulk]
  | nil => simp [Rows.uptoBulk]
  | ptr d => simp [Rows.uptoBulk]
  | slice elems spare => simp [Rows.uptoBulk]
  | agg parts => simp [Rows.uptoBulk]
  | iface t d => simp [Rows.uptoBulk]
  | map entries => simp [Rows.uptoBulk]
  | held h => simp [Rows.uptoBulk]
theorem bulk_lengthB {H : Type} (l : List (DataW H)) : l.length ≤ Rows.uptoBulkAll l := by
  induction l with
  | nil => simp [Rows.uptoBulkAll]
  | cons x r ih => have := bulk_oneB x; simp only [Rows.uptoBulkAll, List.length_cons]; omega
theorem bytes_u8B : Tryz.prog.bytesOf 5 = 1 := by kernel_rfl

theorem bytes_of_rowB {W : World} {x : Addr} {len cap : Nat} {zs : List Int} (hl : len ≤ cap) (hm : cap ≤ maxLen) (hz : zs.length = cap)
    (hcell : ∀ i, i < zs.length → W.cell? (x.add i) = some (.int .u8 (zs.getD i 0))) (hwz : ∀ n ∈ zs, (Lit.int .u8 n).wf = true) :
    ∃ l : List UInt8, l.length = len ∧ BytesIn W 0 W.heap.size (.slice (some x) len cap) l := by
  refine ⟨(zs.take len).map (fun n => UInt8.ofNat n.toNat), by simp; omega, some x, cap, ?_, ?_, hm, ?_⟩
  · simp; omega
  · simp; omega
  · intro j hj
    have hj' : j < len := by simp at hj; omega
    obtain ⟨b, off, rfl, hc⟩ := ints_at hcell (by omega)
    have h1 := hc j (by omega)
    refine ⟨b, off, rfl, Nat.zero_le _, World.block_lt_of_cell? W ⟨b, off + j, none⟩ h1, ?_⟩
    have hjz : j < zs.length := by omega
    have hb := range_u8 hwz j
    rw [h1, List.getElem_map, List.getElem_take]
    have e1 : zs.getD j 0 = zs[j] := by simp [List.getD, hjz]
    have e2 : zs[j]?.getD 0 = zs[j] := by simp [hjz]
    rw [e2] at hb
    rw [e1]
    have e3 : (UInt8.ofNat zs[j].toNat).toNat = zs[j].toNat := by
      rw [UInt8.toNat_ofNat']
      omega
    rw [e3]
    congr 2
    omega

theorem open_bytesB {H : Type} {enc : TypeId × Value → H} {W : World} {a : Option Addr} {len cap : Nat} {d : DataW H} {p : List MemPlace} {fuel : Nat}
    (hf : DataW.trod enc Tryz.prog W 0 (fun _ => true) true fuel 23 (Value.cells (.slice a len cap)).toList = some (d, p)) :
    ∃ l : List UInt8, l.length = len ∧ BytesIn W 0 W.heap.size (.slice a len cap) l ∧ l.length ≤ Rows.uptoBulk d := by
  rcases open_ints Tryz.underlying23 Tryz.underlying5 (by kernel_rfl) hf with ⟨hcs, hx⟩ | ⟨x, l, c, zs, hcs, _, hl, hm, hz, hx, hcell, hwz⟩
  · simp [Value.cells] at hcs
    obtain ⟨rfl, rfl, rfl⟩ := hcs
    exact ⟨[], rfl, ⟨none, 0, rfl, Nat.le_refl _, by unfold maxLen; omega, fun j hj => by simp at hj⟩, Nat.zero_le _⟩
  · simp [Value.cells] at hcs
    obtain ⟨rfl, rfl, rfl⟩ := hcs
    have hz' : zs.length = cap := by simpa using hz
    obtain ⟨l', h1, h2⟩ := bytes_of_rowB hl hm hz' hcell hwz
    refine ⟨l', h1, h2, ?_⟩
    have e : d = _ := congrArg Prod.fst hx
    rw [e, h1]
    have h3 := bulk_lengthB (lits (H := H) .u8 (zs.take len))
    simp only [Rows.uptoBulk]
    simp only [lits, List.length_map, List.length_take] at h3 ⊢
    omega
end Go.Proofs.YthmhcpghfbifiaaGreatDoor
