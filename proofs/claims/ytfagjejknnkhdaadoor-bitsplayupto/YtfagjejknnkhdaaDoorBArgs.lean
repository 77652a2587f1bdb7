/- How rows of numbers that came in are opened. -/
import Derived.Test.YtfagjejknnkhdaaDoorBLaid
import Derived.Test.YtfagjejknnkhdaaDoorBRows
import Derived.Deep.Slices
import Derived.ChangeMaps5
namespace Go.Proofs.YtfagjejknnkhdaaDoor
open Go.ChangeShapes Go.WideShapes Go.ChangeAt Go.RowKit

theorem bulk_one {H : Type} (d : DataW H) : 1 ≤ Rows.uptoBulk d := by
  cases d with
  | lit l => cases l <;> simp [Rows.uptoBulk]
  | nil => simp [Rows.uptoBulk]
  | ptr d => simp [Rows.uptoBulk]
  | slice elems spare => simp [Rows.uptoBulk]
  | agg parts => simp [Rows.uptoBulk]
  | iface t d => simp [Rows.uptoBulk]
  | map entries => simp [Rows.uptoBulk]
  | held h => simp [Rows.uptoBulk]
theorem bulk_length {H : Type} (l : List (DataW H)) : l.length ≤ Rows.uptoBulkAll l := by
  induction l with
  | nil => simp [Rows.uptoBulkAll]
  | cons x r ih => have := bulk_one x; simp only [Rows.uptoBulkAll, List.length_cons]; omega

/-- A row of ints that came in. -/
theorem open_i64 {H : Type} {enc : TypeId × Value → H} {W : World} {a : Option Addr} {len cap : Nat} {d : DataW H} {p : List MemPlace} {fuel : Nat}
    (hf : DataW.trod enc Tryd.prog W 0 (fun _ => true) true fuel 55 (Value.cells (.slice a len cap)).toList = some (d, p)) :
    ∃ l : List Int, l.length = len ∧ IntsAt W W.heap.size (.slice a len cap) l ∧ l.length ≤ Rows.uptoBulk d := by
  rcases open_ints Tryd.underlying55 Tryd.underlying3 (by kernel_rfl) hf with ⟨hcs, hx⟩ | ⟨x, l, c, zs, hcs, _, hl, hm, hz, hx, hcell, hwz⟩
  · simp [Value.cells] at hcs
    obtain ⟨rfl, rfl, rfl⟩ := hcs
    exact ⟨[], rfl, ⟨none, 0, rfl, fun j hj => by simp at hj⟩, Nat.zero_le _⟩
  · simp [Value.cells] at hcs
    obtain ⟨rfl, rfl, rfl⟩ := hcs
    have hz' : zs.length = cap := by simpa using hz
    refine ⟨zs.take len, by simp; omega, ⟨some x, cap, by simp; omega, fun j hj => ?_⟩, ?_⟩
    · have hj' : j < len := by simp at hj; omega
      obtain ⟨b, off, rfl, hc⟩ := ints_at hcell (by omega)
      have h1 := hc j (by omega)
      refine ⟨b, off, rfl, World.block_lt_of_cell? W ⟨b, off + j, none⟩ h1, ?_⟩
      have hjz : j < zs.length := by omega
      rw [h1, List.getElem_take]
      simp [List.getD, hjz]
    · have e : d = _ := congrArg Prod.fst hx
      rw [e]
      have h3 := bulk_length (lits (H := H) .i64 (zs.take len))
      simp only [Rows.uptoBulk]
      simp only [lits, List.length_map] at h3 ⊢
      omega
/-- A row of words that came in. -/
theorem open_u64 {H : Type} {enc : TypeId × Value → H} {W : World} {a : Option Addr} {len cap : Nat} {d : DataW H} {p : List MemPlace} {fuel : Nat}
    (hf : DataW.trod enc Tryd.prog W 0 (fun _ => true) true fuel 43 (Value.cells (.slice a len cap)).toList = some (d, p)) :
    ∃ l : List Nat, l.length = len ∧ WordsAt W W.heap.size (.slice a len cap) l ∧ l.length ≤ Rows.uptoBulk d ∧ ∀ x ∈ l, x < 18446744073709551616 := by
  rcases open_ints Tryd.underlying43 Tryd.underlying56 (by kernel_rfl) hf with ⟨hcs, hx⟩ | ⟨x, l, c, zs, hcs, _, hl, hm, hz, hx, hcell, hwz⟩
  · simp [Value.cells] at hcs
    obtain ⟨rfl, rfl, rfl⟩ := hcs
    exact ⟨[], rfl, ⟨none, 0, rfl, fun j hj => by simp at hj⟩, Nat.zero_le _, by simp⟩
  · simp [Value.cells] at hcs
    obtain ⟨rfl, rfl, rfl⟩ := hcs
    have hz' : zs.length = cap := by simpa using hz
    have hbd : ∀ z ∈ zs, 0 ≤ z ∧ z < 18446744073709551616 := fun z hz => by have := bounds_u64 (hwz z hz); omega
    refine ⟨(zs.take len).map Int.toNat, by simp; omega, ⟨some x, cap, by simp; omega, fun j hj => ?_⟩, ?_, ?_⟩
    · have hj' : j < len := by simp at hj; omega
      obtain ⟨b, off, rfl, hc⟩ := ints_at hcell (by omega)
      have h1 := hc j (by omega)
      refine ⟨b, off, rfl, World.block_lt_of_cell? W ⟨b, off + j, none⟩ h1, ?_⟩
      have hjz : j < zs.length := by omega
      have hb := hbd _ (List.getElem_mem hjz)
      rw [h1, List.getElem_map, List.getElem_take]
      have e1 : zs.getD j 0 = zs[j] := by simp [List.getD, hjz]
      rw [e1]
      congr 2
      omega
    · have e : d = _ := congrArg Prod.fst hx
      rw [e]
      have h3 := bulk_length (lits (H := H) .u64 (zs.take len))
      simp only [Rows.uptoBulk]
      simp only [lits, List.length_map] at h3 ⊢
      omega
    · intro y hy
      obtain ⟨z, hz, rfl⟩ := List.mem_map.1 hy
      have := hbd z (List.mem_of_mem_take hz)
      omega
end Go.Proofs.YtfagjejknnkhdaaDoor
