/- What the bound on bulk gives of bytes and of rows of bytes that came in. -/
import Derived.Test.YtfgcpkbbneicfaaArgs
import Derived.Deep.Slices
import Derived.JoinedCond
namespace Go.Proofs.Ytfgcpkbbneicfaa
open Go.ChangeShapes Go.WideShapes Go.ChangeAt Go.RowKit

theorem bulk_one {H : Type} (d : DataW H) : 1 ≤ Rows.uptoBulk d := by
  cases d with
  | lit l => cases l <;> simp [Rows.uptoBulk]
  | nil => simp [Rows.uptoBulk]
  | ptr d => simp [Rows.uptoBulk]
  | slice elems spare => simp [Rows.uptoBulk]
  | agg parts => simp [Rows.uptoBulk]
  | iface t d => simp [Rows.uptoBulk]
  | map entries => simp [Rows.uptoBulk]
  | held h => simp [Rows.uptoBulk]

theorem bulk_length {H : Type} (l : List (DataW H)) : l.length ≤ Rows.uptoBulkAll l := by
  induction l with
  | nil => simp [Rows.uptoBulkAll]
  | cons x r ih => have := bulk_one x; simp only [Rows.uptoBulkAll, List.length_cons]; omega

/-- Bytes that came in: no more than their bulk. -/
theorem open_bytes_bulk {H : Type} {enc : TypeId × Value → H} {W : World} {cs : List Value} {d : DataW H} {p : List MemPlace} {fuel : Nat}
    (hf : DataW.trod enc Try.prog W 0 (fun _ => true) true fuel 23 cs = some (d, p)) :
    ∃ (a : Option Addr) (cap : Nat) (l : List UInt8), cs = [.slice a l.length cap] ∧ BytesIn W 0 W.heap.size (.slice a l.length cap) l ∧ l.length ≤ Rows.uptoBulk d := by
  rcases open_ints Try.underlying23 Try.underlying5 (by kernel_rfl) hf with ⟨hcs, hx⟩ | ⟨x, l, c, zs, hcs, _, hl, hm, hz, hx, hcell, hwz⟩
  · exact ⟨none, 0, [], hcs, ⟨none, 0, rfl, Nat.le_refl _, by unfold maxLen; omega, fun j hj => by simp at hj⟩, Nat.zero_le _⟩
  · have hz' : zs.length = c := by simpa using hz
    obtain ⟨l', h1, h2⟩ := bytes_of_row hl hm hz' hcell hwz
    subst h1
    refine ⟨some x, c, l', hcs, h2, ?_⟩
    have e : d = _ := congrArg Prod.fst hx
    rw [e]
    have h3 := bulk_length (lits (H := H) .u8 (zs.take l'.length))
    simp only [Rows.uptoBulk]
    simp only [lits, List.length_map, List.length_take] at h3 ⊢
    omega

theorem flat_bulk {H : Type} (F : Nat → List UInt8) (D : Nat → DataW H) : ∀ is : List Nat, (∀ i ∈ is, (F i).length ≤ Rows.uptoBulk (D i)) → (is.map F).flatten.length ≤ Rows.uptoBulkAll (is.map D)
  | [], _ => by simp [Rows.uptoBulkAll]
  | i :: r, h => by
    have h1 := h i (by simp)
    have h2 := flat_bulk F D r (fun j hj => h j (by simp [hj]))
    simp only [List.map_cons, List.flatten_cons, List.length_append, Rows.uptoBulkAll]
    omega
end Go.Proofs.Ytfgcpkbbneicfaa
