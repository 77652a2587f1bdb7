/- What each call on the document's own reader answers, and what it does to it. -/
import Derived.Test.YtjbpodkhgdaopaaGreatDoorZMath
import Derived.Deep.QuietTactic
import Derived.BigQuiet
import Derived.Deep.RegionHeld3
import Derived.Deep.CutRange
import Derived.Deep.DeepCutAuto
namespace Go.Proofs.YtjbpodkhgdaopaaGreatDoor
open Go.RowKit

/-- The document's reader: all bytes L, the place at; its bytes' memory lies from lo on, below it. -/
def Rf (w : World) (pb lo : Nat) (L : List UInt8) (at_ : Nat) : Prop :=
  at_ ≤ L.length ∧ w.frozen? ⟨pb, 1, none⟩ = false ∧ w.cell? ⟨pb, 1, none⟩ = some (.int .i64 at_) ∧ ∃ v, w.cell? ⟨pb, 0, none⟩ = some v ∧ BytesIn w lo pb v L

theorem Rf.kept {w w' : World} {pb lo : Nat} {L : List UInt8} {at_ : Nat} (h : Rf w pb lo L at_) (hw : ∀ k, lo ≤ k → k ≤ pb → w'.heap[k]? = w.heap[k]?) (hlo : lo ≤ pb) : Rf w' pb lo L at_ := by
  obtain ⟨h0, h2, h1, v, h3, h4⟩ := h
  have e := hw pb hlo (Nat.le_refl _)
  exact ⟨h0, by rw [World.frozen?_of_block (w := w) e]; exact h2, by rw [World.cell?_of_block (w := w) e]; exact h1, v, by rw [World.cell?_of_block (w := w) e]; exact h3, h4.mono (fun b o hb hb' => World.cell?_of_block (w := w) (hw b hb (by omega))) (Nat.le_refl _) (Nat.le_refl _)⟩

theorem Rf.set {w : World} {pb lo : Nat} {L : List UInt8} {at_ : Nat} (h : Rf w pb lo L at_) (q : Nat) (hq : q ≤ L.length) : Rf (w.setCell ⟨pb, 1, none⟩ (.int .i64 q)) pb lo L q := by
  obtain ⟨h0, h2, h1, v, h3, h4⟩ := h
  refine ⟨hq, ?_, ?_, v, ?_, h4.mono (fun b o hb hb' => cell?_setCell_ne _ _ _ _ _ _ (by omega)) (Nat.le_refl _) (Nat.le_refl _)⟩
  · rw [World.frozen?_setCell]; exact h2
  · exact World.cell?_setCell_same _ _ _ h1
  · exact (World.cell?_setCell_other _ _ _ _ (by simp)).trans h3

theorem grownBy_drewN (w : World) (n : Nat) (r : Option Nat) : w.grownBy (w.drewN n) r := ⟨rfl, rfl, rfl, Nat.le_refl _, fun _ _ _ => rfl⟩
theorem grownBy_trans {w w1 w2 : World} {r : Option Nat} (h : w.grownBy w1 r) (k : w1.grownBy w2 r) : w.grownBy w2 r :=
  ⟨k.os.trans h.os, k.tape.trans h.tape, k.output.trans h.output, Nat.le_trans h.size k.size, fun i hi hr => (k.block i (Nat.lt_of_lt_of_le hi h.size) hr).trans (h.block i hi hr)⟩

theorem getElem_drop_cell {w : World} {b off at_ : Nat} {L : List UInt8} (h7 : ∀ j (h : j < L.length), w.cell? ⟨b, off + j, none⟩ = some (.int .u8 (L[j].toNat : Int))) (k : Nat) (hk : k < (L.drop at_).length) :
    w.cell? ⟨b, off + (at_ + k), none⟩ = some (.int .u8 ((L.drop at_)[k].toNat : Int)) := by
  rw [List.length_drop] at hk
  have := h7 (at_ + k) (by omega)
  rw [List.getElem_drop]
  exact this

def acc_ref_claim (acc n k : Nat) : Prop :=
  bits .or .u64 (acc : Int) (IntKind.u64.wrap ((n : Int) % 128 * 2 ^ (7 * k))) = ((acc + n % 128 * 2 ^ (7 * k) : Nat) : Int)

theorem acc_ref (acc n k : Nat) (hk : k ≤ 9) (hacc : acc < 2 ^ (7 * k)) (hn : n < 256) (h9 : k = 9 → n = 1) : acc_ref_claim acc n k := by
  have h := acc_walk acc n k hk hacc hn h9
  unfold acc_walk_claim at h
  unfold acc_ref_claim
  have h1 : bits .andNot .u8 (n : Int) 128 = (n : Int) % 128 := by
    have := u8_andNot_nat n 128 hn (by decide)
    rw [show 255 - 128 = 127 from rfl, nat_mask7] at this
    exact this
  have h2 : IntKind.u64.wrap ((n : Int) % 128) = (n : Int) % 128 := by rw [IntKind.wrap_u64]; omega
  rw [h1, h2] at h
  exact h

theorem acc_ref_zero (acc n k : Nat) (hn : n = 0) (h : acc_ref_claim acc n k) : bits .or .u64 (acc : Int) (IntKind.u64.wrap 0) = ((acc + n % 128 * 2 ^ (7 * k) : Nat) : Int) := by
  subst hn
  unfold acc_ref_claim at h
  rw [show (((0 : Nat) : Int) % 128 * 2 ^ (7 * k)) = 0 by simp] at h
  exact h
theorem acc_ref_last (acc : Nat) (h : acc_ref_claim acc 1 9) : bits .or .u64 (acc : Int) 9223372036854775808 = ((acc + 1 % 128 * 2 ^ (7 * 9) : Nat) : Int) := by
  unfold acc_ref_claim at h
  rw [show IntKind.u64.wrap (((1 : Nat) : Int) % 128 * 2 ^ (7 * 9)) = 9223372036854775808 by decide] at h
  exact h

theorem Rf.fin {w : World} {pb lo : Nat} {L : List UInt8} {at_ k : Nat} (h : Rf w pb lo L at_) (hk : at_ + k < L.length) (nd : Nat) :
    Rf ((w.setCell ⟨pb, 1, none⟩ (.int .i64 ((at_ : Int) + (k : Int) + 1))).drewN nd) pb lo L (at_ + (k + 1)) := by
  have R := h.set (at_ + (k + 1)) (by omega)
  rw [show ((at_ + (k + 1) : Nat) : Int) = (at_ : Int) + (k : Int) + 1 by omega] at R
  exact R

end Go.Proofs.YtjbpodkhgdaopaaGreatDoor
