/- What each call on the document's own reader answers, and what it does to it. -/
import Derived.Test.YtfgcpkbbneicfaaMath
import Derived.Deep.QuietTactic
import Derived.BigQuiet
import Derived.Deep.RegionHeld3
import Derived.Deep.CutRange
import Derived.Deep.DeepCutAuto
namespace Go.Proofs.Ytfgcpkbbneicfaa
open Go.RowKit

/-- The document's reader: all bytes L, the place at; its bytes' memory lies from lo on, below it. -/
def Rf (w : World) (pb lo : Nat) (L : List UInt8) (at_ : Nat) : Prop :=
  at_ ≤ L.length ∧ w.frozen? ⟨pb, 1, none⟩ = false ∧ w.cell? ⟨pb, 1, none⟩ = some (.int .i64 at_) ∧ ∃ v, w.cell? ⟨pb, 0, none⟩ = some v ∧ BytesIn w lo pb v L

theorem Rf.kept {w w' : World} {pb lo : Nat} {L : List UInt8} {at_ : Nat} (h : Rf w pb lo L at_) (hw : ∀ k, lo ≤ k → k ≤ pb → w'.heap[k]? = w.heap[k]?) (hlo : lo ≤ pb) : Rf w' pb lo L at_ := by
  obtain ⟨h0, h2, h1, v, h3, h4⟩ := h
  have e := hw pb hlo (Nat.le_refl _)
  exact ⟨h0, by rw [World.frozen?_of_block (w := w) e]; exact h2, by rw [World.cell?_of_block (w := w) e]; exact h1, v, by rw [World.cell?_of_block (w := w) e]; exact h3, h4.mono (fun b o hb hb' => World.cell?_of_block (w := w) (hw b hb (by omega))) (Nat.le_refl _) (Nat.le_refl _)⟩

theorem Rf.set {w : World} {pb lo : Nat} {L : List UInt8} {at_ : Nat} (h : Rf w pb lo L at_) (q : Nat) (hq : q ≤ L.length) : Rf (w.setCell ⟨pb, 1, none⟩ (.int .i64 q)) pb lo L q := by
  obtain ⟨h0, h2, h1, v, h3, h4⟩ := h
  refine ⟨hq, ?_, ?_, v, ?_, h4.mono (fun b o hb hb' => cell?_setCell_ne _ _ _ _ _ _ (by omega)) (Nat.le_refl _) (Nat.le_refl _)⟩
  · rw [World.frozen?_setCell]; exact h2
  · exact World.cell?_setCell_same _ _ _ h1
  · exact (World.cell?_setCell_other _ _ _ _ (by simp)).trans h3

theorem grownBy_drewN (w : World) (n : Nat) (r : Option Nat) : w.grownBy (w.drewN n) r := ⟨rfl, rfl, rfl, Nat.le_refl _, fun _ _ _ => rfl⟩
theorem grownBy_trans {w w1 w2 : World} {r : Option Nat} (h : w.grownBy w1 r) (k : w1.grownBy w2 r) : w.grownBy w2 r :=
  ⟨k.os.trans h.os, k.tape.trans h.tape, k.output.trans h.output, Nat.le_trans h.size k.size, fun i hi hr => (k.block i (Nat.lt_of_lt_of_le hi h.size) hr).trans (h.block i hi hr)⟩

set_option maxRecDepth 100000 in
theorem fLeft (w : World) (pb lo : Nat) (L : List UInt8) (at_ : Nat) (h : Rf w pb lo L at_) :
    Calls Try.prog 29 #[.pointer (some ⟨pb, 0, none⟩)] w fun e w' => e = .returned (.int .i64 ((L.length - at_ : Nat) : Int)) ∧ ∃ n, w' = w.drewN n := by
  obtain ⟨h0, h2, h1, v, h3, h4⟩ := h
  obtain ⟨a, c, rfl, h5, h6, h7⟩ := id h4
  clear h7 h4
  unfold maxLen at h6
  go_enter Try.func29, Try.ntmps29
  go_wp2_with fail
  go_quiet (fail)
  go_wp2
  go_ret
  exact ⟨ret_int (by omega), _, rfl⟩

set_option maxRecDepth 100000 in
set_option maxHeartbeats 1000000 in
theorem fU8_none (w : World) (pb lo : Nat) (L : List UInt8) (h : Rf w pb lo L L.length) :
    Calls Try.prog 21 #[.pointer (some ⟨pb, 0, none⟩)] w fun e w' => e = .returned (.tuple #[.int .u8 0, .int .i64 10]) ∧ Rf w' pb lo L L.length ∧ w.grownBy w' (some pb) := by
  have HR := hide h
  obtain ⟨h0, h2, h1, v, h3, h4⟩ := h
  obtain ⟨a, c, rfl, h5, h6, h7⟩ := id h4
  clear h7 h4
  unfold maxLen at h6
  go_enter Try.func21, Try.ntmps21
  go_wp2_with fail
  go_quiet (fail)
  go_wp2
  go_ret2
  exact ⟨rfl, HR.out, grownBy_drewN _ _ _⟩

set_option maxRecDepth 100000 in
set_option maxHeartbeats 1000000 in
theorem fU8_some (w : World) (pb lo : Nat) (L : List UInt8) (at_ : Nat) (h : Rf w pb lo L at_) (hlt : at_ < L.length) :
    Calls Try.prog 21 #[.pointer (some ⟨pb, 0, none⟩)] w fun e w' => e = .returned (.tuple #[.int .u8 L[at_].toNat, .int .i64 0]) ∧ Rf w' pb lo L (at_ + 1) ∧ w.grownBy w' (some pb) := by
  have HR := hide h
  obtain ⟨h0, h2, h1, v, h3, h4⟩ := h
  obtain ⟨a, c, rfl, h5, h6, h7⟩ := id h4
  obtain ⟨b, off, rfl, hb1, hb2, h8⟩ := h7 at_ hlt
  have hbp : b ≠ pb := by omega
  clear h7 h4
  unfold maxLen at h6
  generalize L[at_] = x at h8
  have h9 := (cell?_setCell_ne w pb 1 b (off + at_) (.int .i64 ((at_ : Int) + 1)) hbp).trans h8
  go_enter Try.func21, Try.ntmps21
  go_wp2_with fail
  go_quiet (fail)
  go_wp2
  go_quiet (fail)
  go_wp2
  go_ret2
  have R := HR.out.set (at_ + 1) (by omega)
  rw [show ((at_ + 1 : Nat) : Int) = (at_ : Int) + 1 by omega] at R
  exact ⟨rfl, R, by repeat (first | exact grownBy_setCell _ _ _ _ | exact grownBy_trans (grownBy_drewN _ _ _) (grownBy_setCell _ _ _ _) | exact grownBy_drewN _ _ _ | refine grownBy_trans ?_ (grownBy_drewN _ _ _))⟩

theorem getElem_drop_cell {w : World} {b off at_ : Nat} {L : List UInt8} (h7 : ∀ j (h : j < L.length), w.cell? ⟨b, off + j, none⟩ = some (.int .u8 (L[j].toNat : Int))) (k : Nat) (hk : k < (L.drop at_).length) :
    w.cell? ⟨b, off + (at_ + k), none⟩ = some (.int .u8 ((L.drop at_)[k].toNat : Int)) := by
  rw [List.length_drop] at hk
  have := h7 (at_ + k) (by omega)
  rw [List.getElem_drop]
  exact this

def acc_ref_claim (acc n k : Nat) : Prop :=
  bits .or .u64 (acc : Int) (IntKind.u64.wrap ((n : Int) % 128 * 2 ^ (7 * k))) = ((acc + n % 128 * 2 ^ (7 * k) : Nat) : Int)

theorem acc_ref (acc n k : Nat) (hk : k ≤ 9) (hacc : acc < 2 ^ (7 * k)) (hn : n < 256) (h9 : k = 9 → n = 1) : acc_ref_claim acc n k := by
  have h := acc_walk acc n k hk hacc hn h9
  unfold acc_walk_claim at h
  unfold acc_ref_claim
  have h1 : bits .andNot .u8 (n : Int) 128 = (n : Int) % 128 := by
    have := u8_andNot_nat n 128 hn (by decide)
    rw [show 255 - 128 = 127 from rfl, nat_mask7] at this
    exact this
  have h2 : IntKind.u64.wrap ((n : Int) % 128) = (n : Int) % 128 := by rw [IntKind.wrap_u64]; omega
  rw [h1, h2] at h
  exact h

theorem acc_ref_zero (acc n k : Nat) (hn : n = 0) (h : acc_ref_claim acc n k) : bits .or .u64 (acc : Int) (IntKind.u64.wrap 0) = ((acc + n % 128 * 2 ^ (7 * k) : Nat) : Int) := by
  subst hn
  unfold acc_ref_claim at h
  rw [show (((0 : Nat) : Int) % 128 * 2 ^ (7 * k)) = 0 by simp] at h
  exact h
theorem acc_ref_last (acc : Nat) (h : acc_ref_claim acc 1 9) : bits .or .u64 (acc : Int) 9223372036854775808 = ((acc + 1 % 128 * 2 ^ (7 * 9) : Nat) : Int) := by
  unfold acc_ref_claim at h
  rw [show IntKind.u64.wrap (((1 : Nat) : Int) % 128 * 2 ^ (7 * 9)) = 9223372036854775808 by decide] at h
  exact h

theorem Rf.fin {w : World} {pb lo : Nat} {L : List UInt8} {at_ k : Nat} (h : Rf w pb lo L at_) (hk : at_ + k < L.length) (nd : Nat) :
    Rf ((w.setCell ⟨pb, 1, none⟩ (.int .i64 ((at_ : Int) + (k : Int) + 1))).drewN nd) pb lo L (at_ + (k + 1)) := by
  have R := h.set (at_ + (k + 1)) (by omega)
  rw [show ((at_ + (k + 1) : Nat) : Int) = (at_ : Int) + (k : Int) + 1 by omega] at R
  exact R

set_option maxRecDepth 100000 in
set_option maxHeartbeats 2000000 in
theorem fUvarint (w : World) (pb lo : Nat) (L : List UInt8) (at_ : Nat) (h : Rf w pb lo L at_) :
    Calls Try.prog 23 #[.pointer (some ⟨pb, 0, none⟩)] w fun e w' =>
      e = .returned (.tuple #[.int .u64 (front (L.drop at_)).1, .int .i64 (front (L.drop at_)).2.2]) ∧ Rf w' pb lo L (at_ + (front (L.drop at_)).2.1) ∧ w.grownBy w' (some pb) := by
  have HR := hide h
  obtain ⟨h0, h2, h1, v, h3, h4⟩ := h
  obtain ⟨a, c, rfl, h5, h6, h7⟩ := id h4
  have hel := h4.plain.elim
  clear h7 h4
  unfold maxLen at h6
  go_enter Try.func23, Try.ntmps23
  go_wp2
  go_loopw [4, 5, 6] (fun t i _ wr => ∃ k acc n : Nat, wr = w.drewN n ∧ k ≤ (L.drop at_).length ∧ k ≤ 9 ∧ acc < 2 ^ (7 * k) ∧ i = .int .i64 k ∧ t = .int .u64 acc ∧ frontGo k acc ((L.drop at_).drop k) = front (L.drop at_)) (fun _ i _ _ => (L.drop at_).length - (intOf i).toNat)
  case atStart => exact ⟨0, 0, 0, rfl, Nat.zero_le _, by omega, by decide, rfl, rfl, rfl⟩
  case round =>
    obtain ⟨k, acc, nd, rfl, hk, hk9, hacc, rfl, rfl, hfr⟩ := hrel
    have hdl : (L.drop at_).length = L.length - at_ := List.length_drop
    by_cases hlt : k < (L.drop at_).length
    · have hcell : ∃ b off, a = some ⟨b, off, none⟩ ∧ w.cell? ⟨b, off + (at_ + k), none⟩ = some (.int .u8 ((L.drop at_)[k].toNat : Int)) := by
        rcases hel with ⟨e, _⟩ | ⟨_, b, off, c', e, h7⟩
        · rw [e] at hlt; simp at hlt
        · simp only [Value.slice.injEq] at e
          exact ⟨b, off, e.1, getElem_drop_cell h7 k hlt⟩
      obtain ⟨b, off, rfl, hcell⟩ := hcell
      rw [List.drop_eq_getElem_cons hlt, frontGo] at hfr
      generalize (L.drop at_)[k] = x at hcell hfr
      have hx : x.toNat < 256 := x.toNat_lt
      have HA : Hid (acc < 2 ^ (7 * k)) := hacc
      have HDL := hide hdl
      have hkL : at_ + k < L.length := by omega
      clear hacc hel hdl
      generalize x.toNat = n at hcell hx hfr
      have HFR := hide hfr
      clear hfr
      have d1 : decide ((L.length : Int) ≤ (at_ : Int) + (k : Int)) = false := by simp; omega
      by_cases h9 : k = 9
      · by_cases h1' : n = 1
        · have HW := hide (acc_ref acc n k hk9 HA.out hx (fun _ => h1'))
          have HF : Hid ((acc + n % 128 * 2 ^ (7 * k), k + 1, 0) = front (L.drop at_)) := by
            have hfr := HFR.out
            rw [if_neg (by omega), if_neg (by omega), if_neg (by omega)] at hfr
            exact hfr
          clear HFR
          subst h9
          subst h1'
          go_wp2_with fail
          go_quiet (fail)
          go_wp2
          go_quiet (fail)
          go_wp2
          go_ret2
          exact ⟨ret_two (by rw [← HF.out]; exact acc_ref_last acc HW.out) (by rw [← HF.out]; rfl), by rw [← HF.out]; exact HR.out.fin (k := 9) hkL _, by repeat (first | exact grownBy_setCell _ _ _ _ | exact grownBy_trans (grownBy_drewN _ _ _) (grownBy_setCell _ _ _ _) | exact grownBy_drewN _ _ _ | refine grownBy_trans ?_ (grownBy_drewN _ _ _))⟩
        · have HF : Hid ((0, 0, 12) = front (L.drop at_)) := by
            have hfr := HFR.out
            rw [if_pos ⟨h9, h1'⟩] at hfr
            exact hfr
          clear HFR
          subst h9
          have h1b : ((n : Int) == 1) = false := by simp; omega
          go_wp2_with fail
          go_quiet (fail)
          go_wp2
          go_quiet (fail)
          go_wp2
          go_ret2
          exact ⟨ret_two (by rw [← HF.out]; rfl) (by rw [← HF.out]; rfl), by rw [← HF.out]; exact HR.out, by repeat (first | exact grownBy_setCell _ _ _ _ | exact grownBy_trans (grownBy_drewN _ _ _) (grownBy_setCell _ _ _ _) | exact grownBy_drewN _ _ _ | refine grownBy_trans ?_ (grownBy_drewN _ _ _))⟩
      · have HW := hide (acc_ref acc n k hk9 HA.out hx (fun e => absurd e h9))
        by_cases h128 : 128 ≤ n
        · have HF : Hid (frontGo (k + 1) (acc + n % 128 * 2 ^ (7 * k)) (List.drop (k + 1) (L.drop at_)) = front (L.drop at_)) := by
            have hfr := HFR.out
            rw [if_neg (fun h => h9 h.1), if_pos h128] at hfr
            exact hfr
          clear HFR
          go_wp2_with fail
          go_quiet (fail)
          go_wp2
          go_quiet (fail)
          go_wp2
          go_roundw
          case rel => exact ⟨k + 1, _, _, rfl, by omega, by omega, acc_lt _ n _ HA.out, by go_num, congrArg (Value.int .u64) HW.out, HF.out⟩
          case measure => simp [intOf]; omega
        · by_cases h0' : n = 0 ∧ 0 < k
          · have HF : Hid ((0, 0, 12) = front (L.drop at_)) := by
              have hfr := HFR.out
              rw [if_neg (fun h => h9 h.1), if_neg h128, if_pos h0'] at hfr
              exact hfr
            obtain ⟨h0a, h0b⟩ := h0'
            clear HFR HW
            subst h0a
            go_wp2_with fail
            go_quiet (fail)
            go_wp2
            go_quiet (fail)
            go_wp2
            go_ret2
            exact ⟨ret_two (by rw [← HF.out]; rfl) (by rw [← HF.out]; rfl), by rw [← HF.out]; exact HR.out, by repeat (first | exact grownBy_setCell _ _ _ _ | exact grownBy_trans (grownBy_drewN _ _ _) (grownBy_setCell _ _ _ _) | exact grownBy_drewN _ _ _ | refine grownBy_trans ?_ (grownBy_drewN _ _ _))⟩
          · have HF : Hid ((acc + n % 128 * 2 ^ (7 * k), k + 1, 0) = front (L.drop at_)) := by
              have hfr := HFR.out
              rw [if_neg (fun h => h9 h.1), if_neg h128, if_neg h0'] at hfr
              exact hfr
            clear HFR
            by_cases hn0 : n = 0
            · have hk0 : k < 1 := by omega
              have hn1 : n < 1 := by omega
              clear h0' hn0
              go_wp2_with fail
              go_quiet (fail)
              go_wp2
              go_quiet (fail)
              go_wp2
              go_ret2
              exact ⟨ret_two (by rw [← HF.out]; exact acc_ref_zero acc n k (by omega) HW.out) (by rw [← HF.out]; rfl), by rw [← HF.out]; exact HR.out.fin hkL _, by repeat (first | exact grownBy_setCell _ _ _ _ | exact grownBy_trans (grownBy_drewN _ _ _) (grownBy_setCell _ _ _ _) | exact grownBy_drewN _ _ _ | refine grownBy_trans ?_ (grownBy_drewN _ _ _))⟩
            · have hn1 : 0 < n := by omega
              clear h0' hn0
              go_wp2_with fail
              go_quiet (fail)
              go_wp2
              go_quiet (fail)
              go_wp2
              go_ret2
              exact ⟨ret_two (by rw [← HF.out]; exact HW.out) (by rw [← HF.out]; rfl), by rw [← HF.out]; exact HR.out.fin hkL _, by repeat (first | exact grownBy_setCell _ _ _ _ | exact grownBy_trans (grownBy_drewN _ _ _) (grownBy_setCell _ _ _ _) | exact grownBy_drewN _ _ _ | refine grownBy_trans ?_ (grownBy_drewN _ _ _))⟩
    · have : k = (L.drop at_).length := by omega
      rw [this, List.drop_length, frontGo] at hfr
      have HF : Hid ((0, 0, 10) = front (L.drop at_)) := hfr
      have d1 : decide ((L.length : Int) ≤ (at_ : Int) + (k : Int)) = true := by simp; omega
      clear hfr hel hacc this
      go_wp2_with fail
      go_quiet (fail)
      go_wp2
      go_ret2
      exact ⟨ret_two (by rw [← HF.out]; rfl) (by rw [← HF.out]; rfl), by rw [← HF.out]; exact HR.out, by repeat (first | exact grownBy_setCell _ _ _ _ | exact grownBy_trans (grownBy_drewN _ _ _) (grownBy_setCell _ _ _ _) | exact grownBy_drewN _ _ _ | refine grownBy_trans ?_ (grownBy_drewN _ _ _))⟩
end Go.Proofs.Ytfgcpkbbneicfaa
