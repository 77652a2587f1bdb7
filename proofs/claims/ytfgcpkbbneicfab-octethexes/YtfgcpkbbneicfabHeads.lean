/- heads answers true, and turns nothing that was there. -/
import Derived.Test.YtfgcpkbbneicfabClone
import Derived.Lib.SlBytesConst
namespace Go.Proofs.Ytfgcpkbbneicfab
open Go.RowKit

theorem fr1 : front [172, 2, 1, 2, 97, 98] = (300, 2, 0) := by decide
theorem fr2 : front [1, 2, 97, 98] = (1, 1, 0) := by decide
theorem tx3 : textOf [2, 97, 98] = [97, 98] := by decide
theorem te3 : textErr [2, 97, 98] = 0 := by decide
theorem tr3 : textRest [2, 97, 98] = [] := by decide
theorem crc9 : (crc [49, 50, 51, 52, 53, 54, 55, 56, 57]).toNat = 3421780262 := by decide +kernel

theorem lit6 (w : World) : Bytes (w.alloc (.cells #[.int .u8 172, .int .u8 2, .int .u8 1, .int .u8 2, .int .u8 97, .int .u8 98] 5)) (.slice (some ⟨w.heap.size, 0, none⟩) 6 6) [172, 2, 1, 2, 97, 98] := by
  refine ⟨_, 6, rfl, fun j hj => ⟨w.heap.size, 0, rfl, ?_⟩⟩
  rw [Nat.zero_add, World.cell?_alloc_new]
  match j, hj with
  | 0, _ => rfl
  | 1, _ => rfl
  | 2, _ => rfl
  | 3, _ => rfl
  | 4, _ => rfl
  | 5, _ => rfl

theorem lit9 (w : World) (fr : Nat × Nat) : Bytes (w.alloc (.cells #[.int .u8 49, .int .u8 50, .int .u8 51, .int .u8 52, .int .u8 53, .int .u8 54, .int .u8 55, .int .u8 56, .int .u8 57] 5 fr)) (.slice (some ⟨w.heap.size, 0, none⟩) 9 9) [49, 50, 51, 52, 53, 54, 55, 56, 57] := by
  refine ⟨_, 9, rfl, fun j hj => ⟨w.heap.size, 0, rfl, ?_⟩⟩
  rw [Nat.zero_add, World.cell?_alloc_mark]
  match j, hj with
  | 0, _ => rfl
  | 1, _ => rfl
  | 2, _ => rfl
  | 3, _ => rfl
  | 4, _ => rfl
  | 5, _ => rfl
  | 6, _ => rfl
  | 7, _ => rfl
  | 8, _ => rfl

theorem crc_lit (w : World) (fr : Nat × Nat) :
    Calls Try.prog 19 #[.slice (some ⟨w.heap.size + 1, 0, none⟩) 1 1]
      ((w.alloc (.cells #[.int .u8 49, .int .u8 50, .int .u8 51, .int .u8 52, .int .u8 53, .int .u8 54, .int .u8 55, .int .u8 56, .int .u8 57] 5 fr)).alloc (.cells #[.slice (some ⟨w.heap.size, 0, none⟩) 9 9] 22))
      fun e w' => e = .returned (.int .u32 3421780262) ∧ w' = ((w.alloc (.cells #[.int .u8 49, .int .u8 50, .int .u8 51, .int .u8 52, .int .u8 53, .int .u8 54, .int .u8 55, .int .u8 56, .int .u8 57] 5 fr)).alloc (.cells #[.slice (some ⟨w.heap.size, 0, none⟩) 9 9] 22)) := by
  have h := crc_some (w.heap.size + 1) 0 1 [[49, 50, 51, 52, 53, 54, 55, 56, 57]] ((w.alloc (.cells #[.int .u8 49, .int .u8 50, .int .u8 51, .int .u8 52, .int .u8 53, .int .u8 54, .int .u8 55, .int .u8 56, .int .u8 57] 5 fr)).alloc (.cells #[.slice (some ⟨w.heap.size, 0, none⟩) 9 9] 22))
    (by unfold maxLen; decide) (by intro i hi; match i, hi with | 0, _ => unfold maxLen; show 9 ≤ 2 ^ 63 - 1; decide) (by
      intro i hi
      match i, hi with
      | 0, _ =>
        refine ⟨.slice (some ⟨w.heap.size, 0, none⟩) 9 9, ?_, (lit9 w fr).later ((Below.refl _ _).alloc (Nat.le_refl _) _)⟩
        have e : w.heap.size + 1 = (w.alloc (.cells #[.int .u8 49, .int .u8 50, .int .u8 51, .int .u8 52, .int .u8 53, .int .u8 54, .int .u8 55, .int .u8 56, .int .u8 57] 5 fr)).heap.size := by simp
        rw [e, World.cell?_alloc_new]
        rfl)
  have e2 : (([[49, 50, 51, 52, 53, 54, 55, 56, 57]] : List (List UInt8)).flatten) = [49, 50, 51, 52, 53, 54, 55, 56, 57] := rfl
  rw [e2, crc9] at h
  exact h

theorem hU (w : World) (rb lo : Nat) (h : Rd w rb lo [172, 2, 1, 2, 97, 98]) :
    Calls Try.prog 15 #[.pointer (some ⟨rb, 0, none⟩)] w fun e w' =>
      e = .returned (.tuple #[.int .u64 300, .int .i64 0]) ∧ Rd w' rb lo [1, 2, 97, 98] ∧ w.grownBy w' (some rb) := by
  have := rUvarint w rb lo _ h
  rw [fr1] at this
  exact this
theorem hV (w : World) (rb lo : Nat) (h : Rd w rb lo [1, 2, 97, 98]) :
    Calls Try.prog 16 #[.pointer (some ⟨rb, 0, none⟩)] w fun e w' =>
      e = .returned (.tuple #[.int .i64 (-1), .int .i64 0]) ∧ Rd w' rb lo [2, 97, 98] ∧ w.grownBy w' (some rb) := by
  have := rVarint w rb lo _ h
  rw [fr2] at this
  exact this
theorem hT (w : World) (rb lo : Nat) (h : Rd w rb lo [2, 97, 98]) :
    Calls Try.prog 17 #[.pointer (some ⟨rb, 0, none⟩)] w fun e w' =>
      e = .returned (.tuple #[.string ⟨#[97, 98]⟩, .int .i64 0]) ∧ Rd w' rb lo [] ∧ w.grownBy w' (some rb) := by
  have := rText w rb lo _ h
  rw [tx3, te3, tr3] at this
  exact this
theorem hE (w : World) (rb lo : Nat) (h : Rd w rb lo []) :
    Calls Try.prog 18 #[.pointer (some ⟨rb, 0, none⟩)] w fun e w' => e = .returned (.int .i64 0) ∧ w' = w := by
  have := rEnd w rb lo _ h
  rw [if_pos (show ([] : List UInt8).length = 0 from rfl)] at this
  exact this

theorem below_grown {B rb : Nat} {w w1 w2 : World} (h : Below B w w1) (hg : w1.grownBy w2 (some rb)) (hB : B ≤ rb) (hs : B ≤ w1.heap.size) : Below B w w2 :=
  h.grown hg hs (fun k hk => by cases hk; exact hB)

set_option maxRecDepth 100000 in
set_option maxHeartbeats 2000000 in
theorem heads_any (w : World) :
    Calls Try.prog 10 #[] w fun e w' => e = .returned (.bool true) ∧ Below w.heap.size w w' := by
  have kc := fun (w : World) (C : Array Value) (n c : Nat) => Lib.run_convert_bytes_const (P := Try.prog) w 22 5 C n c Try.underlying22 Try.underlying5
  go_enter Try.func10, Try.ntmps10
  go_wp2_with (first | (go_at_call 14; refine (newReader_any _ _ [172, 2, 1, 2, 97, 98] (lit6 w) (by decide)).mono ?_; rintro e w1 ⟨rb, rfl, A1, A2, A3, A4⟩; have B1 := hide A1; have B3 := hide A3; have B4 := hide A4; clear A1 A2 A3 A4) | (go_at_call 15; refine (hU _ _ _ B3.out).mono ?_; rintro e w2 ⟨rfl, A1, A2⟩; have C1 := hide A1; have C2 := hide A2; clear A1 A2) | (go_at_call 16; refine (hV _ _ _ C1.out).mono ?_; rintro e w3 ⟨rfl, A1, A2⟩; have D1 := hide A1; have D2 := hide A2; clear A1 A2) | (go_at_call 17; refine (hT _ _ _ D1.out).mono ?_; rintro e w4 ⟨rfl, A1, A2⟩; have E1 := hide A1; have E2 := hide A2; clear A1 A2) | (go_at_call 18; refine (hE _ _ _ E1.out).mono ?_; rintro e w5 ⟨rfl, rfl⟩) | (go_at_call 19; refine (crc_lit _ _).mono ?_; rintro e w6 ⟨rfl, rfl⟩))
  go_ret
  refine ⟨rfl, ?_⟩
  have hrb := B1.out
  simp only [World.size_alloc] at hrb
  have b1 := ((Below.refl w.heap.size w).alloc (Nat.le_refl _) _).trans (B4.out.mono (by simp))
  have b2 := below_grown b1 C2.out (by omega) b1.size
  have b3 := below_grown b2 D2.out (by omega) b2.size
  have b4 := below_grown b3 E2.out (by omega) b3.size
  exact (b4.alloc b4.size _).alloc (by have := b4.size; simp; omega) _

end Go.Proofs.Ytfgcpkbbneicfab
