/- Tokens of texts of values: plain mathematics. -/
import Derived.Test.YthmhcpghfbifiaaGreatDoorGText
import Derived.Test.YthmhcpghfbifiaaGreatDoorGVals
import Derived.Test.YthmhcpghfbifiaaGreatDoorGOctet
import Derived.Test.YthmhcpghfbifiaaGreatDoorGFld
namespace Go.Proofs.YthmhcpghfbifiaaGreatDoor

/-- How many bytes the first runes of one sort have. -/
def rowR (p : Int → Bool) : List (Int × Nat) → Nat
  | [] => 0
  | (r, k) :: t => bif p (raw r) then k + rowR p t else 0
def rowM (p : Int → Bool) (l : List UInt8) : Nat := rowR p (ru l)
def blankP (r : Int) : Bool := r == 32 || r == 9
def digitP (r : Int) : Bool := decide (48 ≤ r) && decide (r ≤ 57)
def inNameP (r : Int) : Bool := isLetter r || (digitP r || r == 39)
def numSz (l : List UInt8) : Nat :=
  if rowM digitP (Lib.trimPrefix l [45]) = 0 then 0 else l.length - (Lib.trimPrefix l [45]).length + rowM digitP (Lib.trimPrefix l [45])
def imSz : List UInt8 → Nat
  | [] => 0
  | c :: r => if c.toNat ≠ 43 ∧ c.toNat ≠ 45 then 0 else if rowM digitP r = 0 then 0 else if Lib.hasPrefix (r.drop (rowM digitP r)) [105] = false then 0 else 1 + rowM digitP r + 1
def isMark (c : Nat) : Bool := c == 40 || c == 41 || c == 91 || c == 93 || c == 123 || c == 125 || c == 44
/-- A token. -/
structure Tk where
  kind : Int
  off : Nat
  text : ByteArray
/-- The token with which l begins, at a place. -/
def tokM (l : List UInt8) (o : Nat) : Tk := match l with
  | [] => ⟨-1, o, ⟨#[]⟩⟩
  | c :: r => if isMark c.toNat then ⟨c.toNat, o, str [c]⟩
    else if 0 < rowM isLetter (c :: r) then ⟨97, o, str ((c :: r).take (rowM inNameP (c :: r)))⟩
    else if numSz (c :: r) = 0 then ⟨-2, o, ⟨#[]⟩⟩
    else if 0 < imSz ((c :: r).drop (numSz (c :: r))) then ⟨105, o, str ((c :: r).take (numSz (c :: r) + imSz ((c :: r).drop (numSz (c :: r)))))⟩
    else ⟨48, o, str ((c :: r).take (numSz (c :: r)))⟩
def cutM (s : List UInt8) (o : Nat) : Tk := tokM (s.drop (o + rowM blankP (s.drop o))) (o + rowM blankP (s.drop o))
def stepM (s : List UInt8) (t : Tk) : Tk := cutM s (t.off + t.text.size)
def begins (k : Int) : Bool := k == 40 || k == 91 || k == 123 || k == 97 || k == 48 || k == 105
end Go.Proofs.YthmhcpghfbifiaaGreatDoor

/- Rows of runes of one sort. -/
namespace Go.Proofs.YthmhcpghfbifiaaGreatDoor
open Go.RowKit

theorem blankV_k (r : Int) (w : World) : Calls Tryz.prog 111 #[.int .i32 r] w fun e w' => e = .returned (.bool (blankP r)) ∧ w = w' := by
  unfold blankP
  by_cases h1 : r = 32
  · subst h1
    go_enter Tryz.func111, Tryz.ntmps111
    go_wp2
    go_ret
    exact ⟨rfl, rfl⟩
  · have e1 : (r == 32) = false := by simpa using h1
    rw [e1, Bool.false_or]
    go_enter Tryz.func111, Tryz.ntmps111
    go_wp2
    go_ret
    exact ⟨rfl, rfl⟩
theorem digitV_k (r : Int) (w : World) : Calls Tryz.prog 142 #[.int .i32 r] w fun e w' => e = .returned (.bool (digitP r)) ∧ w = w' := by
  unfold digitP
  by_cases h1 : 48 ≤ r
  · have e1 : decide (48 ≤ r) = true := decide_eq_true h1
    rw [e1, Bool.true_and]
    by_cases h2 : r ≤ 57
    · have e2 : decide (r ≤ 57) = true := decide_eq_true h2
      rw [e2]
      go_enter Tryz.func142, Tryz.ntmps142
      go_wp2
      go_ret
      exact ⟨rfl, rfl⟩
    · have e2 : decide (r ≤ 57) = false := decide_eq_false h2
      rw [e2]
      go_enter Tryz.func142, Tryz.ntmps142
      go_wp2
      go_ret
      exact ⟨rfl, rfl⟩
  · have e1 : decide (48 ≤ r) = false := decide_eq_false h1
    rw [e1, Bool.false_and]
    go_enter Tryz.func142, Tryz.ntmps142
    go_wp2
    go_ret
    exact ⟨rfl, rfl⟩
theorem inNameV_k (r : Int) (w : World) (hT : Tabs w) : Calls Tryz.prog 113 #[.int .i32 r] w fun e w' => e = .returned (.bool (inNameP r)) ∧ Below w.heap.size w w' := by
  unfold inNameP
  have HL := hide (letter_k r w hT)
  have HD := hide (fun w => digitV_k r w)
  generalize isLetter r = a at *
  generalize digitP r = b at *
  cases a
  · cases b
    · rw [Bool.false_or, Bool.false_or]
      go_enter Tryz.func113, Tryz.ntmps113
      go_wp2_with (first
        | (go_at_call 75; refine HL.out.mono ?_; clear HL; rintro e w2 ⟨rfl, b2⟩; have B2 := hide b2; clear b2)
        | (go_at_call 142; refine (HD.out _).mono ?_; clear HD; rintro e w3 ⟨rfl, rfl⟩))
      go_ret
      exact ⟨rfl, B2.out⟩
    · go_enter Tryz.func113, Tryz.ntmps113
      go_wp2_with (first
        | (go_at_call 75; refine HL.out.mono ?_; clear HL; rintro e w2 ⟨rfl, b2⟩; have B2 := hide b2; clear b2)
        | (go_at_call 142; refine (HD.out _).mono ?_; clear HD; rintro e w3 ⟨rfl, rfl⟩))
      go_ret
      exact ⟨rfl, B2.out⟩
  · go_enter Tryz.func113, Tryz.ntmps113
    go_wp2_with (go_at_call 75; refine HL.out.mono ?_; clear HL; rintro e w2 ⟨rfl, b2⟩; have B2 := hide b2; clear b2)
    go_ret
    exact ⟨rfl, B2.out⟩
theorem blankV_b (r : Int) (w : World) : Calls Tryz.prog 111 #[.int .i32 r] w fun e w' => e = .returned (.bool (blankP r)) ∧ Below w.heap.size w w' :=
  (blankV_k r w).mono fun _ _ h => ⟨h.1, h.2 ▸ Below.refl _ _⟩
theorem digitV_b (r : Int) (w : World) : Calls Tryz.prog 142 #[.int .i32 r] w fun e w' => e = .returned (.bool (digitP r)) ∧ Below w.heap.size w w' :=
  (digitV_k r w).mono fun _ _ h => ⟨h.1, h.2 ▸ Below.refl _ _⟩
theorem rowR_le (p : Int → Bool) : ∀ l : List UInt8, rowM p l ≤ l.length := by
  refine ru_ind ?_ ?_
  · simp [rowM, ru_nil, rowR]
  · intro l h ih
    unfold rowM at ih ⊢
    rw [ru_step l h, rowR]
    have := wd_le l h
    have h2 : (l.drop (wd l)).length = l.length - wd l := List.length_drop
    cases p (raw (rv l)) <;> simp <;> omega
set_option maxRecDepth 100000 in
set_option maxHeartbeats 2000000 in
theorem rowBlank_k (s : ByteArray) (_hs : s.size ≤ 1048576) (w : World) (hT : Tabs w) :
    Calls Tryz.prog 110 #[.string s, .func (.func 111) #[] #[]] w fun e w' => e = .returned (.int .i64 (rowM blankP s.data.toList)) ∧ Below w.heap.size w w' := by
  have hrg := fun w' => run_range_string (P := Tryz.prog) w' 9 s Tryz.underlying9
  have hlen : s.data.toList.length = s.size := by rw [Array.length_toList]; rfl
  have HL := hide hlen
  clear hlen
  have HT := hide hT
  clear hT
  go_enter Tryz.func110, Tryz.ntmps110
  go_wp2
  go_loopw [5, 6] (fun _ _ wr => ∃ k : Nat, k ≤ s.size ∧ k + rowM blankP (s.data.toList.drop k) = rowM blankP s.data.toList ∧ wr.heap[w.heap.size]? = some (.stringIter s k) ∧ Below w.heap.size w wr)
    (fun _ _ wr => s.size - wr.iterPos w.heap.size)
  case atStart => exact ⟨0, Nat.zero_le _, by rw [List.drop_zero, Nat.zero_add], World.iter_heap w s 0, (Below.refl _ w).alloc (Nat.le_refl _) _⟩
  case round =>
    obtain ⟨k, hk, hrow, hit, hbel⟩ := hrel
    have hpos : wr.iterPos w.heap.size = k := by simp [World.iterPos, hit]
    clear hrg
    by_cases hlt : k < s.size
    · have hnx := fun ty => Lib.run_next_any_at (P := Tryz.prog) wr w.heap.size s k ty hit hlt
      rw [wd_dec] at hnx
      have h1 := wd_pos (s.data.toList.drop k)
      have h2 := wd_room s k hlt
      have hit2 := Lib.iterAt_heap wr w.heap.size s k (k + wd (s.data.toList.drop k)) hit
      have hbel2 := Lib.below_iterAt hbel (k := w.heap.size) (Nat.le_refl _) s (k + wd (s.data.toList.drop k))
      unfold rowM at hrow
      rw [ru_step _ (drop_ne s k hlt), List.drop_drop, rowR, raw_dec] at hrow
      have HT2 := hide (HT.out.below hbel2)
      have HC := hide (fun W (hW : Tabs W) => blankV_b ((Utf8.decode s k).1 : Int) W)
      have hz : w.heap.size < (wr.iterAt w.heap.size s (k + wd (s.data.toList.drop k))).heap.size := (Array.getElem?_eq_some_iff.1 hit2).1
      generalize ((Utf8.decode s k).1 : Int) = dr at *
      generalize wd (s.data.toList.drop k) = ww at *
      have HB := hide hbel2
      have HI := hide hit2
      have HRW := hide hrow
      clear hbel2 hit2 hrow
      generalize hp : blankP dr = pp at *
      clear hp
      cases pp
      · go_wp2_with (go_at_call 111; refine (HC.out _ HT2.out).mono ?_; clear HC; rintro e w2 ⟨rfl, b2⟩; have B2 := hide b2; clear b2)
        go_ret
        have e := HRW.out
        simp only [cond_false, Nat.add_zero] at e
        exact ⟨ret_int (by unfold rowM; rw [← e]), trans_v HB.out B2.out⟩
      · go_wp2_with (go_at_call 111; refine (HC.out _ HT2.out).mono ?_; clear HC; rintro e w2 ⟨rfl, b2⟩; have B2 := hide b2; clear b2)
        go_roundw
        case rel => exact ⟨k + ww, h2, by have e := HRW.out; simp only [cond_true] at e; unfold rowM; rw [← e]; omega, (B2.out.block _ hz).trans HI.out, trans_v HB.out B2.out⟩
        case measure =>
          have hp : World.iterPos w2 w.heap.size = k + ww := by simp only [World.iterPos, (B2.out.block _ hz).trans HI.out]
          rw [hp, hpos]
          omega
    · have hnx := fun ty => Lib.run_next_end_at (P := Tryz.prog) wr w.heap.size s k ty hit hlt
      rw [drop_end s k hlt] at hrow
      have hk' : k = s.size := by omega
      subst hk'
      have HRW := hide hrow
      clear hrow
      go_wp2
      go_ret
      exact ⟨ret_int (by have := HRW.out; simp only [rowM, ru_nil, rowR, Nat.add_zero] at this; unfold rowM; rw [← this]), hbel⟩
set_option maxRecDepth 100000 in
set_option maxHeartbeats 2000000 in
theorem rowDigit_k (s : ByteArray) (_hs : s.size ≤ 1048576) (w : World) (hT : Tabs w) :
    Calls Tryz.prog 110 #[.string s, .func (.func 142) #[] #[]] w fun e w' => e = .returned (.int .i64 (rowM digitP s.data.toList)) ∧ Below w.heap.size w w' := by
  have hrg := fun w' => run_range_string (P := Tryz.prog) w' 9 s Tryz.underlying9
  have hlen : s.data.toList.length = s.size := by rw [Array.length_toList]; rfl
  have HL := hide hlen
  clear hlen
  have HT := hide hT
  clear hT
  go_enter Tryz.func110, Tryz.ntmps110
  go_wp2
  go_loopw [5, 6] (fun _ _ wr => ∃ k : Nat, k ≤ s.size ∧ k + rowM digitP (s.data.toList.drop k) = rowM digitP s.data.toList ∧ wr.heap[w.heap.size]? = some (.stringIter s k) ∧ Below w.heap.size w wr)
    (fun _ _ wr => s.size - wr.iterPos w.heap.size)
  case atStart => exact ⟨0, Nat.zero_le _, by rw [List.drop_zero, Nat.zero_add], World.iter_heap w s 0, (Below.refl _ w).alloc (Nat.le_refl _) _⟩
  case round =>
    obtain ⟨k, hk, hrow, hit, hbel⟩ := hrel
    have hpos : wr.iterPos w.heap.size = k := by simp [World.iterPos, hit]
    clear hrg
    by_cases hlt : k < s.size
    · have hnx := fun ty => Lib.run_next_any_at (P := Tryz.prog) wr w.heap.size s k ty hit hlt
      rw [wd_dec] at hnx
      have h1 := wd_pos (s.data.toList.drop k)
      have h2 := wd_room s k hlt
      have hit2 := Lib.iterAt_heap wr w.heap.size s k (k + wd (s.data.toList.drop k)) hit
      have hbel2 := Lib.below_iterAt hbel (k := w.heap.size) (Nat.le_refl _) s (k + wd (s.data.toList.drop k))
      unfold rowM at hrow
      rw [ru_step _ (drop_ne s k hlt), List.drop_drop, rowR, raw_dec] at hrow
      have HT2 := hide (HT.out.below hbel2)
      have HC := hide (fun W (hW : Tabs W) => digitV_b ((Utf8.decode s k).1 : Int) W)
      have hz : w.heap.size < (wr.iterAt w.heap.size s (k + wd (s.data.toList.drop k))).heap.size := (Array.getElem?_eq_some_iff.1 hit2).1
      generalize ((Utf8.decode s k).1 : Int) = dr at *
      generalize wd (s.data.toList.drop k) = ww at *
      have HB := hide hbel2
      have HI := hide hit2
      have HRW := hide hrow
      clear hbel2 hit2 hrow
      generalize hp : digitP dr = pp at *
      clear hp
      cases pp
      · go_wp2_with (go_at_call 142; refine (HC.out _ HT2.out).mono ?_; clear HC; rintro e w2 ⟨rfl, b2⟩; have B2 := hide b2; clear b2)
        go_ret
        have e := HRW.out
        simp only [cond_false, Nat.add_zero] at e
        exact ⟨ret_int (by unfold rowM; rw [← e]), trans_v HB.out B2.out⟩
      · go_wp2_with (go_at_call 142; refine (HC.out _ HT2.out).mono ?_; clear HC; rintro e w2 ⟨rfl, b2⟩; have B2 := hide b2; clear b2)
        go_roundw
        case rel => exact ⟨k + ww, h2, by have e := HRW.out; simp only [cond_true] at e; unfold rowM; rw [← e]; omega, (B2.out.block _ hz).trans HI.out, trans_v HB.out B2.out⟩
        case measure =>
          have hp : World.iterPos w2 w.heap.size = k + ww := by simp only [World.iterPos, (B2.out.block _ hz).trans HI.out]
          rw [hp, hpos]
          omega
    · have hnx := fun ty => Lib.run_next_end_at (P := Tryz.prog) wr w.heap.size s k ty hit hlt
      rw [drop_end s k hlt] at hrow
      have hk' : k = s.size := by omega
      subst hk'
      have HRW := hide hrow
      clear hrow
      go_wp2
      go_ret
      exact ⟨ret_int (by have := HRW.out; simp only [rowM, ru_nil, rowR, Nat.add_zero] at this; unfold rowM; rw [← this]), hbel⟩
set_option maxRecDepth 100000 in
set_option maxHeartbeats 2000000 in
theorem rowLetter_k (s : ByteArray) (_hs : s.size ≤ 1048576) (w : World) (hT : Tabs w) :
    Calls Tryz.prog 110 #[.string s, .func (.func 75) #[] #[]] w fun e w' => e = .returned (.int .i64 (rowM isLetter s.data.toList)) ∧ Below w.heap.size w w' := by
  have hrg := fun w' => run_range_string (P := Tryz.prog) w' 9 s Tryz.underlying9
  have hlen : s.data.toList.length = s.size := by rw [Array.length_toList]; rfl
  have HL := hide hlen
  clear hlen
  have HT := hide hT
  clear hT
  go_enter Tryz.func110, Tryz.ntmps110
  go_wp2
  go_loopw [5, 6] (fun _ _ wr => ∃ k : Nat, k ≤ s.size ∧ k + rowM isLetter (s.data.toList.drop k) = rowM isLetter s.data.toList ∧ wr.heap[w.heap.size]? = some (.stringIter s k) ∧ Below w.heap.size w wr)
    (fun _ _ wr => s.size - wr.iterPos w.heap.size)
  case atStart => exact ⟨0, Nat.zero_le _, by rw [List.drop_zero, Nat.zero_add], World.iter_heap w s 0, (Below.refl _ w).alloc (Nat.le_refl _) _⟩
  case round =>
    obtain ⟨k, hk, hrow, hit, hbel⟩ := hrel
    have hpos : wr.iterPos w.heap.size = k := by simp [World.iterPos, hit]
    clear hrg
    by_cases hlt : k < s.size
    · have hnx := fun ty => Lib.run_next_any_at (P := Tryz.prog) wr w.heap.size s k ty hit hlt
      rw [wd_dec] at hnx
      have h1 := wd_pos (s.data.toList.drop k)
      have h2 := wd_room s k hlt
      have hit2 := Lib.iterAt_heap wr w.heap.size s k (k + wd (s.data.toList.drop k)) hit
      have hbel2 := Lib.below_iterAt hbel (k := w.heap.size) (Nat.le_refl _) s (k + wd (s.data.toList.drop k))
      unfold rowM at hrow
      rw [ru_step _ (drop_ne s k hlt), List.drop_drop, rowR, raw_dec] at hrow
      have HT2 := hide (HT.out.below hbel2)
      have HC := hide (fun W (hW : Tabs W) => letter_k ((Utf8.decode s k).1 : Int) W hW)
      have hz : w.heap.size < (wr.iterAt w.heap.size s (k + wd (s.data.toList.drop k))).heap.size := (Array.getElem?_eq_some_iff.1 hit2).1
      generalize ((Utf8.decode s k).1 : Int) = dr at *
      generalize wd (s.data.toList.drop k) = ww at *
      have HB := hide hbel2
      have HI := hide hit2
      have HRW := hide hrow
      clear hbel2 hit2 hrow
      generalize hp : isLetter dr = pp at *
      clear hp
      cases pp
      · go_wp2_with (go_at_call 75; refine (HC.out _ HT2.out).mono ?_; clear HC; rintro e w2 ⟨rfl, b2⟩; have B2 := hide b2; clear b2)
        go_ret
        have e := HRW.out
        simp only [cond_false, Nat.add_zero] at e
        exact ⟨ret_int (by unfold rowM; rw [← e]), trans_v HB.out B2.out⟩
      · go_wp2_with (go_at_call 75; refine (HC.out _ HT2.out).mono ?_; clear HC; rintro e w2 ⟨rfl, b2⟩; have B2 := hide b2; clear b2)
        go_roundw
        case rel => exact ⟨k + ww, h2, by have e := HRW.out; simp only [cond_true] at e; unfold rowM; rw [← e]; omega, (B2.out.block _ hz).trans HI.out, trans_v HB.out B2.out⟩
        case measure =>
          have hp : World.iterPos w2 w.heap.size = k + ww := by simp only [World.iterPos, (B2.out.block _ hz).trans HI.out]
          rw [hp, hpos]
          omega
    · have hnx := fun ty => Lib.run_next_end_at (P := Tryz.prog) wr w.heap.size s k ty hit hlt
      rw [drop_end s k hlt] at hrow
      have hk' : k = s.size := by omega
      subst hk'
      have HRW := hide hrow
      clear hrow
      go_wp2
      go_ret
      exact ⟨ret_int (by have := HRW.out; simp only [rowM, ru_nil, rowR, Nat.add_zero] at this; unfold rowM; rw [← this]), hbel⟩
set_option maxRecDepth 100000 in
set_option maxHeartbeats 2000000 in
theorem rowIn_k (s : ByteArray) (_hs : s.size ≤ 1048576) (w : World) (hT : Tabs w) :
    Calls Tryz.prog 110 #[.string s, .func (.func 113) #[] #[]] w fun e w' => e = .returned (.int .i64 (rowM inNameP s.data.toList)) ∧ Below w.heap.size w w' := by
  have hrg := fun w' => run_range_string (P := Tryz.prog) w' 9 s Tryz.underlying9
  have hlen : s.data.toList.length = s.size := by rw [Array.length_toList]; rfl
  have HL := hide hlen
  clear hlen
  have HT := hide hT
  clear hT
  go_enter Tryz.func110, Tryz.ntmps110
  go_wp2
  go_loopw [5, 6] (fun _ _ wr => ∃ k : Nat, k ≤ s.size ∧ k + rowM inNameP (s.data.toList.drop k) = rowM inNameP s.data.toList ∧ wr.heap[w.heap.size]? = some (.stringIter s k) ∧ Below w.heap.size w wr)
    (fun _ _ wr => s.size - wr.iterPos w.heap.size)
  case atStart => exact ⟨0, Nat.zero_le _, by rw [List.drop_zero, Nat.zero_add], World.iter_heap w s 0, (Below.refl _ w).alloc (Nat.le_refl _) _⟩
  case round =>
    obtain ⟨k, hk, hrow, hit, hbel⟩ := hrel
    have hpos : wr.iterPos w.heap.size = k := by simp [World.iterPos, hit]
    clear hrg
    by_cases hlt : k < s.size
    · have hnx := fun ty => Lib.run_next_any_at (P := Tryz.prog) wr w.heap.size s k ty hit hlt
      rw [wd_dec] at hnx
      have h1 := wd_pos (s.data.toList.drop k)
      have h2 := wd_room s k hlt
      have hit2 := Lib.iterAt_heap wr w.heap.size s k (k + wd (s.data.toList.drop k)) hit
      have hbel2 := Lib.below_iterAt hbel (k := w.heap.size) (Nat.le_refl _) s (k + wd (s.data.toList.drop k))
      unfold rowM at hrow
      rw [ru_step _ (drop_ne s k hlt), List.drop_drop, rowR, raw_dec] at hrow
      have HT2 := hide (HT.out.below hbel2)
      have HC := hide (fun W (hW : Tabs W) => inNameV_k ((Utf8.decode s k).1 : Int) W hW)
      have hz : w.heap.size < (wr.iterAt w.heap.size s (k + wd (s.data.toList.drop k))).heap.size := (Array.getElem?_eq_some_iff.1 hit2).1
      generalize ((Utf8.decode s k).1 : Int) = dr at *
      generalize wd (s.data.toList.drop k) = ww at *
      have HB := hide hbel2
      have HI := hide hit2
      have HRW := hide hrow
      clear hbel2 hit2 hrow
      generalize hp : inNameP dr = pp at *
      clear hp
      cases pp
      · go_wp2_with (go_at_call 113; refine (HC.out _ HT2.out).mono ?_; clear HC; rintro e w2 ⟨rfl, b2⟩; have B2 := hide b2; clear b2)
        go_ret
        have e := HRW.out
        simp only [cond_false, Nat.add_zero] at e
        exact ⟨ret_int (by unfold rowM; rw [← e]), trans_v HB.out B2.out⟩
      · go_wp2_with (go_at_call 113; refine (HC.out _ HT2.out).mono ?_; clear HC; rintro e w2 ⟨rfl, b2⟩; have B2 := hide b2; clear b2)
        go_roundw
        case rel => exact ⟨k + ww, h2, by have e := HRW.out; simp only [cond_true] at e; unfold rowM; rw [← e]; omega, (B2.out.block _ hz).trans HI.out, trans_v HB.out B2.out⟩
        case measure =>
          have hp : World.iterPos w2 w.heap.size = k + ww := by simp only [World.iterPos, (B2.out.block _ hz).trans HI.out]
          rw [hp, hpos]
          omega
    · have hnx := fun ty => Lib.run_next_end_at (P := Tryz.prog) wr w.heap.size s k ty hit hlt
      rw [drop_end s k hlt] at hrow
      have hk' : k = s.size := by omega
      subst hk'
      have HRW := hide hrow
      clear hrow
      go_wp2
      go_ret
      exact ⟨ret_int (by have := HRW.out; simp only [rowM, ru_nil, rowR, Nat.add_zero] at this; unfold rowM; rw [← this]), hbel⟩
end Go.Proofs.YthmhcpghfbifiaaGreatDoor

/- Tokens: numberSize, imaginarySize, cut. -/
namespace Go.Proofs.YthmhcpghfbifiaaGreatDoor
open Go.RowKit

theorem sl_lo (l : List UInt8) (o : Nat) (h : o ≤ l.length) (w : World) : (Instr.slice 9 (.string (str l)) (some (.int .i64 o)) none none).run Tryz.prog w = .ok (.string (str (l.drop o))) w := by
  have hs := str_size l
  rw [run_slice_string_l (P := Tryz.prog) w 9 (str l) Tryz.underlying9 .i64 (o : Int) (by omega) (by omega), Int.toNat_natCast, hs, extract_str, bytes_str, List.take_of_length_le (by rw [List.length_drop]; omega)]
theorem sl_hi (l : List UInt8) (n : Nat) (h : n ≤ l.length) (w : World) : (Instr.slice 9 (.string (str l)) none (some (.int .i64 n)) none).run Tryz.prog w = .ok (.string (str (l.take n))) w := by
  have hs := str_size l
  rw [run_slice_string_h (P := Tryz.prog) w 9 (str l) Tryz.underlying9 .i64 (n : Int) (by omega) (by omega), Int.toNat_natCast, extract_str, bytes_str, List.drop_zero, Nat.sub_zero]
theorem sl_mid (l : List UInt8) (o n : Nat) (ho : o ≤ n) (h : n ≤ l.length) (w : World) : (Instr.slice 9 (.string (str l)) (some (.int .i64 o)) (some (.int .i64 n)) none).run Tryz.prog w = .ok (.string (str ((l.take n).drop o))) w := by
  have hs := str_size l
  rw [run_slice_string (P := Tryz.prog) w 9 (str l) .i64 .i64 (o : Int) (n : Int) Tryz.underlying9 (by omega) (by omega) (by omega), Int.toNat_natCast, Int.toNat_natCast, extract_str, bytes_str, List.drop_take]
theorem ix_at (l : List UInt8) (n : Nat) (h : n < l.length) (w : World) : (Instr.index 9 (.string (str l)) (.int .i64 n)).run Tryz.prog w = .ok (.int .u8 l[n].toNat) w := by
  have hs := str_size l
  rw [run_index_string (P := Tryz.prog) w 9 (str l) .i64 (n : Int) Tryz.underlying9, dif_pos ⟨by omega, by omega⟩]
  simp [str]
  rfl
theorem trim_le (l : List UInt8) : (Lib.trimPrefix l [45]).length ≤ l.length := by
  unfold Lib.trimPrefix
  split
  · rw [List.length_drop]; omega
  · omega
theorem numSz_le (l : List UInt8) : numSz l ≤ l.length := by
  unfold numSz
  have := trim_le l
  have := rowR_le digitP (Lib.trimPrefix l [45])
  split <;> omega
set_option maxRecDepth 100000 in
set_option maxHeartbeats 1000000 in
theorem numberSize_k (l : List UInt8) (hl : l.length ≤ 1048576) (w : World) (hT : Tabs w) :
    Calls Tryz.prog 114 #[.string (str l)] w fun e w' => e = .returned (.int .i64 (numSz l)) ∧ Below w.heap.size w w' := by
  have h1 := trim_le l
  have h2 := rowR_le digitP (Lib.trimPrefix l [45])
  have HC := hide (Tryz.strings_TrimPrefix (str l) ⟨#[45]⟩ w)
  rw [bytes_str] at HC
  have HR := hide (rowDigit_k (str (Lib.trimPrefix l [45])) (by rw [str_size]; omega) w hT)
  rw [bytes_str] at HR
  have s1 := str_size l
  have s2 := str_size (Lib.trimPrefix l [45])
  have HN : Hid (numSz l = if rowM digitP (Lib.trimPrefix l [45]) = 0 then 0 else l.length - (Lib.trimPrefix l [45]).length + rowM digitP (Lib.trimPrefix l [45])) := rfl
  have HC2 : Hid (Calls Tryz.prog 143 #[.string (str l), .string ⟨#[45]⟩] w fun e w' => e = .returned (.string (str (Lib.trimPrefix l [45]))) ∧ w' = w) := HC
  clear HC
  generalize Lib.trimPrefix l [45] = d at *
  generalize rowM digitP d = n at *
  generalize str d = sd at *
  generalize str l = s at *
  by_cases h0 : n = 0
  · subst h0
    go_enter Tryz.func114, Tryz.ntmps114
    go_wp2_with (first
      | (go_at_call 143; refine HC2.out.mono ?_; clear HC2; rintro e w' ⟨rfl, rfl⟩)
      | (go_at_call 110; refine HR.out.mono ?_; clear HR; rintro e w2 ⟨rfl, b2⟩; have B2 := hide b2; clear b2))
    go_ret
    exact ⟨ret_int (by rw [HN.out]; simp), B2.out⟩
  · have h0' : 0 < n := by omega
    go_enter Tryz.func114, Tryz.ntmps114
    go_wp2_with (first
      | (go_at_call 143; refine HC2.out.mono ?_; clear HC2; rintro e w' ⟨rfl, rfl⟩)
      | (go_at_call 110; refine HR.out.mono ?_; clear HR; rintro e w2 ⟨rfl, b2⟩; have B2 := hide b2; clear b2))
    go_ret
    refine ⟨ret_int ?_, B2.out⟩
    rw [HN.out, if_neg h0]
    omega
theorem ne_empty {l : List UInt8} (h : l ≠ []) : ((str l).toList == (⟨#[]⟩ : ByteArray).toList) = false ∧ ((str l).toList == ([] : List UInt8)) = false := by
  constructor
  · rw [Lib.toList_data, Lib.toList_data, bytes_str]
    simpa using h
  · rw [Lib.toList_data, bytes_str]
    simpa using h
theorem imSz_le (l : List UInt8) : imSz l ≤ l.length := by
  cases l with
  | nil => simp [imSz]
  | cons c r =>
    have h := rowR_le digitP r
    simp only [imSz]
    split
    · omega
    · split
      · omega
      · split
        · omega
        · rename_i hp
          have : (r.drop (rowM digitP r)) ≠ [] := fun e => hp (by rw [e]; rfl)
          have h2 : 0 < (r.drop (rowM digitP r)).length := List.length_pos_iff.2 this
          rw [List.length_drop] at h2
          simp only [List.length_cons]
          omega
set_option maxRecDepth 100000 in
set_option maxHeartbeats 1000000 in
theorem imaginarySize_k (l : List UInt8) (hl : l.length ≤ 1048576) (w : World) (hT : Tabs w) :
    Calls Tryz.prog 115 #[.string (str l)] w fun e w' => e = .returned (.int .i64 (imSz l)) ∧ Below w.heap.size w w' := by
  cases l with
  | nil =>
    have e : str ([] : List UInt8) = ⟨#[]⟩ := rfl
    rw [e]
    go_enter Tryz.func115, Tryz.ntmps115
    go_wp2
    go_ret
    exact ⟨rfl, Below.refl _ _⟩
  | cons c r =>
    obtain ⟨n1, n2⟩ := ne_empty (l := c :: r) (by simp)
    have hix := ix_at (c :: r) 0 (by simp)
    simp only [List.getElem_cons_zero] at hix
    have hs1 := sl_lo (c :: r) 1 (by simp)
    simp only [List.drop_succ_cons, List.drop_zero] at hs1
    have hrl := rowR_le digitP r
    simp only [List.length_cons] at hl
    have HR := hide (rowDigit_k (str r) (by rw [str_size]; omega) w hT)
    rw [bytes_str] at HR
    have hs2 := sl_lo (c :: r) (1 + rowM digitP r) (by simp; omega)
    rw [show (c :: r).drop (1 + rowM digitP r) = r.drop (rowM digitP r) by rw [Nat.add_comm]; rfl] at hs2
    have hs2' : ∀ w : World, (Instr.slice 9 (.string (str (c :: r))) (some (.int .i64 (1 + ((rowM digitP r : Nat) : Int)))) none none).run Tryz.prog w = .ok (.string (str (r.drop (rowM digitP r)))) w := hs2
    clear hs2
    have HP := hide (fun W => Tryz.strings_HasPrefix (str (r.drop (rowM digitP r))) ⟨#[105]⟩ W)
    rw [bytes_str] at HP
    have HN : Hid (imSz (c :: r) = if c.toNat ≠ 43 ∧ c.toNat ≠ 45 then 0 else if rowM digitP r = 0 then 0 else if Lib.hasPrefix (r.drop (rowM digitP r)) [105] = false then 0 else 1 + rowM digitP r + 1) := rfl
    have HP2 : Hid (∀ W, Calls Tryz.prog 106 #[.string (str (r.drop (rowM digitP r))), .string ⟨#[105]⟩] W fun e w' => e = .returned (.bool (Lib.hasPrefix (r.drop (rowM digitP r)) [105])) ∧ w' = W) := HP
    clear HP
    have hc := c.toNat_lt
    have hi0 : ∀ w : World, (Instr.index 9 (.string (str (c :: r))) (.int .i64 0)).run Tryz.prog w = .ok (.int .u8 c.toNat) w := hix
    have hi1 : ∀ w : World, (Instr.slice 9 (.string (str (c :: r))) (some (.int .i64 1)) none none).run Tryz.prog w = .ok (.string (str r)) w := hs1
    clear hix hs1
    generalize hbb : Lib.hasPrefix (r.drop (rowM digitP r)) [105] = bb at *
    clear hbb
    generalize str (r.drop (rowM digitP r)) = s3 at *
    generalize rowM digitP r = n at *
    generalize str (c :: r) = s at *
    generalize str r = sr at *
    generalize c.toNat = x at *
    by_cases hx : x ≠ 43 ∧ x ≠ 45
    · have b1 : ((x : Int) != 43) = true := by simp; omega
      have b2 : ((x : Int) != 45) = true := by simp; omega
      have c1 : ¬ (x : Int) = 43 := by omega
      have c2 : ¬ (x : Int) = 45 := by omega
      go_enter Tryz.func115, Tryz.ntmps115
      go_wp2
      go_ret
      exact ⟨ret_int (by rw [HN.out, if_pos hx]; rfl), Below.refl _ _⟩
    · have hN := HN.out
      rw [if_neg hx] at hN
      have HN2 := hide hN
      clear HN hN
      have hadd : IntKind.i64.wrap (1 + (n : Int)) = 1 + (n : Int) := by rw [IntKind.wrap_i64]; omega
      by_cases h43 : x = 43
      · subst h43
        by_cases h0 : n = 0
        · subst h0
          go_enter Tryz.func115, Tryz.ntmps115
          go_wp2_with (first
            | (go_at_call 110; refine HR.out.mono ?_; clear HR; rintro e w2 ⟨rfl, b2⟩; have B2 := hide b2; clear b2)
            | (go_at_call 106; refine (HP2.out _).mono ?_; clear HP2; rintro e w' ⟨rfl, rfl⟩))
          go_ret
          exact ⟨ret_int (by rw [HN2.out]; simp), B2.out⟩
        · have h0' : 0 < n := by omega
          cases bb
          all_goals
            go_enter Tryz.func115, Tryz.ntmps115
            go_wp2_with (first
              | (go_at_call 110; refine HR.out.mono ?_; clear HR; rintro e w2 ⟨rfl, b2⟩; have B2 := hide b2; clear b2)
              | (go_at_call 106; refine (HP2.out _).mono ?_; clear HP2; rintro e w' ⟨rfl, rfl⟩))
            go_ret
            exact ⟨ret_int (by rw [HN2.out, if_neg (by omega)]; simp <;> omega), B2.out⟩
      · have h45 : x = 45 := by omega
        subst h45
        clear h43 hx
        by_cases h0 : n = 0
        · subst h0
          go_enter Tryz.func115, Tryz.ntmps115
          go_wp2_with (first
            | (go_at_call 110; refine HR.out.mono ?_; clear HR; rintro e w2 ⟨rfl, b2⟩; have B2 := hide b2; clear b2)
            | (go_at_call 106; refine (HP2.out _).mono ?_; clear HP2; rintro e w' ⟨rfl, rfl⟩))
          go_ret
          exact ⟨ret_int (by rw [HN2.out]; simp), B2.out⟩
        · have h0' : 0 < n := by omega
          cases bb
          all_goals
            go_enter Tryz.func115, Tryz.ntmps115
            go_wp2_with (first
              | (go_at_call 110; refine HR.out.mono ?_; clear HR; rintro e w2 ⟨rfl, b2⟩; have B2 := hide b2; clear b2)
              | (go_at_call 106; refine (HP2.out _).mono ?_; clear HP2; rintro e w' ⟨rfl, rfl⟩))
            go_ret
            exact ⟨ret_int (by rw [HN2.out, if_neg (by omega)]; simp <;> omega), B2.out⟩
/-- The three cells of a token. -/
abbrev tcells (t : Tk) : Array Value := #[.int .i32 t.kind, .int .i64 t.off, .string t.text]
theorem infoTok : (Tryz.prog.info? 148).map (·.size) = some 3 := by kernel_rfl
theorem stored3 (w W : World) (k o : Int) (t : ByteArray) (c : Array Value) (b : Nat) (hb : w.heap.size ≤ b) (bW : Below w.heap.size w W) (hc : c.size = 3) (g1 : W.heap[b]? = some (.cells c 148 (0, 0))) :
    (((W.setCell ⟨b, 0, none⟩ (.int .i32 k)).setCell ⟨b, 1, none⟩ (.int .i64 o)).setCell ⟨b, 2, none⟩ (.string t)).heap[b]? = some (.cells #[.int .i32 k, .int .i64 o, .string t] 148 (0, 0)) ∧
    Below w.heap.size w (((W.setCell ⟨b, 0, none⟩ (.int .i32 k)).setCell ⟨b, 1, none⟩ (.int .i64 o)).setCell ⟨b, 2, none⟩ (.string t)) := by
  obtain ⟨l⟩ := c
  obtain ⟨x0, x1, x2, rfl⟩ : ∃ x0 x1 x2, l = [x0, x1, x2] := by
    match l, hc with
    | [x0, x1, x2], _ => exact ⟨_, _, _, rfl⟩
  have g2 := heap_setCell_same _ _ 0 _ _ (.int .i32 k) g1
  have g3 := heap_setCell_same _ _ 1 _ _ (.int .i64 o) g2
  have g4 := heap_setCell_same _ _ 2 _ _ (.string t) g3
  exact ⟨g4, ((bW.setCell hb _).setCell hb _).setCell hb _⟩
theorem isMark_ix (c : UInt8) : (0 ≤ Lib.indexByte [40, 41, 91, 93, 123, 125, 44] c) ↔ isMark c.toNat = true := by
  have h : ∀ n, n < 256 → ((0 ≤ Lib.indexByte [40, 41, 91, 93, 123, 125, 44] n.toUInt8) ↔ isMark n = true) := by decide +kernel
  have := h c.toNat c.toNat_lt
  rwa [show c.toNat.toUInt8 = c by simp] at this
end Go.Proofs.YthmhcpghfbifiaaGreatDoor

/- cut: the token behind a place. -/
namespace Go.Proofs.YthmhcpghfbifiaaGreatDoor
open Go.RowKit

set_option maxRecDepth 100000 in
set_option maxHeartbeats 4000000 in
theorem cut_k (s : List UInt8) (o : Nat) (ho : o ≤ s.length) (hs : s.length ≤ 1048576) (w : World) (hT : Tabs w) :
    Calls Tryz.prog 90 #[.string (str s), .int .i64 o] w fun e w' => e = .returned (.agg (tcells (cutM s o))) ∧ Below w.heap.size w w' := by
  obtain ⟨W, hW⟩ : ∃ W, w.alloc (.cells #[.int .i32 0, .int .i64 0, .string ⟨#[]⟩] 148) = W := ⟨_, rfl⟩
  have bW : Below w.heap.size w W := by rw [← hW]; exact alloc_v (Below.refl _ _) _
  have e1 : W.heap[w.heap.size]? = some (.cells #[.int .i32 0, .int .i64 0, .string ⟨#[]⟩] 148 (0, 0)) := by rw [← hW]; exact World.alloc_heap_new w _
  have zW : w.heap.size < W.heap.size := (Array.getElem?_eq_some_iff.1 e1).1
  have HE1 := hide e1
  have HT := hide (hT.below bW)
  have h1 := sl_lo s o ho
  have hb := rowR_le blankP (s.drop o)
  rw [List.length_drop] at hb
  have HB := hide (rowBlank_k (str (s.drop o)) (by rw [str_size, List.length_drop]; omega) W HT.out)
  rw [bytes_str] at HB
  have HM : Hid (cutM s o = tokM (s.drop (o + rowM blankP (s.drop o))) (o + rowM blankP (s.drop o))) := rfl
  generalize rowM blankP (s.drop o) = n0 at *
  have h2 := sl_lo s (o + n0) (by omega)
  have h2' : ∀ w : World, (Instr.slice 9 (.string (str s)) (some (.int .i64 ((o : Int) + (n0 : Int)))) none none).run Tryz.prog w = .ok (.string (str (s.drop (o + n0)))) w := h2
  have hadd : IntKind.i64.wrap ((o : Int) + (n0 : Int)) = (o : Int) + (n0 : Int) := by rw [IntKind.wrap_i64]; omega
  have hlen : (s.drop (o + n0)).length ≤ 1048576 := by rw [List.length_drop]; omega
  clear h2 e1 hT
  generalize s.drop (o + n0) = l at *
  generalize str (s.drop o) = s1 at *
  generalize str s = ss at *
  have HO := hide (show ((o + n0 : Nat) : Int) = (o : Int) + (n0 : Int) by omega)
  cases l with
  | nil =>
    have e : str ([] : List UInt8) = ⟨#[]⟩ := rfl
    rw [e] at h2'
    go_enter Tryz.func90, Tryz.ntmps90
    go_wp2_with (go_at_call 110; refine HB.out.mono ?_; clear HB; rintro e w2 ⟨rfl, b2⟩; have f2 := (b2.block _ zW).trans HE1.out; have y0 := cells_at f2 0 _ rfl; have y1 := cells_at f2 1 _ rfl; have y2 := cells_at f2 2 _ rfl; have q0 := frozen_at f2 0; have q1 := frozen_at f2 1; have q2 := frozen_at f2 2; have F2 := hide f2; have B2 := hide b2; clear f2 b2)
    have g := stored3 w w2 (-1) ((o : Int) + (n0 : Int)) ⟨#[]⟩ _ w.heap.size (Nat.le_refl _) (trans_v bW B2.out) rfl F2.out
    refine bodyPost_ret (results_cell_row rfl _ _ w.heap.size _ _ _ _ rfl g.1 Tryz.underlying148 rfl infoTok) rfl ?_
    exact ⟨by rw [HM.out]; rfl, g.2⟩
  | cons c r =>
    obtain ⟨n1, n2⟩ := ne_empty (l := c :: r) (by simp)
    have hix : ∀ w : World, (Instr.index 9 (.string (str (c :: r))) (.int .i64 0)).run Tryz.prog w = .ok (.int .u8 c.toNat) w := ix_at (c :: r) 0 (by simp)
    have HI : Hid (∀ W, Calls Tryz.prog 112 #[.string ⟨#[40, 41, 91, 93, 123, 125, 44]⟩, .int .u8 c.toNat] W fun e w' => e = .returned (.int .i64 (Lib.indexByte [40, 41, 91, 93, 123, 125, 44] c)) ∧ w' = W) := fun W => by
      have := Tryz.strings_IndexByte ⟨#[40, 41, 91, 93, 123, 125, 44]⟩ (c.toNat : Int) W
      rwa [Int.toNat_natCast, show c.toNat.toUInt8 = c by simp] at this
    have hmk := isMark_ix c
    have hc := c.toNat_lt
    have HF := hide (fun (U : World) (b : Below W.heap.size W U) => (b.block _ zW).trans HE1.out)
    have HTS : Hid (∀ U, Below W.heap.size W U → Tabs U) := fun U b => HT.out.below b
    generalize Lib.indexByte [40, 41, 91, 93, 123, 125, 44] c = ib at *
    by_cases hm : isMark c.toNat = true
    · have hs1 : ∀ w : World, (Instr.slice 9 (.string (str (c :: r))) none (some (.int .i64 1)) none).run Tryz.prog w = .ok (.string (str [c])) w := sl_hi (c :: r) 1 (by simp)
      have hib : 0 ≤ ib := hmk.2 hm
      have HM2 := hide (HM.out.trans (show tokM (c :: r) (o + n0) = ⟨c.toNat, o + n0, str [c]⟩ by simp only [tokM]; rw [if_pos hm]))
      clear HM hm hmk
      generalize str (c :: r) = sl at *
      generalize str [c] = s3 at *
      generalize c.toNat = x at *
      go_enter Tryz.func90, Tryz.ntmps90
      go_wp2_with (first
        | (go_at_call 110; with_reducible refine HB.out.mono ?_; clear HB; rintro e w2 ⟨rfl, b2⟩; have BB := hide b2; clear b2)
        | (go_at_call 112; with_reducible refine (HI.out _).mono ?_; clear HI; rintro e w' ⟨rfl, rfl⟩))
      have hany := Wv.any w'
      refine wp_region_grown_tail 7 (by kernel_rfl) (by kernel_rfl) ?_
      simp only [List.take_succ_cons, List.take_zero, List.drop_succ_cons, List.drop_zero]
      repeat (go_big_quiet_step (fail))
      refine wpQuiet_nil ?_
      intro w3 hw'
      obtain ⟨q, rfl⟩ := hw'
      have BB2 := hide (trans_v BB.out q.below)
      have f2 := HF.out q.val BB2.out
      have y0 := cells_at f2 0 _ rfl
      have y1 := cells_at f2 1 _ rfl
      have y2 := cells_at f2 2 _ rfl
      have q0 := frozen_at f2 0
      have q1 := frozen_at f2 1
      have q2 := frozen_at f2 2
      have F2 := hide f2
      clear f2 hany
      go_wp2
      have g := stored3 w q.val x ((o : Int) + (n0 : Int)) s3 _ w.heap.size (Nat.le_refl _) (trans_v bW BB2.out) rfl F2.out
      refine bodyPost_ret (results_cell_row rfl _ _ w.heap.size _ _ _ _ rfl g.1 Tryz.underlying148 rfl infoTok) rfl ?_
      exact ⟨by rw [HM2.out]; rfl, g.2⟩
    · have hib : ib < 0 := by rcases Int.lt_or_le ib 0 with h | h; exact h; exact absurd (hmk.1 h) hm
      have hib' : ¬ 0 ≤ ib := by omega
      have hM : tokM (c :: r) (o + n0) = if 0 < rowM isLetter (c :: r) then ⟨97, o + n0, str ((c :: r).take (rowM inNameP (c :: r)))⟩
          else if numSz (c :: r) = 0 then ⟨-2, o + n0, ⟨#[]⟩⟩
          else if 0 < imSz ((c :: r).drop (numSz (c :: r))) then ⟨105, o + n0, str ((c :: r).take (numSz (c :: r) + imSz ((c :: r).drop (numSz (c :: r)))))⟩
          else ⟨48, o + n0, str ((c :: r).take (numSz (c :: r)))⟩ := by
        simp only [tokM]
        rw [if_neg hm]
      clear hm hmk hib
      have HL := hide (fun (U : World) (b : Below W.heap.size W U) => rowLetter_k (str (c :: r)) (by rw [str_size]; exact hlen) U (HTS.out U b))
      rw [bytes_str] at HL
      by_cases hlt : 0 < rowM isLetter (c :: r)
      · rw [if_pos hlt] at hM
        have HN := hide (fun (U : World) (b : Below W.heap.size W U) => rowIn_k (str (c :: r)) (by rw [str_size]; exact hlen) U (HTS.out U b))
        rw [bytes_str] at HN
        have hs1 := sl_hi (c :: r) (rowM inNameP (c :: r)) (rowR_le _ _)
        have HM2 := hide (HM.out.trans hM)
        clear HM hM
        generalize str ((c :: r).take (rowM inNameP (c :: r))) = s3 at *
        generalize rowM inNameP (c :: r) = m at *
        generalize rowM isLetter (c :: r) = y at *
        generalize str (c :: r) = sl at *
        generalize c.toNat = x at *
        go_enter Tryz.func90, Tryz.ntmps90
        go_wp2_with (first
          | (go_at_call 110; with_reducible refine HB.out.mono ?_; clear HB; rintro e w2 ⟨rfl, b2⟩; have BB := hide b2; clear b2)
          | (go_at_call 112; with_reducible refine (HI.out _).mono ?_; clear HI; rintro e w' ⟨rfl, rfl⟩)
          | (go_at_call 110; with_reducible refine (HL.out _ BB.out).mono ?_; clear HL; rintro e w2 ⟨rfl, b2⟩; have BN := hide (trans_v BB.out b2); clear BB b2; have BB := BN; clear BN)
          | (go_at_call 110; with_reducible refine (HN.out _ BB.out).mono ?_; clear HN; rintro e w2 ⟨rfl, b2⟩; have BN := hide (trans_v BB.out b2); clear BB b2; have BB := BN; clear BN; have f2 := HF.out w2 BB.out; have y0 := cells_at f2 0 _ rfl; have y1 := cells_at f2 1 _ rfl; have y2 := cells_at f2 2 _ rfl; have q0 := frozen_at f2 0; have q1 := frozen_at f2 1; have q2 := frozen_at f2 2; have F2 := hide f2; clear f2))
        have g := stored3 w w2 97 ((o : Int) + (n0 : Int)) s3 _ w.heap.size (Nat.le_refl _) (trans_v bW BB.out) rfl F2.out
        refine bodyPost_ret (results_cell_row rfl _ _ w.heap.size _ _ _ _ rfl g.1 Tryz.underlying148 rfl infoTok) rfl ?_
        exact ⟨by rw [HM2.out]; rfl, g.2⟩
      · rw [if_neg hlt] at hM
        have hy : rowM isLetter (c :: r) = 0 := by omega
        rw [hy] at HL
        clear hlt hy
        have HZ := hide (fun (U : World) (b : Below W.heap.size W U) => numberSize_k (c :: r) hlen U (HTS.out U b))
        by_cases hz : numSz (c :: r) = 0
        · rw [if_pos hz] at hM
          rw [hz] at HZ
          have HM2 := hide (HM.out.trans hM)
          clear HM hM hz
          generalize str (c :: r) = sl at *
          generalize c.toNat = x at *
          go_enter Tryz.func90, Tryz.ntmps90
          go_wp2_with (first
            | (go_at_call 110; with_reducible refine HB.out.mono ?_; clear HB; rintro e w2 ⟨rfl, b2⟩; have BB := hide b2; clear b2)
            | (go_at_call 112; with_reducible refine (HI.out _).mono ?_; clear HI; rintro e w' ⟨rfl, rfl⟩)
            | (go_at_call 110; with_reducible refine (HL.out _ BB.out).mono ?_; clear HL; rintro e w2 ⟨rfl, b2⟩; have BN := hide (trans_v BB.out b2); clear BB b2; have BB := BN; clear BN)
            | (go_at_call 114; with_reducible refine (HZ.out _ BB.out).mono ?_; clear HZ; rintro e w2 ⟨rfl, b2⟩; have BN := hide (trans_v BB.out b2); clear BB b2; have BB := BN; clear BN; have f2 := HF.out w2 BB.out; have y0 := cells_at f2 0 _ rfl; have y1 := cells_at f2 1 _ rfl; have y2 := cells_at f2 2 _ rfl; have q0 := frozen_at f2 0; have q1 := frozen_at f2 1; have q2 := frozen_at f2 2; have F2 := hide f2; clear f2))
          have g := stored3 w w2 (-2) ((o : Int) + (n0 : Int)) ⟨#[]⟩ _ w.heap.size (Nat.le_refl _) (trans_v bW BB.out) rfl F2.out
          refine bodyPost_ret (results_cell_row rfl _ _ w.heap.size _ _ _ _ rfl g.1 Tryz.underlying148 rfl infoTok) rfl ?_
          exact ⟨by rw [HM2.out]; rfl, g.2⟩
        · rw [if_neg hz] at hM
          have hnl := numSz_le (c :: r)
          have hil := imSz_le ((c :: r).drop (numSz (c :: r)))
          rw [List.length_drop] at hil
          have hz' : 0 < numSz (c :: r) := by omega
          have hs0 := sl_lo (c :: r) (numSz (c :: r)) hnl
          have HIM := hide (fun (U : World) (b : Below W.heap.size W U) => imaginarySize_k ((c :: r).drop (numSz (c :: r))) (by rw [List.length_drop]; omega) U (HTS.out U b))
          by_cases hi : 0 < imSz ((c :: r).drop (numSz (c :: r)))
          · rw [if_pos hi] at hM
            have hs1 := sl_hi (c :: r) (numSz (c :: r) + imSz ((c :: r).drop (numSz (c :: r)))) (by omega)
            have hs1' : ∀ w : World, (Instr.slice 9 (.string (str (c :: r))) none (some (.int .i64 (((numSz (c :: r) : Nat) : Int) + ((imSz ((c :: r).drop (numSz (c :: r))) : Nat) : Int)))) none).run Tryz.prog w = .ok (.string (str ((c :: r).take (numSz (c :: r) + imSz ((c :: r).drop (numSz (c :: r))))))) w := hs1
            have HM2 := hide (HM.out.trans hM)
            clear HM hM hs1
            generalize str ((c :: r).take (numSz (c :: r) + imSz ((c :: r).drop (numSz (c :: r))))) = s3 at *
            generalize imSz ((c :: r).drop (numSz (c :: r))) = im at *
            generalize str ((c :: r).drop (numSz (c :: r))) = s4 at *
            generalize numSz (c :: r) = nn at *
            generalize str (c :: r) = sl at *
            generalize c.toNat = x at *
            have hadd2 : IntKind.i64.wrap ((nn : Int) + (im : Int)) = (nn : Int) + (im : Int) := by rw [IntKind.wrap_i64]; omega
            go_enter Tryz.func90, Tryz.ntmps90
            go_wp2_with (first
              | (go_at_call 110; with_reducible refine HB.out.mono ?_; clear HB; rintro e w2 ⟨rfl, b2⟩; have BB := hide b2; clear b2)
              | (go_at_call 112; with_reducible refine (HI.out _).mono ?_; clear HI; rintro e w' ⟨rfl, rfl⟩)
              | (go_at_call 110; with_reducible refine (HL.out _ BB.out).mono ?_; clear HL; rintro e w2 ⟨rfl, b2⟩; have BN := hide (trans_v BB.out b2); clear BB b2; have BB := BN; clear BN)
              | (go_at_call 114; with_reducible refine (HZ.out _ BB.out).mono ?_; clear HZ; rintro e w2 ⟨rfl, b2⟩; have BN := hide (trans_v BB.out b2); clear BB b2; have BB := BN; clear BN)
              | (go_at_call 115; with_reducible refine (HIM.out _ BB.out).mono ?_; clear HIM; rintro e w2 ⟨rfl, b2⟩; have BN := hide (trans_v BB.out b2); clear BB b2; have BB := BN; clear BN; have f2 := HF.out w2 BB.out; have y0 := cells_at f2 0 _ rfl; have y1 := cells_at f2 1 _ rfl; have y2 := cells_at f2 2 _ rfl; have q0 := frozen_at f2 0; have q1 := frozen_at f2 1; have q2 := frozen_at f2 2; have F2 := hide f2; clear f2))
            have g := stored3 w w2 105 ((o : Int) + (n0 : Int)) s3 _ w.heap.size (Nat.le_refl _) (trans_v bW BB.out) rfl F2.out
            refine bodyPost_ret (results_cell_row rfl _ _ w.heap.size _ _ _ _ rfl g.1 Tryz.underlying148 rfl infoTok) rfl ?_
            exact ⟨by rw [HM2.out]; rfl, g.2⟩
          · rw [if_neg hi] at hM
            have hi0 : imSz ((c :: r).drop (numSz (c :: r))) = 0 := by omega
            rw [hi0] at HIM
            have hs1 := sl_hi (c :: r) (numSz (c :: r)) hnl
            have HM2 := hide (HM.out.trans hM)
            clear HM hM hi hi0 hil
            generalize str ((c :: r).take (numSz (c :: r))) = s3 at *
            generalize str ((c :: r).drop (numSz (c :: r))) = s4 at *
            generalize numSz (c :: r) = nn at *
            generalize str (c :: r) = sl at *
            generalize c.toNat = x at *
            go_enter Tryz.func90, Tryz.ntmps90
            go_wp2_with (first
              | (go_at_call 110; with_reducible refine HB.out.mono ?_; clear HB; rintro e w2 ⟨rfl, b2⟩; have BB := hide b2; clear b2)
              | (go_at_call 112; with_reducible refine (HI.out _).mono ?_; clear HI; rintro e w' ⟨rfl, rfl⟩)
              | (go_at_call 110; with_reducible refine (HL.out _ BB.out).mono ?_; clear HL; rintro e w2 ⟨rfl, b2⟩; have BN := hide (trans_v BB.out b2); clear BB b2; have BB := BN; clear BN)
              | (go_at_call 114; with_reducible refine (HZ.out _ BB.out).mono ?_; clear HZ; rintro e w2 ⟨rfl, b2⟩; have BN := hide (trans_v BB.out b2); clear BB b2; have BB := BN; clear BN)
              | (go_at_call 115; with_reducible refine (HIM.out _ BB.out).mono ?_; clear HIM; rintro e w2 ⟨rfl, b2⟩; have BN := hide (trans_v BB.out b2); clear BB b2; have BB := BN; clear BN; have f2 := HF.out w2 BB.out; have y0 := cells_at f2 0 _ rfl; have y1 := cells_at f2 1 _ rfl; have y2 := cells_at f2 2 _ rfl; have q0 := frozen_at f2 0; have q1 := frozen_at f2 1; have q2 := frozen_at f2 2; have F2 := hide f2; clear f2))
            have g := stored3 w w2 48 ((o : Int) + (n0 : Int)) s3 _ w.heap.size (Nat.le_refl _) (trans_v bW BB.out) rfl F2.out
            refine bodyPost_ret (results_cell_row rfl _ _ w.heap.size _ _ _ _ rfl g.1 Tryz.underlying148 rfl infoTok) rfl ?_
            exact ⟨by rw [HM2.out]; rfl, g.2⟩
end Go.Proofs.YthmhcpghfbifiaaGreatDoor
