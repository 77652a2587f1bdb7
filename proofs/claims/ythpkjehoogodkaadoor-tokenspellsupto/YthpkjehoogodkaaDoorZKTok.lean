/- Runes of one sort: what the small functions of package token answer, and how long a row of such runes is. -/
import Derived.Test.YthpkjehoogodkaaDoorZKMath
namespace Go.Proofs.YthpkjehoogodkaaDoor
open Go.RowKit

theorem kcells_at {w : World} {b : Nat} {cs : Array Value} {t : TypeId} (h : w.heap[b]? = some (.cells cs t (0, 0))) (i : Nat) (x : Value) (hx : cs[i]? = some x) : w.cell? ⟨b, i, none⟩ = some x := by
  simp only [World.cell?]
  rw [h]
  exact hx
theorem kfrozen_at {w : World} {b : Nat} {cs : Array Value} {t : TypeId} (h : w.heap[b]? = some (.cells cs t (0, 0))) (i : Nat) : w.frozen? ⟨b, i, none⟩ = false := by
  simp only [World.frozen?]
  rw [h]
  simp
theorem ktrans {w W W' : World} (b : Below w.heap.size w W) (b' : Below W.heap.size W W') : Below w.heap.size w W' := b.trans (b'.mono b.size)
theorem kalloc {w W : World} (b : Below w.heap.size w W) (o : Obj) : Below w.heap.size w (W.alloc o) := b.alloc b.size o
theorem kret_int {a b : Int} (h : a = b) : (Ending.returned (.int .i64 a) : Ending) = .returned (.int .i64 b) := by rw [h]

theorem blankT_k (r : Int) (w : World) : Calls Tryd.prog 29 #[.int .i32 r] w fun e w' => e = .returned (.bool (isBl r)) ∧ w = w' := by
  unfold isBl
  by_cases h1 : r = 32
  · subst h1
    go_enter Tryd.func29, Tryd.ntmps29
    go_wp2
    go_ret
    exact ⟨rfl, rfl⟩
  by_cases h2 : r = 9
  · subst h2
    go_enter Tryd.func29, Tryd.ntmps29
    go_wp2
    go_ret
    exact ⟨rfl, rfl⟩
  by_cases h3 : r = 10
  · subst h3
    go_enter Tryd.func29, Tryd.ntmps29
    go_wp2
    go_ret
    exact ⟨rfl, rfl⟩
  have e1 : (r == 32) = false := by simpa using h1
  have e2 : (r == 9) = false := by simpa using h2
  have e3 : (r == 10) = false := by simpa using h3
  rw [e1, e2, e3, Bool.false_or, Bool.false_or, Bool.false_or]
  go_enter Tryd.func29, Tryd.ntmps29
  go_wp2
  go_ret
  exact ⟨rfl, rfl⟩
theorem inLineT_k (r : Int) (w : World) : Calls Tryd.prog 32 #[.int .i32 r] w fun e w' => e = .returned (.bool (isLn r)) ∧ w = w' := by
  unfold isLn
  go_enter Tryd.func32, Tryd.ntmps32
  go_wp2
  go_ret
  exact ⟨rfl, rfl⟩
theorem digitT_k (r : Int) (w : World) : Calls Tryd.prog 35 #[.int .i32 r] w fun e w' => e = .returned (.bool (isDg r)) ∧ w = w' := by
  unfold isDg
  by_cases h1 : 48 ≤ r
  · have e1 : decide (48 ≤ r) = true := decide_eq_true h1
    rw [e1, Bool.true_and]
    by_cases h2 : r ≤ 57
    · have e2 : decide (r ≤ 57) = true := decide_eq_true h2
      rw [e2]
      go_enter Tryd.func35, Tryd.ntmps35
      go_wp2
      go_ret
      exact ⟨rfl, rfl⟩
    · have e2 : decide (r ≤ 57) = false := decide_eq_false h2
      rw [e2]
      go_enter Tryd.func35, Tryd.ntmps35
      go_wp2
      go_ret
      exact ⟨rfl, rfl⟩
  · have e1 : decide (48 ≤ r) = false := decide_eq_false h1
    rw [e1, Bool.false_and]
    go_enter Tryd.func35, Tryd.ntmps35
    go_wp2
    go_ret
    exact ⟨rfl, rfl⟩
theorem inNameT_k (r : Int) (w : World) (hT : Tabs w) : Calls Tryd.prog 53 #[.int .i32 r] w fun e w' => e = .returned (.bool (isNm r)) ∧ Below w.heap.size w w' := by
  unfold isNm
  have HL := hide (letter_k r w hT)
  have HD := hide (fun w => digitT_k r w)
  generalize isLetter r = a at *
  generalize isDg r = b at *
  cases a
  · cases b
    · rw [Bool.false_or, Bool.false_or]
      go_enter Tryd.func53, Tryd.ntmps53
      go_wp2_with (first
        | (go_at_call 33; refine HL.out.mono ?_; clear HL; rintro e w2 ⟨rfl, b2⟩; have B2 := hide b2; clear b2)
        | (go_at_call 35; refine (HD.out _).mono ?_; clear HD; rintro e w3 ⟨rfl, rfl⟩))
      go_ret
      exact ⟨rfl, B2.out⟩
    · go_enter Tryd.func53, Tryd.ntmps53
      go_wp2_with (first
        | (go_at_call 33; refine HL.out.mono ?_; clear HL; rintro e w2 ⟨rfl, b2⟩; have B2 := hide b2; clear b2)
        | (go_at_call 35; refine (HD.out _).mono ?_; clear HD; rintro e w3 ⟨rfl, rfl⟩))
      go_ret
      exact ⟨rfl, B2.out⟩
  · go_enter Tryd.func53, Tryd.ntmps53
    go_wp2_with (go_at_call 33; refine HL.out.mono ?_; clear HL; rintro e w2 ⟨rfl, b2⟩; have B2 := hide b2; clear b2)
    go_ret
    exact ⟨rfl, B2.out⟩
theorem inLineT_b (r : Int) (w : World) : Calls Tryd.prog 32 #[.int .i32 r] w fun e w' => e = .returned (.bool (isLn r)) ∧ Below w.heap.size w w' :=
  (inLineT_k r w).mono fun _ _ h => ⟨h.1, h.2 ▸ Below.refl _ _⟩

set_option maxRecDepth 100000 in
set_option maxHeartbeats 2000000 in
theorem rowLine_k (s : ByteArray) (_hs : s.size ≤ 4294967296) (w : World) (hT : Tabs w) :
    Calls Tryd.prog 31 #[.string s, .func (.func 32) #[] #[]] w fun e w' => e = .returned (.int .i64 (rowL isLn s.data.toList)) ∧ Below w.heap.size w w' := by
  have hrg := fun w' => run_range_string (P := Tryd.prog) w' 9 s Tryd.underlying9
  have hlen : s.data.toList.length = s.size := by rw [Array.length_toList]; rfl
  have HL := hide hlen
  clear hlen
  have HT := hide hT
  clear hT
  go_enter Tryd.func31, Tryd.ntmps31
  go_wp2
  go_loopw [5, 6] (fun _ _ wr => ∃ k : Nat, k ≤ s.size ∧ k + rowL isLn (s.data.toList.drop k) = rowL isLn s.data.toList ∧ wr.heap[w.heap.size]? = some (.stringIter s k) ∧ Below w.heap.size w wr)
    (fun _ _ wr => s.size - wr.iterPos w.heap.size)
  case atStart => exact ⟨0, Nat.zero_le _, by rw [List.drop_zero, Nat.zero_add], World.iter_heap w s 0, (Below.refl _ w).alloc (Nat.le_refl _) _⟩
  case round =>
    obtain ⟨k, hk, hrow, hit, hbel⟩ := hrel
    have hpos : wr.iterPos w.heap.size = k := by simp [World.iterPos, hit]
    clear hrg
    by_cases hlt : k < s.size
    · have hnx := fun ty => Lib.run_next_any_at (P := Tryd.prog) wr w.heap.size s k ty hit hlt
      rw [wd_dec] at hnx
      have h1 := wd_pos (s.data.toList.drop k)
      have h2 := wd_room s k hlt
      have hit2 := Lib.iterAt_heap wr w.heap.size s k (k + wd (s.data.toList.drop k)) hit
      have hbel2 := Lib.below_iterAt hbel (k := w.heap.size) (Nat.le_refl _) s (k + wd (s.data.toList.drop k))
      rw [rowL_step _ _ (drop_ne s k hlt), List.drop_drop, raw_dec] at hrow
      have HT2 := hide (HT.out.below hbel2)
      have HC := hide (fun W (hW : Tabs W) => inLineT_b ((Utf8.decode s k).1 : Int) W)
      have hz : w.heap.size < (wr.iterAt w.heap.size s (k + wd (s.data.toList.drop k))).heap.size := (Array.getElem?_eq_some_iff.1 hit2).1
      generalize ((Utf8.decode s k).1 : Int) = dr at *
      generalize wd (s.data.toList.drop k) = ww at *
      have HB := hide hbel2
      have HI := hide hit2
      have HRW := hide hrow
      clear hbel2 hit2 hrow
      generalize hp : isLn dr = pp at *
      clear hp
      cases pp
      · go_wp2_with (go_at_call 32; refine (HC.out _ HT2.out).mono ?_; clear HC; rintro e w2 ⟨rfl, b2⟩; have B2 := hide b2; clear b2)
        go_ret
        have e := HRW.out
        rw [if_neg (by decide), Nat.add_zero] at e
        exact ⟨kret_int (by rw [← e]), ktrans HB.out B2.out⟩
      · go_wp2_with (go_at_call 32; refine (HC.out _ HT2.out).mono ?_; clear HC; rintro e w2 ⟨rfl, b2⟩; have B2 := hide b2; clear b2)
        go_roundw
        case rel => exact ⟨k + ww, h2, by have e := HRW.out; rw [if_pos trivial] at e; rw [← e]; omega, (B2.out.block _ hz).trans HI.out, ktrans HB.out B2.out⟩
        case measure =>
          have hp : World.iterPos w2 w.heap.size = k + ww := by simp only [World.iterPos, (B2.out.block _ hz).trans HI.out]
          rw [hp, hpos]
          omega
    · have hnx := fun ty => Lib.run_next_end_at (P := Tryd.prog) wr w.heap.size s k ty hit hlt
      rw [drop_end s k hlt, rowL_nil] at hrow
      have hk' : k = s.size := by omega
      subst hk'
      have HRW := hide hrow
      clear hrow
      go_wp2
      go_ret
      exact ⟨kret_int (by have := HRW.out; rw [← this]; rfl), hbel⟩

set_option maxRecDepth 100000 in
set_option maxHeartbeats 2000000 in
theorem rowName_k (s : ByteArray) (_hs : s.size ≤ 4294967296) (w : World) (hT : Tabs w) :
    Calls Tryd.prog 31 #[.string s, .func (.func 53) #[] #[]] w fun e w' => e = .returned (.int .i64 (rowL isNm s.data.toList)) ∧ Below w.heap.size w w' := by
  have hrg := fun w' => run_range_string (P := Tryd.prog) w' 9 s Tryd.underlying9
  have hlen : s.data.toList.length = s.size := by rw [Array.length_toList]; rfl
  have HL := hide hlen
  clear hlen
  have HT := hide hT
  clear hT
  go_enter Tryd.func31, Tryd.ntmps31
  go_wp2
  go_loopw [5, 6] (fun _ _ wr => ∃ k : Nat, k ≤ s.size ∧ k + rowL isNm (s.data.toList.drop k) = rowL isNm s.data.toList ∧ wr.heap[w.heap.size]? = some (.stringIter s k) ∧ Below w.heap.size w wr)
    (fun _ _ wr => s.size - wr.iterPos w.heap.size)
  case atStart => exact ⟨0, Nat.zero_le _, by rw [List.drop_zero, Nat.zero_add], World.iter_heap w s 0, (Below.refl _ w).alloc (Nat.le_refl _) _⟩
  case round =>
    obtain ⟨k, hk, hrow, hit, hbel⟩ := hrel
    have hpos : wr.iterPos w.heap.size = k := by simp [World.iterPos, hit]
    clear hrg
    by_cases hlt : k < s.size
    · have hnx := fun ty => Lib.run_next_any_at (P := Tryd.prog) wr w.heap.size s k ty hit hlt
      rw [wd_dec] at hnx
      have h1 := wd_pos (s.data.toList.drop k)
      have h2 := wd_room s k hlt
      have hit2 := Lib.iterAt_heap wr w.heap.size s k (k + wd (s.data.toList.drop k)) hit
      have hbel2 := Lib.below_iterAt hbel (k := w.heap.size) (Nat.le_refl _) s (k + wd (s.data.toList.drop k))
      rw [rowL_step _ _ (drop_ne s k hlt), List.drop_drop, raw_dec] at hrow
      have HT2 := hide (HT.out.below hbel2)
      have HC := hide (fun W (hW : Tabs W) => inNameT_k ((Utf8.decode s k).1 : Int) W hW)
      have hz : w.heap.size < (wr.iterAt w.heap.size s (k + wd (s.data.toList.drop k))).heap.size := (Array.getElem?_eq_some_iff.1 hit2).1
      generalize ((Utf8.decode s k).1 : Int) = dr at *
      generalize wd (s.data.toList.drop k) = ww at *
      have HB := hide hbel2
      have HI := hide hit2
      have HRW := hide hrow
      clear hbel2 hit2 hrow
      generalize hp : isNm dr = pp at *
      clear hp
      cases pp
      · go_wp2_with (go_at_call 53; refine (HC.out _ HT2.out).mono ?_; clear HC; rintro e w2 ⟨rfl, b2⟩; have B2 := hide b2; clear b2)
        go_ret
        have e := HRW.out
        rw [if_neg (by decide), Nat.add_zero] at e
        exact ⟨kret_int (by rw [← e]), ktrans HB.out B2.out⟩
      · go_wp2_with (go_at_call 53; refine (HC.out _ HT2.out).mono ?_; clear HC; rintro e w2 ⟨rfl, b2⟩; have B2 := hide b2; clear b2)
        go_roundw
        case rel => exact ⟨k + ww, h2, by have e := HRW.out; rw [if_pos trivial] at e; rw [← e]; omega, (B2.out.block _ hz).trans HI.out, ktrans HB.out B2.out⟩
        case measure =>
          have hp : World.iterPos w2 w.heap.size = k + ww := by simp only [World.iterPos, (B2.out.block _ hz).trans HI.out]
          rw [hp, hpos]
          omega
    · have hnx := fun ty => Lib.run_next_end_at (P := Tryd.prog) wr w.heap.size s k ty hit hlt
      rw [drop_end s k hlt, rowL_nil] at hrow
      have hk' : k = s.size := by omega
      subst hk'
      have HRW := hide hrow
      clear hrow
      go_wp2
      go_ret
      exact ⟨kret_int (by have := HRW.out; rw [← this]; rfl), hbel⟩

set_option maxRecDepth 100000 in
set_option maxHeartbeats 2000000 in
theorem rowLetter_k (s : ByteArray) (_hs : s.size ≤ 4294967296) (w : World) (hT : Tabs w) :
    Calls Tryd.prog 31 #[.string s, .func (.func 33) #[] #[]] w fun e w' => e = .returned (.int .i64 (rowL isLetter s.data.toList)) ∧ Below w.heap.size w w' := by
  have hrg := fun w' => run_range_string (P := Tryd.prog) w' 9 s Tryd.underlying9
  have hlen : s.data.toList.length = s.size := by rw [Array.length_toList]; rfl
  have HL := hide hlen
  clear hlen
  have HT := hide hT
  clear hT
  go_enter Tryd.func31, Tryd.ntmps31
  go_wp2
  go_loopw [5, 6] (fun _ _ wr => ∃ k : Nat, k ≤ s.size ∧ k + rowL isLetter (s.data.toList.drop k) = rowL isLetter s.data.toList ∧ wr.heap[w.heap.size]? = some (.stringIter s k) ∧ Below w.heap.size w wr)
    (fun _ _ wr => s.size - wr.iterPos w.heap.size)
  case atStart => exact ⟨0, Nat.zero_le _, by rw [List.drop_zero, Nat.zero_add], World.iter_heap w s 0, (Below.refl _ w).alloc (Nat.le_refl _) _⟩
  case round =>
    obtain ⟨k, hk, hrow, hit, hbel⟩ := hrel
    have hpos : wr.iterPos w.heap.size = k := by simp [World.iterPos, hit]
    clear hrg
    by_cases hlt : k < s.size
    · have hnx := fun ty => Lib.run_next_any_at (P := Tryd.prog) wr w.heap.size s k ty hit hlt
      rw [wd_dec] at hnx
      have h1 := wd_pos (s.data.toList.drop k)
      have h2 := wd_room s k hlt
      have hit2 := Lib.iterAt_heap wr w.heap.size s k (k + wd (s.data.toList.drop k)) hit
      have hbel2 := Lib.below_iterAt hbel (k := w.heap.size) (Nat.le_refl _) s (k + wd (s.data.toList.drop k))
      rw [rowL_step _ _ (drop_ne s k hlt), List.drop_drop, raw_dec] at hrow
      have HT2 := hide (HT.out.below hbel2)
      have HC := hide (fun W (hW : Tabs W) => letter_k ((Utf8.decode s k).1 : Int) W hW)
      have hz : w.heap.size < (wr.iterAt w.heap.size s (k + wd (s.data.toList.drop k))).heap.size := (Array.getElem?_eq_some_iff.1 hit2).1
      generalize ((Utf8.decode s k).1 : Int) = dr at *
      generalize wd (s.data.toList.drop k) = ww at *
      have HB := hide hbel2
      have HI := hide hit2
      have HRW := hide hrow
      clear hbel2 hit2 hrow
      generalize hp : isLetter dr = pp at *
      clear hp
      cases pp
      · go_wp2_with (go_at_call 33; refine (HC.out _ HT2.out).mono ?_; clear HC; rintro e w2 ⟨rfl, b2⟩; have B2 := hide b2; clear b2)
        go_ret
        have e := HRW.out
        rw [if_neg (by decide), Nat.add_zero] at e
        exact ⟨kret_int (by rw [← e]), ktrans HB.out B2.out⟩
      · go_wp2_with (go_at_call 33; refine (HC.out _ HT2.out).mono ?_; clear HC; rintro e w2 ⟨rfl, b2⟩; have B2 := hide b2; clear b2)
        go_roundw
        case rel => exact ⟨k + ww, h2, by have e := HRW.out; rw [if_pos trivial] at e; rw [← e]; omega, (B2.out.block _ hz).trans HI.out, ktrans HB.out B2.out⟩
        case measure =>
          have hp : World.iterPos w2 w.heap.size = k + ww := by simp only [World.iterPos, (B2.out.block _ hz).trans HI.out]
          rw [hp, hpos]
          omega
    · have hnx := fun ty => Lib.run_next_end_at (P := Tryd.prog) wr w.heap.size s k ty hit hlt
      rw [drop_end s k hlt, rowL_nil] at hrow
      have hk' : k = s.size := by omega
      subst hk'
      have HRW := hide hrow
      clear hrow
      go_wp2
      go_ret
      exact ⟨kret_int (by have := HRW.out; rw [← this]; rfl), hbel⟩

end Go.Proofs.YthpkjehoogodkaaDoor
