/- What leans on the table of letters alone. -/
import Derived.Test.YtooddjfkibbkeaaDoorGFld
namespace Go.Proofs.YtooddjfkibbkeaaDoor
open Go.RowKit

/-- The table of letters, as the program's text lays it. -/
structure TabL (w : World) : Prop where
  lets : ∃ t z, w.heap[0]? = some (.cells #[.int .i32 65, .int .i32 90, .int .i32 95, .int .i32 95, .int .i32 97, .int .i32 122, .int .i32 192, .int .i32 214, .int .i32 216, .int .i32 246, .int .i32 248, .int .i32 591, .int .i32 913, .int .i32 929, .int .i32 931, .int .i32 969] t z)
theorem TabL.room {w : World} (h : TabL w) : 0 < w.heap.size ∧ 0 < w.heap.size := by
  obtain ⟨t', z', e'⟩ := h.lets
  exact ⟨(Array.getElem?_eq_some_iff.1 e').1, (Array.getElem?_eq_some_iff.1 e').1⟩
theorem TabL.below {w w' : World} (h : TabL w) (hb : Below w.heap.size w w') : TabL w' := by
  obtain ⟨t', z', e'⟩ := h.lets
  exact ⟨⟨t', z', (hb.block _ (Array.getElem?_eq_some_iff.1 e').1).trans e'⟩⟩
theorem TabL.grown {w w' : World} {r : Nat} (h : TabL w) (hg : w.grownBy w' (some r)) (h1 : 0 ≠ r) (_h2 : 0 ≠ r) : TabL w' := by
  obtain ⟨t', z', e'⟩ := h.lets
  exact ⟨⟨t', z', (hg.block _ (Array.getElem?_eq_some_iff.1 e').1 (by simpa using h1)).trans e'⟩⟩
set_option maxRecDepth 100000 in
set_option maxHeartbeats 2000000 in
theorem letterL_k (r : Int) (w : World) (ht : TabL w) :
    Calls Tryd.prog 77 #[.int .i32 r] w fun e w' => e = .returned (.bool (isLetter r)) ∧ Below w.heap.size w w' := by
  obtain ⟨tt, zz, hg⟩ := ht.lets
  have c0 : w.cell? ⟨0, 0, none⟩ = some (.int .i32 65) := by simp [World.cell?, hg]
  have c1 : w.cell? ⟨0, 1, none⟩ = some (.int .i32 90) := by simp [World.cell?, hg]
  have c2 : w.cell? ⟨0, 2, none⟩ = some (.int .i32 95) := by simp [World.cell?, hg]
  have c3 : w.cell? ⟨0, 3, none⟩ = some (.int .i32 95) := by simp [World.cell?, hg]
  have c4 : w.cell? ⟨0, 4, none⟩ = some (.int .i32 97) := by simp [World.cell?, hg]
  have c5 : w.cell? ⟨0, 5, none⟩ = some (.int .i32 122) := by simp [World.cell?, hg]
  have c6 : w.cell? ⟨0, 6, none⟩ = some (.int .i32 192) := by simp [World.cell?, hg]
  have c7 : w.cell? ⟨0, 7, none⟩ = some (.int .i32 214) := by simp [World.cell?, hg]
  have c8 : w.cell? ⟨0, 8, none⟩ = some (.int .i32 216) := by simp [World.cell?, hg]
  have c9 : w.cell? ⟨0, 9, none⟩ = some (.int .i32 246) := by simp [World.cell?, hg]
  have c10 : w.cell? ⟨0, 10, none⟩ = some (.int .i32 248) := by simp [World.cell?, hg]
  have c11 : w.cell? ⟨0, 11, none⟩ = some (.int .i32 591) := by simp [World.cell?, hg]
  have c12 : w.cell? ⟨0, 12, none⟩ = some (.int .i32 913) := by simp [World.cell?, hg]
  have c13 : w.cell? ⟨0, 13, none⟩ = some (.int .i32 929) := by simp [World.cell?, hg]
  have c14 : w.cell? ⟨0, 14, none⟩ = some (.int .i32 931) := by simp [World.cell?, hg]
  have c15 : w.cell? ⟨0, 15, none⟩ = some (.int .i32 969) := by simp [World.cell?, hg]
  go_enter Tryd.func77, Tryd.ntmps77
  go_wp2
  clear c0 c1 c2 c3 c4 c5 c6 c7 c8 c9 c10 c11 c12 c13 c14 c15 hg
  go_loopw [4, 6] (fun _ v wr => ∃ j : Nat, v = .int .i64 (j : Int) ∧ j ≤ 8 ∧ (spans.take j).any (inSpan r) = false ∧ Below w.heap.size w wr)
    (fun _ v _ => 8 - (Lib.intOf v).toNat)
  case atStart => exact ⟨0, rfl, by omega, rfl, Below.refl _ _⟩
  case round =>
    obtain ⟨j, rfl, hj, hno, hbel⟩ := hrel
    by_cases hj8 : j < 8
    · have hcs : j = 0 ∨ j = 1 ∨ j = 2 ∨ j = 3 ∨ j = 4 ∨ j = 5 ∨ j = 6 ∨ j = 7 := by omega
      rcases hcs with rfl | rfl | rfl | rfl | rfl | rfl | rfl | rfl
      · have hix := idxS0
        by_cases a1 : 65 ≤ r
        · by_cases a2 : r ≤ 90
          · go_wp2
            go_ret
            refine ⟨?_, hbel.alloc hbel.size _⟩
            have : isLetter r = true := by
              unfold isLetter
              exact List.any_eq_true.2 ⟨(65, 90), by decide, by simp [inSpan, a1, a2]⟩
            rw [this]
            rfl
          · go_wp2
            go_roundw
            case rel => exact ⟨1, rfl, by omega, by simp only [spans, List.take, List.any] at hno ⊢; simp [inSpan, a1, a2] at hno ⊢; try exact hno, hbel.alloc hbel.size _⟩
            case measure => simp [Lib.intOf]
        · go_wp2
          go_roundw
          case rel => exact ⟨1, rfl, by omega, by simp only [spans, List.take, List.any] at hno ⊢; simp [inSpan, a1] at hno ⊢; try exact hno, hbel.alloc hbel.size _⟩
          case measure => simp [Lib.intOf]
      · have hix := idxS1
        by_cases a1 : 95 ≤ r
        · by_cases a2 : r ≤ 95
          · go_wp2
            go_ret
            refine ⟨?_, hbel.alloc hbel.size _⟩
            have : isLetter r = true := by
              unfold isLetter
              exact List.any_eq_true.2 ⟨(95, 95), by decide, by simp [inSpan, a1, a2]⟩
            rw [this]
            rfl
          · go_wp2
            go_roundw
            case rel => exact ⟨2, rfl, by omega, by simp only [spans, List.take, List.any] at hno ⊢; simp [inSpan, a1, a2] at hno ⊢; try exact hno, hbel.alloc hbel.size _⟩
            case measure => simp [Lib.intOf]
        · go_wp2
          go_roundw
          case rel => exact ⟨2, rfl, by omega, by simp only [spans, List.take, List.any] at hno ⊢; simp [inSpan, a1] at hno ⊢; try exact hno, hbel.alloc hbel.size _⟩
          case measure => simp [Lib.intOf]
      · have hix := idxS2
        by_cases a1 : 97 ≤ r
        · by_cases a2 : r ≤ 122
          · go_wp2
            go_ret
            refine ⟨?_, hbel.alloc hbel.size _⟩
            have : isLetter r = true := by
              unfold isLetter
              exact List.any_eq_true.2 ⟨(97, 122), by decide, by simp [inSpan, a1, a2]⟩
            rw [this]
            rfl
          · go_wp2
            go_roundw
            case rel => exact ⟨3, rfl, by omega, by simp only [spans, List.take, List.any] at hno ⊢; simp [inSpan, a1, a2] at hno ⊢; try exact hno, hbel.alloc hbel.size _⟩
            case measure => simp [Lib.intOf]
        · go_wp2
          go_roundw
          case rel => exact ⟨3, rfl, by omega, by simp only [spans, List.take, List.any] at hno ⊢; simp [inSpan, a1] at hno ⊢; try exact hno, hbel.alloc hbel.size _⟩
          case measure => simp [Lib.intOf]
      · have hix := idxS3
        by_cases a1 : 192 ≤ r
        · by_cases a2 : r ≤ 214
          · go_wp2
            go_ret
            refine ⟨?_, hbel.alloc hbel.size _⟩
            have : isLetter r = true := by
              unfold isLetter
              exact List.any_eq_true.2 ⟨(192, 214), by decide, by simp [inSpan, a1, a2]⟩
            rw [this]
            rfl
          · go_wp2
            go_roundw
            case rel => exact ⟨4, rfl, by omega, by simp only [spans, List.take, List.any] at hno ⊢; simp [inSpan, a1, a2] at hno ⊢; try exact hno, hbel.alloc hbel.size _⟩
            case measure => simp [Lib.intOf]
        · go_wp2
          go_roundw
          case rel => exact ⟨4, rfl, by omega, by simp only [spans, List.take, List.any] at hno ⊢; simp [inSpan, a1] at hno ⊢; try exact hno, hbel.alloc hbel.size _⟩
          case measure => simp [Lib.intOf]
      · have hix := idxS4
        by_cases a1 : 216 ≤ r
        · by_cases a2 : r ≤ 246
          · go_wp2
            go_ret
            refine ⟨?_, hbel.alloc hbel.size _⟩
            have : isLetter r = true := by
              unfold isLetter
              exact List.any_eq_true.2 ⟨(216, 246), by decide, by simp [inSpan, a1, a2]⟩
            rw [this]
            rfl
          · go_wp2
            go_roundw
            case rel => exact ⟨5, rfl, by omega, by simp only [spans, List.take, List.any] at hno ⊢; simp [inSpan, a1, a2] at hno ⊢; try exact hno, hbel.alloc hbel.size _⟩
            case measure => simp [Lib.intOf]
        · go_wp2
          go_roundw
          case rel => exact ⟨5, rfl, by omega, by simp only [spans, List.take, List.any] at hno ⊢; simp [inSpan, a1] at hno ⊢; try exact hno, hbel.alloc hbel.size _⟩
          case measure => simp [Lib.intOf]
      · have hix := idxS5
        by_cases a1 : 248 ≤ r
        · by_cases a2 : r ≤ 591
          · go_wp2
            go_ret
            refine ⟨?_, hbel.alloc hbel.size _⟩
            have : isLetter r = true := by
              unfold isLetter
              exact List.any_eq_true.2 ⟨(248, 591), by decide, by simp [inSpan, a1, a2]⟩
            rw [this]
            rfl
          · go_wp2
            go_roundw
            case rel => exact ⟨6, rfl, by omega, by simp only [spans, List.take, List.any] at hno ⊢; simp [inSpan, a1, a2] at hno ⊢; try exact hno, hbel.alloc hbel.size _⟩
            case measure => simp [Lib.intOf]
        · go_wp2
          go_roundw
          case rel => exact ⟨6, rfl, by omega, by simp only [spans, List.take, List.any] at hno ⊢; simp [inSpan, a1] at hno ⊢; try exact hno, hbel.alloc hbel.size _⟩
          case measure => simp [Lib.intOf]
      · have hix := idxS6
        by_cases a1 : 913 ≤ r
        · by_cases a2 : r ≤ 929
          · go_wp2
            go_ret
            refine ⟨?_, hbel.alloc hbel.size _⟩
            have : isLetter r = true := by
              unfold isLetter
              exact List.any_eq_true.2 ⟨(913, 929), by decide, by simp [inSpan, a1, a2]⟩
            rw [this]
            rfl
          · go_wp2
            go_roundw
            case rel => exact ⟨7, rfl, by omega, by simp only [spans, List.take, List.any] at hno ⊢; simp [inSpan, a1, a2] at hno ⊢; try exact hno, hbel.alloc hbel.size _⟩
            case measure => simp [Lib.intOf]
        · go_wp2
          go_roundw
          case rel => exact ⟨7, rfl, by omega, by simp only [spans, List.take, List.any] at hno ⊢; simp [inSpan, a1] at hno ⊢; try exact hno, hbel.alloc hbel.size _⟩
          case measure => simp [Lib.intOf]
      · have hix := idxS7
        by_cases a1 : 931 ≤ r
        · by_cases a2 : r ≤ 969
          · go_wp2
            go_ret
            refine ⟨?_, hbel.alloc hbel.size _⟩
            have : isLetter r = true := by
              unfold isLetter
              exact List.any_eq_true.2 ⟨(931, 969), by decide, by simp [inSpan, a1, a2]⟩
            rw [this]
            rfl
          · go_wp2
            go_roundw
            case rel => exact ⟨8, rfl, by omega, by simp only [spans, List.take, List.any] at hno ⊢; simp [inSpan, a1, a2] at hno ⊢; try exact hno, hbel.alloc hbel.size _⟩
            case measure => simp [Lib.intOf]
        · go_wp2
          go_roundw
          case rel => exact ⟨8, rfl, by omega, by simp only [spans, List.take, List.any] at hno ⊢; simp [inSpan, a1] at hno ⊢; try exact hno, hbel.alloc hbel.size _⟩
          case measure => simp [Lib.intOf]
    · have h8 : j = 8 := by omega
      subst h8
      go_wp2
      go_ret
      refine ⟨?_, hbel⟩
      have : isLetter r = false := hno
      rw [this]
      rfl
theorem letterL_is (r : Int) (b : Bool) (h : isLetter r = b) (w : World) (ht : TabL w) : Calls Tryd.prog 77 #[.int .i32 r] w fun e w' => e = .returned (.bool b) ∧ Below w.heap.size w w' := by
  rw [← h]
  exact letterL_k r w ht
set_option maxRecDepth 100000 in
set_option maxHeartbeats 2000000 in
theorem nameL_k (s : ByteArray) (hs : s.size ≤ 281474976702464) (w : World) (ht : TabL w) :
    Calls Tryd.prog 73 #[.string s] w fun e w' => e = .returned (.int .i64 (nameE s.data.toList)) ∧ Below w.heap.size w w' := by
  have hlen : s.data.toList.length = s.size := by rw [Array.length_toList]; rfl
  by_cases h0 : s.data.toList = []
  · have e : nameE s.data.toList = 21 := by unfold nameE; rw [if_pos (.inl h0)]
    rw [e]
    have hs0 : s = ⟨#[]⟩ := by rw [← str_bytes s, h0]; rfl
    subst hs0
    go_enter Tryd.func73, Tryd.ntmps73
    go_wp2
    go_ret
    exact ⟨rfl, Below.refl _ _⟩
  · have hne : (s.toList == (⟨#[]⟩ : ByteArray).toList) = false := by
      rw [Lib.toList_data, Lib.toList_data]
      simpa using h0
    have hne2 : (s.toList == ([] : List UInt8)) = false := by
      rw [Lib.toList_data]
      simpa using h0
    have hwid := width_k s hs w
    have hru0 := ru_length_le s.data.toList
    by_cases h32 : 32 < (ru s.data.toList).length
    · have e : nameE s.data.toList = 21 := by unfold nameE; rw [if_pos (.inr h32)]
      rw [e]
      clear e
      generalize (ru s.data.toList).length = m at *
      have h32i : (32 : Int) < (m : Int) := by omega
      go_enter Tryd.func73, Tryd.ntmps73
      go_wp2_with (go_at_call 76; refine hwid.mono ?_; rintro e w1 ⟨rfl, hb1⟩)
      go_ret
      exact ⟨rfl, hb1⟩
    · have e : nameE s.data.toList = if okR true (ru s.data.toList) = true then 0 else 21 := by unfold nameE; rw [if_neg (fun h => h.elim h0 h32)]
      rw [e]
      clear e
      have hwid' : Calls Tryd.prog 76 #[.string s] w fun e w' => ∃ m : Nat, m ≤ 32 ∧ e = .returned (.int .i64 (m : Int)) ∧ Below w.heap.size w w' := by
        refine hwid.mono ?_
        rintro e w' ⟨rfl, hb⟩
        exact ⟨_, by omega, rfl, hb⟩
      have hrg := fun w' => run_range_string (P := Tryd.prog) w' 9 s Tryd.underlying9
      clear hwid
      go_enter Tryd.func73, Tryd.ntmps73
      go_wp2_with (go_at_call 76; refine hwid'.mono ?_; rintro e w1 ⟨m, hm, rfl, hb1⟩)
      go_loopw [3, 4] (fun _ _ wr => ∃ k : Nat, k ≤ s.size ∧ okR true (ru s.data.toList) = okR (decide (k = 0)) (ru (s.data.toList.drop k)) ∧ wr.heap[w1.heap.size]? = some (.stringIter s k) ∧ Below w1.heap.size w1 wr)
        (fun _ _ wr => s.size - wr.iterPos w1.heap.size)
      case atStart => exact ⟨0, Nat.zero_le _, rfl, World.iter_heap w1 s 0, (Below.refl _ w1).alloc (Nat.le_refl _) _⟩
      case round =>
        obtain ⟨k, hk, hok, hit, hbel⟩ := hrel
        have hpos : wr.iterPos w1.heap.size = k := by simp [World.iterPos, hit]
        clear hrg hwid'
        have ht1 := (ht.below hb1).below hbel
        by_cases hlt : k < s.size
        · have hnx := fun ty => Lib.run_next_any_at (P := Tryd.prog) wr w1.heap.size s k ty hit hlt
          rw [wd_dec] at hnx
          have q1 := wd_pos (s.data.toList.drop k)
          have q2 := wd_room s k hlt
          have hit2 := Lib.iterAt_heap wr w1.heap.size s k (k + wd (s.data.toList.drop k)) hit
          have hbel2 := Lib.below_iterAt hbel (k := w1.heap.size) (Nat.le_refl _) s (k + wd (s.data.toList.drop k))
          have hraw := raw_dec s k
          have hsz : w1.heap.size < wr.heap.size := (Array.getElem?_eq_some_iff.1 hit).1
          have ht2 : TabL (wr.iterAt w1.heap.size s (k + wd (s.data.toList.drop k))) := (ht.below hb1).below hbel2
          rw [ru_step _ (drop_ne s k hlt), List.drop_drop, okR] at hok
          dsimp only at hok
          rw [hraw] at hok
          clear hraw
          generalize (Utf8.decode s k).1 = dr at *
          generalize wd (s.data.toList.drop k) = ww at *
          have fin : ∀ w2, Below (wr.iterAt w1.heap.size s (k + ww)).heap.size (wr.iterAt w1.heap.size s (k + ww)) w2 → w2.heap[w1.heap.size]? = some (.stringIter s (k + ww)) ∧ Below w1.heap.size w1 w2 ∧ s.size - w2.iterPos w1.heap.size < s.size - wr.iterPos w1.heap.size := by
            intro w2 hb2
            have h3 : w2.heap[w1.heap.size]? = some (.stringIter s (k + ww)) := (hb2.block _ (by rw [Lib.iterAt_size]; omega)).trans hit2
            refine ⟨h3, hbel2.trans (hb2.mono (by rw [Lib.iterAt_size]; omega)), ?_⟩
            have hp : w2.iterPos w1.heap.size = k + ww := by simp only [World.iterPos, h3]
            rw [hp, hpos]
            omega
          cases hl : isLetter (dr : Int) with
          | true =>
            rw [hl, Bool.true_or, Bool.true_and] at hok
            go_wp2_with (go_at_call 77; refine (letterL_is _ true hl _ ht2).mono ?_; rintro e w2 ⟨rfl, hb2⟩)
            obtain ⟨f1, f2, f3⟩ := fin w2 hb2
            go_roundw
            case rel =>
              refine ⟨k + ww, q2, ?_, f1, f2⟩
              rw [hok]
              congr 1
              simp
              omega
            case measure => exact f3
          | false =>
            rw [hl, Bool.false_or] at hok
            by_cases hk0 : k = 0
            · have hd : decide (k = 0) = true := by simp [hk0]
              have hki : ((k : Int) == 0) = true := by simp; exact hk0
              rw [hd] at hok
              simp at hok
              rw [hok]
              clear hk0 hd
              go_wp2_with (go_at_call 77; refine (letterL_is _ false hl _ ht2).mono ?_; rintro e w2 ⟨rfl, hb2⟩)
              all_goals
                obtain ⟨f1, f2, f3⟩ := fin w2 hb2
                go_ret
                exact ⟨rfl, hb1.trans (f2.mono hb1.size)⟩
            · have hd : decide (k = 0) = false := by simp [hk0]
              rw [hd, Bool.not_false, Bool.true_and] at hok
              have hki : ((k : Int) == 0) = false := by simp; exact hk0
              cases hm2 : mayF (dr : Int) with
              | true =>
                rw [hm2, Bool.true_and] at hok
                go_wp2_with (first
                  | (go_at_call 77; refine (letterL_is _ false hl _ ht2).mono ?_; rintro e w2 ⟨rfl, hb2⟩)
                  | (go_at_call 78; refine (may_is _ true hm2 _).mono ?_; rintro e w3 ⟨rfl, rfl⟩))
                obtain ⟨f1, f2, f3⟩ := fin w2 hb2
                go_roundw
                case rel =>
                  refine ⟨k + ww, q2, ?_, f1, f2⟩
                  rw [hok]
                  congr 1
                  simp
                  omega
                case measure => exact f3
              | false =>
                rw [hm2, Bool.false_and] at hok
                rw [hok]
                go_wp2_with (first
                  | (go_at_call 77; refine (letterL_is _ false hl _ ht2).mono ?_; rintro e w2 ⟨rfl, hb2⟩)
                  | (go_at_call 78; refine (may_is _ false hm2 _).mono ?_; rintro e w3 ⟨rfl, rfl⟩))
                all_goals
                  obtain ⟨f1, f2, f3⟩ := fin w2 hb2
                  go_ret
                  exact ⟨rfl, hb1.trans (f2.mono hb1.size)⟩
        · have hnx := fun ty => Lib.run_next_end_at (P := Tryd.prog) wr w1.heap.size s k ty hit hlt
          rw [drop_end s k hlt, ru_nil, okR] at hok
          rw [hok]
          go_wp2
          go_ret
          exact ⟨rfl, hb1.trans (hbel.mono hb1.size)⟩
set_option maxRecDepth 100000 in
theorem symbolTextL_k (t : ByteArray) (ht : t.size ≤ 281474976702464) (w : World) (hT : TabL w) :
    Calls Tryd.prog 83 #[.string t] w fun e w' => e = .returned (.bool (symB t)) ∧ Below w.heap.size w w' := by
  unfold symB
  have HN := hide (nameL_k t ht w hT)
  generalize nameE t.data.toList = x at *
  cases h1 : (t.toList == [116, 114, 117, 101])
  · cases h2 : (t.toList == [102, 97, 108, 115, 101])
    · go_enter Tryd.func83, Tryd.ntmps83
      go_wp2_with (go_at_call 73; refine HN.out.mono ?_; clear HN; rintro e w1 ⟨rfl, b1⟩)
      go_ret
      exact ⟨rfl, b1⟩
    · go_enter Tryd.func83, Tryd.ntmps83
      go_wp2
      go_ret
      exact ⟨rfl, Below.refl _ _⟩
  · go_enter Tryd.func83, Tryd.ntmps83
    go_wp2
    go_ret
    exact ⟨rfl, Below.refl _ _⟩
set_option maxRecDepth 100000 in
set_option maxHeartbeats 4000000 in
theorem fieldsRightL_k (v : Vl) (a : Option Addr) (n c : Nat) (ht : v.text.size ≤ 281474976702464) (w : World) (hT : TabL w) :
    Calls Tryd.prog 81 #[.agg (vcells v (.slice a n c))] w fun e w' => e = .returned (.bool (goodB v)) ∧ Below w.heap.size w w' := by
  have HS := hide (fun (W : World) (b : Below w.heap.size w W) => symbolTextL_k v.text ht W (hT.below b))
  obtain ⟨k, i, m, t, l⟩ := v
  unfold goodB
  simp only at *
  clear ht hT
  by_cases h2 : k = 2 ∨ k = 5 ∨ k = 6 ∨ k = 7
  · rw [if_pos h2]
    rcases h2 with rfl | rfl | rfl | rfl
    all_goals
      go_enter Tryd.func81, Tryd.ntmps81
      go_wp2
      go_ret
      exact ⟨rfl, alloc_v (Below.refl _ _) _⟩
  · rw [if_neg h2]
    by_cases h1 : k = 1
    · rw [if_pos h1]
      subst h1
      by_cases e0 : i = 0
      · subst e0
        go_enter Tryd.func81, Tryd.ntmps81
        go_wp2
        go_ret
        exact ⟨rfl, alloc_v (Below.refl _ _) _⟩
      · have e0' : (i == 0) = false := by simp [e0]
        go_enter Tryd.func81, Tryd.ntmps81
        go_wp2
        go_ret
        exact ⟨by rw [e0', Bool.false_or]; rfl, alloc_v (Below.refl _ _) _⟩
    · rw [if_neg h1]
      by_cases h4 : k = 4
      · rw [if_pos h4]
        subst h4
        go_enter Tryd.func81, Tryd.ntmps81
        go_wp2_with (go_at_call 83; refine (HS.out _ (alloc_v (Below.refl _ _) _)).mono ?_; clear HS; rintro e w1 ⟨rfl, b1⟩)
        go_ret
        exact ⟨rfl, trans_v (alloc_v (Below.refl _ _) _) b1⟩
      · rw [if_neg h4]
        by_cases h3 : k = 3
        · rw [if_pos h3]
          subst h3
          have HI := hide (fun W => inRange_k i W)
          have HM := hide (fun W => inRange_k m W)
          generalize (decide (-1048576 ≤ i) && decide (i ≤ 1048576)) = x at *
          generalize (decide (-1048576 ≤ m) && decide (m ≤ 1048576)) = y at *
          cases x
          · go_enter Tryd.func81, Tryd.ntmps81
            go_wp2_with (go_at_call 84; refine (HI.out _).mono ?_; clear HI; rintro e w1 ⟨rfl, rfl⟩)
            go_ret
            exact ⟨rfl, alloc_v (Below.refl _ _) _⟩
          · go_enter Tryd.func81, Tryd.ntmps81
            go_wp2_with (first
              | (go_at_call 84; refine (HI.out _).mono ?_; clear HI; rintro e w1 ⟨rfl, rfl⟩)
              | (go_at_call 84; refine (HM.out _).mono ?_; clear HM; rintro e w1 ⟨rfl, rfl⟩))
            go_ret
            exact ⟨rfl, alloc_v (Below.refl _ _) _⟩
        · rw [if_neg h3]
          have k1 : (k == 1) = false := by simp [h1]
          have k2 : (k == 2) = false := by simp; omega
          have k3 : (k == 3) = false := by simp [h3]
          have k4 : (k == 4) = false := by simp [h4]
          have k5 : (k == 5) = false := by simp; omega
          have k6 : (k == 6) = false := by simp; omega
          have k7 : (k == 7) = false := by simp; omega
          clear h1 h2 h3 h4
          go_enter Tryd.func81, Tryd.ntmps81
          go_wp2
          go_ret
          exact ⟨rfl, alloc_v (Below.refl _ _) _⟩
/-- What rightWithin answers with so many levels. -/
def RightCL (L : Nat) : Prop := ∀ (v : Vl) (w : World) (B n rb room : Nat) (sl : Value), L ≤ 16 → room ≤ 4096 → B ≤ rb → rb < w.heap.size → 0 < B → 0 < B → TabL w → v.text.size ≤ 1048576 → ItemsAt w B n sl v.items →
  w.heap[rb]? = some (.cells #[.int .i64 (room : Int)] 3 (0, 0)) →
  Calls Tryd.prog 79 #[.agg (vcells v sl), .int .i64 (L : Int), .pointer (some ⟨rb, 0, none⟩)] w fun e w' => e = .returned (.bool (rw L v room).1) ∧
    w'.heap[rb]? = some (.cells #[.int .i64 ((rw L v room).2 : Int)] 3 (0, 0)) ∧ w.grownBy w' (some rb)
set_option maxRecDepth 100000 in
theorem rightL_zero : RightCL 0 := by
  intro v w B n rb room sl _ _ _ _ _ _ _ _ hs hr
  obtain ⟨a, c, rfl, _⟩ := hs.len
  have HR := hide hr
  clear hs hr
  go_enter Tryd.func79, Tryd.ntmps79
  go_wp2
  go_ret
  exact ⟨rfl, (Below.heap_alloc _ _ _ (Array.getElem?_eq_some_iff.1 HR.out).1).trans HR.out, grown_of_below (alloc_v (Below.refl _ _) _)⟩
set_option maxRecDepth 100000 in
set_option maxHeartbeats 4000000 in
theorem rightL_step {L : Nat} (hL : RightCL L) : RightCL (L + 1) := by
  intro v w B n rb room sl h16 hroom hBr hrb hg1 hg2 hT htx hs hr
  obtain ⟨n, rfl⟩ := hs.pos
  have HS := hide hs
  obtain ⟨a, c, rfl, hla⟩ := hs.len
  unfold maxLen at hla
  have r0 := cells_at hr 0 _ rfl
  have r1 := frozen_at hr 0
  obtain ⟨lv, hlv⟩ : ∃ lv : Int, ((L + 1 : Nat) : Int) = lv := ⟨_, rfl⟩
  have lv0 : (lv == 0) = false := by simp; omega
  have lv1 : lv - 1 = (L : Int) := by omega
  rw [hlv]
  by_cases hr0 : room = 0
  · subst hr0
    rw [rw_room]
    have HR := hide hr
    clear hs hr hL hlv
    go_enter Tryd.func79, Tryd.ntmps79
    go_wp2
    go_ret
    exact ⟨rfl, (Below.heap_alloc _ _ _ hrb).trans HR.out, grown_of_below (alloc_v (Below.refl _ _) _)⟩
  · have hr00 : ((room : Int) == 0) = false := by simp; omega
    have hrp : 0 < room := by omega
    have ne : w.heap.size ≠ rb := by omega
    obtain ⟨W2, hW2⟩ : ∃ W2, (w.alloc (.cells (vcells v (.slice a v.items.length c)) 42)).setCell ⟨rb, 0, none⟩ (.int .i64 ((room : Int) - 1)) = W2 := ⟨_, rfl⟩
    have hrA : (w.alloc (.cells (vcells v (.slice a v.items.length c)) 42)).heap[rb]? = some (.cells #[.int .i64 (room : Int)] 3 (0, 0)) := (Below.heap_alloc _ _ _ hrb).trans hr
    have hr2 : W2.heap[rb]? = some (.cells #[.int .i64 ((room - 1 : Nat) : Int)] 3 (0, 0)) := by
      rw [← hW2]
      have := Boxed.set (.int .i64 ((room : Int) - 1)) (show Boxed (w.alloc (.cells (vcells v (.slice a v.items.length c)) 42)) rb 3 (.int .i64 (room : Int)) from hrA)
      rw [show ((room - 1 : Nat) : Int) = (room : Int) - 1 by omega]
      exact this
    have G2 : w.grownBy W2 (some rb) := by rw [← hW2]; exact grown_more (grown_of_below (alloc_v (Below.refl _ _) _)) (grownBy_setCell' _ _ _)
    have box2 : W2.heap[w.heap.size]? = some (.cells (vcells v (.slice a v.items.length c)) 42 (0, 0)) := by
      rw [← hW2]
      exact (Below.heap_setCell _ _ _ _ ne).trans (World.alloc_heap_new _ _)
    have hT2 : TabL W2 := hT.grown G2 (by omega) (by omega)
    have HU := hide (fieldsUsed_k v a c W2)
    have HF := hide (fun (W : World) (b : Below W2.heap.size W2 W) => fieldsRightL_k v a v.items.length c (by omega) W (hT2.below b))
    have x0 := cells_at box2 0 _ rfl
    have x1 := cells_at box2 1 _ rfl
    have x2 := cells_at box2 2 _ rfl
    have x3 := cells_at box2 3 _ rfl
    have x4 := cells_at box2 4 _ rfl
    have z2 : w.heap.size < W2.heap.size := (Array.getElem?_eq_some_iff.1 box2).1
    have HBX := hide box2
    have HR2 := hide hr2
    have HG2 := hide G2
    have HT2 := hide hT2
    have HR := hide hr
    clear hs hr hrA hr2 G2 box2 hT2 hT
    cases hu : usedB v
    · have HE := hide (rw_bad L v room hrp (by simp [hu]))
      rw [hu] at HU
      go_enter Tryd.func79, Tryd.ntmps79
      go_wp2_with (go_at_call 80; refine HU.out.mono ?_; clear HU; rintro e w3 ⟨rfl, b3⟩)
      go_ret
      refine ⟨by rw [HE.out]; rfl, ?_, grown_more HG2.out (grown_of_below b3)⟩
      rw [HE.out]
      exact (b3.block _ (Array.getElem?_eq_some_iff.1 HR2.out).1).trans HR2.out
    · rw [hu] at HU
      cases hf : goodB v
      · have HE := hide (rw_bad L v room hrp (by simp [hf]))
        rw [hf] at HF
        go_enter Tryd.func79, Tryd.ntmps79
        go_wp2_with (first
          | (go_at_call 80; refine HU.out.mono ?_; clear HU; rintro e w3 ⟨rfl, b3⟩; have hc3 := (bcellV b3).1)
          | (go_at_call 81; refine (HF.out _ b3).mono ?_; clear HF; rintro e w4 ⟨rfl, b4⟩))
        go_ret
        have b := trans_v b3 b4
        refine ⟨by rw [HE.out]; rfl, ?_, grown_more HG2.out (grown_of_below b)⟩
        rw [HE.out]
        exact (b.block _ (Array.getElem?_eq_some_iff.1 HR2.out).1).trans HR2.out
      · rw [hf] at HF
        have HUG : Hid (usedB v = true ∧ goodB v = true) := hide ⟨hu, hf⟩
        go_enter Tryd.func79, Tryd.ntmps79
        go_wp2_with (first
          | (go_at_call 80; refine HU.out.mono ?_; clear HU; rintro e w3 ⟨rfl, b3⟩; have hc3 := (bcellV b3).1)
          | (go_at_call 81; refine (HF.out _ b3).mono ?_; clear HF; rintro e w4 ⟨rfl, b4⟩; have hc4 := (bcellV (trans_v b3 b4)).1))
        have bb := trans_v b3 b4
        have box4 : w4.heap[w.heap.size]? = some (.cells (vcells v (.slice a v.items.length c)) 42 (0, 0)) := (bb.block _ z2).trans HBX.out
        have r4 := (bb.block _ (Array.getElem?_eq_some_iff.1 HR2.out).1).trans HR2.out
        have G4 := grown_more HG2.out (grown_of_below (r := some rb) bb)
        have T4 := HT2.out.below bb
        have HB4 := hide box4
        have HG4 := hide G4
        have HT4 := hide T4
        have HLL := hide hL
        have hBw : B ≤ w.heap.size := by omega
        have lvb : 1 ≤ lv := by omega
        have lvc : lv ≤ 17 := by omega
        clear b3 b4 bb hc3 hc4 x0 x1 x2 x3 x4 z2 HBX HR2 HG2 HT2 HR hW2 box4 G4 T4 hL hu hf r0 r1 lv0 hr00 hlv
        go_loopw [33] (fun i wr => ∃ k r : Nat, k ≤ v.items.length ∧ i = .int .i64 k ∧ rwL (rw L) (v.items.take k) (room - 1) = (true, r) ∧ wr.heap[rb]? = some (.cells #[.int .i64 (r : Int)] 3 (0, 0)) ∧ w4.grownBy wr (some rb)) (fun i _ => v.items.length - (intOf i).toNat)
        case atStart => exact ⟨0, room - 1, Nat.zero_le _, rfl, rfl, r4, grown_self _ _⟩
        case round =>
          clear r4
          obtain ⟨k, r, hk, rfl, hz, hrr, hgr⟩ := hrel
          have hrle : r ≤ room - 1 := by have := rwL_le (rw_le L) (v.items.take k) (room - 1); rw [hz] at this; exact this
          have gz := HG4.out.size
          have gy := hgr.size
          have Tr : TabL wr := HT4.out.grown hgr (by omega) (by omega)
          by_cases hlt : k < v.items.length
          · obtain ⟨b1, o1, s1, rfl, g1, p0, p1, p2, p3, p4, p5, p6⟩ := (HS.out.grown (grown_more HG4.out hgr) hBr hBw).item k hlt
            have l1 : b1 < wr.heap.size := by omega
            obtain ⟨bo, r', hp⟩ : ∃ bo r', rw L v.items[k] r = (bo, r') := ⟨_, _, rfl⟩
            have HZ := hide (rwL_take (f := rw L) hlt hz)
            have HC := hide (fun (W : World) (b : Below wr.heap.size wr W) => HLL.out v.items[k] W B n rb r s1 (by omega) (by omega) hBr (by have := b.size; omega) hg1 hg2 (Tr.below b) p6.1 (p5.below (b.mono (by omega))) ((b.block _ (by omega)).trans hrr))
            rw [hp] at HC HZ
            obtain ⟨x1, y1, rfl, _⟩ := p5.len
            have HGR := hide hgr
            clear hz p5 p6 hgr hrr Tr hp g1 gz gy
            generalize v.items[k].items = xi at *
            generalize v.items[k] = x at *
            cases bo
            · have HE := hide (rw_no L v room hrp HUG.out (HZ.out.2 rfl))
              go_wp2_with (go_at_call 79; refine (HC.out _ (alloc_v (Below.refl _ _) _)).mono ?_; clear HC; rintro e w5 ⟨rfl, r5, g5⟩; have R5 := hide r5; have G5 := hide g5; clear r5 g5)
              go_ret
              refine ⟨by rw [HE.out]; rfl, by rw [HE.out]; exact R5.out, grown_more (grown_more HG4.out HGR.out) (grown_more (grown_of_below (alloc_v (Below.refl _ _) _)) G5.out)⟩
            · go_wp2_with (go_at_call 79; refine (HC.out _ (alloc_v (Below.refl _ _) _)).mono ?_; clear HC; rintro e w5 ⟨rfl, r5, g5⟩; have R5 := hide r5; have G5 := hide g5; clear r5 g5)
              go_roundw
              case rel => exact ⟨k + 1, r', by omega, by go_num, HZ.out.1 (by trivial), R5.out, grown_more HGR.out (grown_more (grown_of_below (alloc_v (Below.refl _ _) _)) G5.out)⟩
              case measure => simp [intOf]; omega
          · rw [List.take_of_length_le (by omega)] at hz
            have HE := hide (rw_yes L v room hrp HUG.out hz)
            have bx : wr.heap[w.heap.size]? = some (.cells (vcells v (.slice a v.items.length c)) 42 (0, 0)) := (hgr.block _ (Array.getElem?_eq_some_iff.1 HB4.out).1 (by simp; omega)).trans HB4.out
            have x0 := cells_at bx 0 _ rfl
            have x4 := cells_at bx 4 _ rfl
            have HRI := hide (rising_k v.items wr B (n + 1) (.slice a v.items.length c) (by omega) (HS.out.grown (grown_more HG4.out hgr) hBr hBw))
            have HGR := hide hgr
            have HRR := hide hrr
            clear hz hgr hrr Tr bx gz gy
            by_cases h7 : v.kind = 7
            · have h7b : (v.kind != 7) = false := by simp [h7]
              go_wp2_with (go_at_call 82; refine HRI.out.mono ?_; clear HRI; rintro e w5 ⟨rfl, b5⟩; have B5 := hide b5; clear b5)
              go_ret
              refine ⟨by rw [HE.out, h7b]; rfl, by rw [HE.out]; exact (B5.out.block _ (Array.getElem?_eq_some_iff.1 HRR.out).1).trans HRR.out, grown_more (grown_more HG4.out HGR.out) (grown_of_below B5.out)⟩
            · have h7b : (v.kind != 7) = true := by simp [h7]
              go_wp2
              go_ret
              refine ⟨by rw [HE.out, h7b]; rfl, by rw [HE.out]; exact HRR.out, grown_more HG4.out HGR.out⟩
theorem rightWithinL_k : ∀ L, RightCL L
  | 0 => rightL_zero
  | L + 1 => rightL_step (rightWithinL_k L)
set_option maxRecDepth 100000 in
theorem rightL_k (v : Vl) (w : World) (n : Nat) (sl : Value) (hT : TabL w) (htx : v.text.size ≤ 1048576) (hs : ItemsAt w w.heap.size n sl v.items) :
    Calls Tryd.prog 74 #[.agg (vcells v sl)] w fun e w' => e = .returned (.bool (rightV v)) ∧ Below w.heap.size w w' := by
  obtain ⟨W, hW⟩ : ∃ W, (w.alloc (.cells (vcells v sl) 42)).alloc (.cells #[.int .i64 4096] 3) = W := ⟨_, rfl⟩
  have bW : Below w.heap.size w W := by rw [← hW]; exact alloc_v (alloc_v (Below.refl _ _) _) _
  have e1 : W.heap[w.heap.size]? = some (.cells (vcells v sl) 42 (0, 0)) := by rw [← hW]; exact (Below.heap_alloc _ _ _ (by simp)).trans (World.alloc_heap_new w _)
  have e2 : W.heap[w.heap.size + 1]? = some (.cells #[.int .i64 4096] 3 (0, 0)) := by rw [← hW]; have := World.alloc_heap_new (w.alloc (.cells (vcells v sl) 42)) (.cells #[.int .i64 4096] 3); rwa [World.size_alloc] at this
  have zW : w.heap.size + 1 < W.heap.size := (Array.getElem?_eq_some_iff.1 e2).1
  have H := hide (rightWithinL_k 16 v W w.heap.size n (w.heap.size + 1) 4096 sl (Nat.le_refl _) (Nat.le_refl _) (by omega) zW hT.room.1 hT.room.2 (hT.below bW) htx (hs.below bW) e2)
  have x0 := cells_at e1 0 _ rfl
  have x1 := cells_at e1 1 _ rfl
  have x2 := cells_at e1 2 _ rfl
  have x3 := cells_at e1 3 _ rfl
  have x4 := cells_at e1 4 _ rfl
  obtain ⟨a, c, rfl, _⟩ := hs.len
  clear hs e1 e2 hT
  go_enter Tryd.func74, Tryd.ntmps74
  go_wp2_with (go_at_call 79; refine H.out.mono ?_; clear H; rintro e w2 ⟨rfl, _, g2⟩)
  go_ret
  exact ⟨rfl, bW.grown g2 (by have := bW.size; omega) (fun k hk => by cases hk; omega)⟩
set_option maxRecDepth 100000 in
theorem checkL_k (v : Vl) (w : World) (n : Nat) (sl : Value) (hT : TabL w) (htx : v.text.size ≤ 1048576) (hs : ItemsAt w w.heap.size n sl v.items) :
    Calls Tryd.prog 68 #[.agg (vcells v sl)] w fun e w' => e = .returned (.int .i64 (bif rightV v then 0 else 40)) ∧ Below w.heap.size w w' := by
  obtain ⟨W, hW⟩ : ∃ W, w.alloc (.cells (vcells v sl) 42) = W := ⟨_, rfl⟩
  have bW : Below w.heap.size w W := by rw [← hW]; exact alloc_v (Below.refl _ _) _
  have e1 : W.heap[w.heap.size]? = some (.cells (vcells v sl) 42 (0, 0)) := by rw [← hW]; exact World.alloc_heap_new w _
  have x0 := cells_at e1 0 _ rfl
  have x1 := cells_at e1 1 _ rfl
  have x2 := cells_at e1 2 _ rfl
  have x3 := cells_at e1 3 _ rfl
  have x4 := cells_at e1 4 _ rfl
  have HR := hide (rightL_k v W n sl (hT.below bW) htx ((hs.below bW).up bW.size))
  obtain ⟨a, c, rfl, _⟩ := hs.len
  clear hs hT e1
  generalize rightV v = x at *
  cases x
  all_goals
    go_enter Tryd.func68, Tryd.ntmps68
    go_wp2_with (go_at_call 74; refine HR.out.mono ?_; clear HR; rintro e w2 ⟨rfl, b2⟩)
    go_ret
    exact ⟨rfl, trans_v bW b2⟩
end Go.Proofs.YtooddjfkibbkeaaDoor
