/- What leans on the table of letters alone. -/
import Derived.Test.YthmhcpghfbifiaaGreatDoorGFld
import Derived.Maps.OwnSet
import Derived.StringKeys
namespace Go.Proofs.YthmhcpghfbifiaaGreatDoor
open Go.RowKit

/-- The table of letters, as the program's text lays it. -/
structure TabL (w : World) : Prop where
  lets : ∃ t z, w.heap[0]? = some (.cells #[.int .i32 65, .int .i32 90, .int .i32 95, .int .i32 95, .int .i32 97, .int .i32 122, .int .i32 192, .int .i32 214, .int .i32 216, .int .i32 246, .int .i32 248, .int .i32 591, .int .i32 913, .int .i32 929, .int .i32 931, .int .i32 969] t z)
theorem TabL.room {w : World} (h : TabL w) : 0 < w.heap.size ∧ 0 < w.heap.size := by
  obtain ⟨t', z', e'⟩ := h.lets
  exact ⟨(Array.getElem?_eq_some_iff.1 e').1, (Array.getElem?_eq_some_iff.1 e').1⟩
theorem TabL.below {w w' : World} (h : TabL w) (hb : Below w.heap.size w w') : TabL w' := by
  obtain ⟨t', z', e'⟩ := h.lets
  exact ⟨⟨t', z', (hb.block _ (Array.getElem?_eq_some_iff.1 e').1).trans e'⟩⟩
theorem TabL.grown {w w' : World} {r : Nat} (h : TabL w) (hg : w.grownBy w' (some r)) (h1 : 0 ≠ r) (_h2 : 0 ≠ r) : TabL w' := by
  obtain ⟨t', z', e'⟩ := h.lets
  exact ⟨⟨t', z', (hg.block _ (Array.getElem?_eq_some_iff.1 e').1 (by simpa using h1)).trans e'⟩⟩
set_option maxRecDepth 100000 in
set_option maxHeartbeats 2000000 in
theorem letterL_k (r : Int) (w : World) (ht : TabL w) :
    Calls Tryz.prog 75 #[.int .i32 r] w fun e w' => e = .returned (.bool (isLetter r)) ∧ Below w.heap.size w w' := by
  obtain ⟨tt, zz, hg⟩ := ht.lets
  have c0 : w.cell? ⟨0, 0, none⟩ = some (.int .i32 65) := by simp [World.cell?, hg]
  have c1 : w.cell? ⟨0, 1, none⟩ = some (.int .i32 90) := by simp [World.cell?, hg]
  have c2 : w.cell? ⟨0, 2, none⟩ = some (.int .i32 95) := by simp [World.cell?, hg]
  have c3 : w.cell? ⟨0, 3, none⟩ = some (.int .i32 95) := by simp [World.cell?, hg]
  have c4 : w.cell? ⟨0, 4, none⟩ = some (.int .i32 97) := by simp [World.cell?, hg]
  have c5 : w.cell? ⟨0, 5, none⟩ = some (.int .i32 122) := by simp [World.cell?, hg]
  have c6 : w.cell? ⟨0, 6, none⟩ = some (.int .i32 192) := by simp [World.cell?, hg]
  have c7 : w.cell? ⟨0, 7, none⟩ = some (.int .i32 214) := by simp [World.cell?, hg]
  have c8 : w.cell? ⟨0, 8, none⟩ = some (.int .i32 216) := by simp [World.cell?, hg]
  have c9 : w.cell? ⟨0, 9, none⟩ = some (.int .i32 246) := by simp [World.cell?, hg]
  have c10 : w.cell? ⟨0, 10, none⟩ = some (.int .i32 248) := by simp [World.cell?, hg]
  have c11 : w.cell? ⟨0, 11, none⟩ = some (.int .i32 591) := by simp [World.cell?, hg]
  have c12 : w.cell? ⟨0, 12, none⟩ = some (.int .i32 913) := by simp [World.cell?, hg]
  have c13 : w.cell? ⟨0, 13, none⟩ = some (.int .i32 929) := by simp [World.cell?, hg]
  have c14 : w.cell? ⟨0, 14, none⟩ = some (.int .i32 931) := by simp [World.cell?, hg]
  have c15 : w.cell? ⟨0, 15, none⟩ = some (.int .i32 969) := by simp [World.cell?, hg]
  go_enter Tryz.func75, Tryz.ntmps75
  go_wp2
  clear c0 c1 c2 c3 c4 c5 c6 c7 c8 c9 c10 c11 c12 c13 c14 c15 hg
  go_loopw [4, 6] (fun _ v wr => ∃ j : Nat, v = .int .i64 (j : Int) ∧ j ≤ 8 ∧ (spans.take j).any (inSpan r) = false ∧ Below w.heap.size w wr)
    (fun _ v _ => 8 - (Lib.intOf v).toNat)
  case atStart => exact ⟨0, rfl, by omega, rfl, Below.refl _ _⟩
  case round =>
    obtain ⟨j, rfl, hj, hno, hbel⟩ := hrel
    by_cases hj8 : j < 8
    · have hcs : j = 0 ∨ j = 1 ∨ j = 2 ∨ j = 3 ∨ j = 4 ∨ j = 5 ∨ j = 6 ∨ j = 7 := by omega
      rcases hcs with rfl | rfl | rfl | rfl | rfl | rfl | rfl | rfl
      · have hix := idxS0
        by_cases a1 : 65 ≤ r
        · by_cases a2 : r ≤ 90
          · go_wp2
            go_ret
            refine ⟨?_, hbel.alloc hbel.size _⟩
            have : isLetter r = true := by
              unfold isLetter
              exact List.any_eq_true.2 ⟨(65, 90), by decide, by simp [inSpan, a1, a2]⟩
            rw [this]
            rfl
          · go_wp2
            go_roundw
            case rel => exact ⟨1, rfl, by omega, by simp only [spans, List.take, List.any] at hno ⊢; simp [inSpan, a1, a2] at hno ⊢; try exact hno, hbel.alloc hbel.size _⟩
            case measure => simp [Lib.intOf]
        · go_wp2
          go_roundw
          case rel => exact ⟨1, rfl, by omega, by simp only [spans, List.take, List.any] at hno ⊢; simp [inSpan, a1] at hno ⊢; try exact hno, hbel.alloc hbel.size _⟩
          case measure => simp [Lib.intOf]
      · have hix := idxS1
        by_cases a1 : 95 ≤ r
        · by_cases a2 : r ≤ 95
          · go_wp2
            go_ret
            refine ⟨?_, hbel.alloc hbel.size _⟩
            have : isLetter r = true := by
              unfold isLetter
              exact List.any_eq_true.2 ⟨(95, 95), by decide, by simp [inSpan, a1, a2]⟩
            rw [this]
            rfl
          · go_wp2
            go_roundw
            case rel => exact ⟨2, rfl, by omega, by simp only [spans, List.take, List.any] at hno ⊢; simp [inSpan, a1, a2] at hno ⊢; try exact hno, hbel.alloc hbel.size _⟩
            case measure => simp [Lib.intOf]
        · go_wp2
          go_roundw
          case rel => exact ⟨2, rfl, by omega, by simp only [spans, List.take, List.any] at hno ⊢; simp [inSpan, a1] at hno ⊢; try exact hno, hbel.alloc hbel.size _⟩
          case measure => simp [Lib.intOf]
      · have hix := idxS2
        by_cases a1 : 97 ≤ r
        · by_cases a2 : r ≤ 122
          · go_wp2
            go_ret
            refine ⟨?_, hbel.alloc hbel.size _⟩
            have : isLetter r = true := by
              unfold isLetter
              exact List.any_eq_true.2 ⟨(97, 122), by decide, by simp [inSpan, a1, a2]⟩
            rw [this]
            rfl
          · go_wp2
            go_roundw
            case rel => exact ⟨3, rfl, by omega, by simp only [spans, List.take, List.any] at hno ⊢; simp [inSpan, a1, a2] at hno ⊢; try exact hno, hbel.alloc hbel.size _⟩
            case measure => simp [Lib.intOf]
        · go_wp2
          go_roundw
          case rel => exact ⟨3, rfl, by omega, by simp only [spans, List.take, List.any] at hno ⊢; simp [inSpan, a1] at hno ⊢; try exact hno, hbel.alloc hbel.size _⟩
          case measure => simp [Lib.intOf]
      · have hix := idxS3
        by_cases a1 : 192 ≤ r
        · by_cases a2 : r ≤ 214
          · go_wp2
            go_ret
            refine ⟨?_, hbel.alloc hbel.size _⟩
            have : isLetter r = true := by
              unfold isLetter
              exact List.any_eq_true.2 ⟨(192, 214), by decide, by simp [inSpan, a1, a2]⟩
            rw [this]
            rfl
          · go_wp2
            go_roundw
            case rel => exact ⟨4, rfl, by omega, by simp only [spans, List.take, List.any] at hno ⊢; simp [inSpan, a1, a2] at hno ⊢; try exact hno, hbel.alloc hbel.size _⟩
            case measure => simp [Lib.intOf]
        · go_wp2
          go_roundw
          case rel => exact ⟨4, rfl, by omega, by simp only [spans, List.take, List.any] at hno ⊢; simp [inSpan, a1] at hno ⊢; try exact hno, hbel.alloc hbel.size _⟩
          case measure => simp [Lib.intOf]
      · have hix := idxS4
        by_cases a1 : 216 ≤ r
        · by_cases a2 : r ≤ 246
          · go_wp2
            go_ret
            refine ⟨?_, hbel.alloc hbel.size _⟩
            have : isLetter r = true := by
              unfold isLetter
              exact List.any_eq_true.2 ⟨(216, 246), by decide, by simp [inSpan, a1, a2]⟩
            rw [this]
            rfl
          · go_wp2
            go_roundw
            case rel => exact ⟨5, rfl, by omega, by simp only [spans, List.take, List.any] at hno ⊢; simp [inSpan, a1, a2] at hno ⊢; try exact hno, hbel.alloc hbel.size _⟩
            case measure => simp [Lib.intOf]
        · go_wp2
          go_roundw
          case rel => exact ⟨5, rfl, by omega, by simp only [spans, List.take, List.any] at hno ⊢; simp [inSpan, a1] at hno ⊢; try exact hno, hbel.alloc hbel.size _⟩
          case measure => simp [Lib.intOf]
      · have hix := idxS5
        by_cases a1 : 248 ≤ r
        · by_cases a2 : r ≤ 591
          · go_wp2
            go_ret
            refine ⟨?_, hbel.alloc hbel.size _⟩
            have : isLetter r = true := by
              unfold isLetter
              exact List.any_eq_true.2 ⟨(248, 591), by decide, by simp [inSpan, a1, a2]⟩
            rw [this]
            rfl
          · go_wp2
            go_roundw
            case rel => exact ⟨6, rfl, by omega, by simp only [spans, List.take, List.any] at hno ⊢; simp [inSpan, a1, a2] at hno ⊢; try exact hno, hbel.alloc hbel.size _⟩
            case measure => simp [Lib.intOf]
        · go_wp2
          go_roundw
          case rel => exact ⟨6, rfl, by omega, by simp only [spans, List.take, List.any] at hno ⊢; simp [inSpan, a1] at hno ⊢; try exact hno, hbel.alloc hbel.size _⟩
          case measure => simp [Lib.intOf]
      · have hix := idxS6
        by_cases a1 : 913 ≤ r
        · by_cases a2 : r ≤ 929
          · go_wp2
            go_ret
            refine ⟨?_, hbel.alloc hbel.size _⟩
            have : isLetter r = true := by
              unfold isLetter
              exact List.any_eq_true.2 ⟨(913, 929), by decide, by simp [inSpan, a1, a2]⟩
            rw [this]
            rfl
          · go_wp2
            go_roundw
            case rel => exact ⟨7, rfl, by omega, by simp only [spans, List.take, List.any] at hno ⊢; simp [inSpan, a1, a2] at hno ⊢; try exact hno, hbel.alloc hbel.size _⟩
            case measure => simp [Lib.intOf]
        · go_wp2
          go_roundw
          case rel => exact ⟨7, rfl, by omega, by simp only [spans, List.take, List.any] at hno ⊢; simp [inSpan, a1] at hno ⊢; try exact hno, hbel.alloc hbel.size _⟩
          case measure => simp [Lib.intOf]
      · have hix := idxS7
        by_cases a1 : 931 ≤ r
        · by_cases a2 : r ≤ 969
          · go_wp2
            go_ret
            refine ⟨?_, hbel.alloc hbel.size _⟩
            have : isLetter r = true := by
              unfold isLetter
              exact List.any_eq_true.2 ⟨(931, 969), by decide, by simp [inSpan, a1, a2]⟩
            rw [this]
            rfl
          · go_wp2
            go_roundw
            case rel => exact ⟨8, rfl, by omega, by simp only [spans, List.take, List.any] at hno ⊢; simp [inSpan, a1, a2] at hno ⊢; try exact hno, hbel.alloc hbel.size _⟩
            case measure => simp [Lib.intOf]
        · go_wp2
          go_roundw
          case rel => exact ⟨8, rfl, by omega, by simp only [spans, List.take, List.any] at hno ⊢; simp [inSpan, a1] at hno ⊢; try exact hno, hbel.alloc hbel.size _⟩
          case measure => simp [Lib.intOf]
    · have h8 : j = 8 := by omega
      subst h8
      go_wp2
      go_ret
      refine ⟨?_, hbel⟩
      have : isLetter r = false := hno
      rw [this]
      rfl
theorem letterL_is (r : Int) (b : Bool) (h : isLetter r = b) (w : World) (ht : TabL w) : Calls Tryz.prog 75 #[.int .i32 r] w fun e w' => e = .returned (.bool b) ∧ Below w.heap.size w w' := by
  rw [← h]
  exact letterL_k r w ht
set_option maxRecDepth 100000 in
set_option maxHeartbeats 2000000 in
theorem nameL_k (s : ByteArray) (hs : s.size ≤ 281474976702464) (w : World) (ht : TabL w) :
    Calls Tryz.prog 54 #[.string s] w fun e w' => e = .returned (.int .i64 (nameE s.data.toList)) ∧ Below w.heap.size w w' := by
  have hlen : s.data.toList.length = s.size := by rw [Array.length_toList]; rfl
  by_cases h0 : s.data.toList = []
  · have e : nameE s.data.toList = 21 := by unfold nameE; rw [if_pos (.inl h0)]
    rw [e]
    have hs0 : s = ⟨#[]⟩ := by rw [← str_bytes s, h0]; rfl
    subst hs0
    go_enter Tryz.func54, Tryz.ntmps54
    go_wp2
    go_ret
    exact ⟨rfl, Below.refl _ _⟩
  · have hne : (s.toList == (⟨#[]⟩ : ByteArray).toList) = false := by
      rw [Lib.toList_data, Lib.toList_data]
      simpa using h0
    have hne2 : (s.toList == ([] : List UInt8)) = false := by
      rw [Lib.toList_data]
      simpa using h0
    have hwid := width_k s hs w
    have hru0 := ru_length_le s.data.toList
    by_cases h32 : 32 < (ru s.data.toList).length
    · have e : nameE s.data.toList = 21 := by unfold nameE; rw [if_pos (.inr h32)]
      rw [e]
      clear e
      generalize (ru s.data.toList).length = m at *
      have h32i : (32 : Int) < (m : Int) := by omega
      go_enter Tryz.func54, Tryz.ntmps54
      go_wp2_with (go_at_call 74; refine hwid.mono ?_; rintro e w1 ⟨rfl, hb1⟩)
      go_ret
      exact ⟨rfl, hb1⟩
    · have e : nameE s.data.toList = if okR true (ru s.data.toList) = true then 0 else 21 := by unfold nameE; rw [if_neg (fun h => h.elim h0 h32)]
      rw [e]
      clear e
      have hwid' : Calls Tryz.prog 74 #[.string s] w fun e w' => ∃ m : Nat, m ≤ 32 ∧ e = .returned (.int .i64 (m : Int)) ∧ Below w.heap.size w w' := by
        refine hwid.mono ?_
        rintro e w' ⟨rfl, hb⟩
        exact ⟨_, by omega, rfl, hb⟩
      have hrg := fun w' => run_range_string (P := Tryz.prog) w' 9 s Tryz.underlying9
      clear hwid
      go_enter Tryz.func54, Tryz.ntmps54
      go_wp2_with (go_at_call 74; refine hwid'.mono ?_; rintro e w1 ⟨m, hm, rfl, hb1⟩)
      go_loopw [3, 4] (fun _ _ wr => ∃ k : Nat, k ≤ s.size ∧ okR true (ru s.data.toList) = okR (decide (k = 0)) (ru (s.data.toList.drop k)) ∧ wr.heap[w1.heap.size]? = some (.stringIter s k) ∧ Below w1.heap.size w1 wr)
        (fun _ _ wr => s.size - wr.iterPos w1.heap.size)
      case atStart => exact ⟨0, Nat.zero_le _, rfl, World.iter_heap w1 s 0, (Below.refl _ w1).alloc (Nat.le_refl _) _⟩
      case round =>
        obtain ⟨k, hk, hok, hit, hbel⟩ := hrel
        have hpos : wr.iterPos w1.heap.size = k := by simp [World.iterPos, hit]
        clear hrg hwid'
        have ht1 := (ht.below hb1).below hbel
        by_cases hlt : k < s.size
        · have hnx := fun ty => Lib.run_next_any_at (P := Tryz.prog) wr w1.heap.size s k ty hit hlt
          rw [wd_dec] at hnx
          have q1 := wd_pos (s.data.toList.drop k)
          have q2 := wd_room s k hlt
          have hit2 := Lib.iterAt_heap wr w1.heap.size s k (k + wd (s.data.toList.drop k)) hit
          have hbel2 := Lib.below_iterAt hbel (k := w1.heap.size) (Nat.le_refl _) s (k + wd (s.data.toList.drop k))
          have hraw := raw_dec s k
          have hsz : w1.heap.size < wr.heap.size := (Array.getElem?_eq_some_iff.1 hit).1
          have ht2 : TabL (wr.iterAt w1.heap.size s (k + wd (s.data.toList.drop k))) := (ht.below hb1).below hbel2
          rw [ru_step _ (drop_ne s k hlt), List.drop_drop, okR] at hok
          dsimp only at hok
          rw [hraw] at hok
          clear hraw
          generalize (Utf8.decode s k).1 = dr at *
          generalize wd (s.data.toList.drop k) = ww at *
          have fin : ∀ w2, Below (wr.iterAt w1.heap.size s (k + ww)).heap.size (wr.iterAt w1.heap.size s (k + ww)) w2 → w2.heap[w1.heap.size]? = some (.stringIter s (k + ww)) ∧ Below w1.heap.size w1 w2 ∧ s.size - w2.iterPos w1.heap.size < s.size - wr.iterPos w1.heap.size := by
            intro w2 hb2
            have h3 : w2.heap[w1.heap.size]? = some (.stringIter s (k + ww)) := (hb2.block _ (by rw [Lib.iterAt_size]; omega)).trans hit2
            refine ⟨h3, hbel2.trans (hb2.mono (by rw [Lib.iterAt_size]; omega)), ?_⟩
            have hp : w2.iterPos w1.heap.size = k + ww := by simp only [World.iterPos, h3]
            rw [hp, hpos]
            omega
          cases hl : isLetter (dr : Int) with
          | true =>
            rw [hl, Bool.true_or, Bool.true_and] at hok
            go_wp2_with (go_at_call 75; refine (letterL_is _ true hl _ ht2).mono ?_; rintro e w2 ⟨rfl, hb2⟩)
            obtain ⟨f1, f2, f3⟩ := fin w2 hb2
            go_roundw
            case rel =>
              refine ⟨k + ww, q2, ?_, f1, f2⟩
              rw [hok]
              congr 1
              simp
              omega
            case measure => exact f3
          | false =>
            rw [hl, Bool.false_or] at hok
            by_cases hk0 : k = 0
            · have hd : decide (k = 0) = true := by simp [hk0]
              have hki : ((k : Int) == 0) = true := by simp; exact hk0
              rw [hd] at hok
              simp at hok
              rw [hok]
              clear hk0 hd
              go_wp2_with (go_at_call 75; refine (letterL_is _ false hl _ ht2).mono ?_; rintro e w2 ⟨rfl, hb2⟩)
              all_goals
                obtain ⟨f1, f2, f3⟩ := fin w2 hb2
                go_ret
                exact ⟨rfl, hb1.trans (f2.mono hb1.size)⟩
            · have hd : decide (k = 0) = false := by simp [hk0]
              rw [hd, Bool.not_false, Bool.true_and] at hok
              have hki : ((k : Int) == 0) = false := by simp; exact hk0
              cases hm2 : mayF (dr : Int) with
              | true =>
                rw [hm2, Bool.true_and] at hok
                go_wp2_with (first
                  | (go_at_call 75; refine (letterL_is _ false hl _ ht2).mono ?_; rintro e w2 ⟨rfl, hb2⟩)
                  | (go_at_call 76; refine (may_is _ true hm2 _).mono ?_; rintro e w3 ⟨rfl, rfl⟩))
                obtain ⟨f1, f2, f3⟩ := fin w2 hb2
                go_roundw
                case rel =>
                  refine ⟨k + ww, q2, ?_, f1, f2⟩
                  rw [hok]
                  congr 1
                  simp
                  omega
                case measure => exact f3
              | false =>
                rw [hm2, Bool.false_and] at hok
                rw [hok]
                go_wp2_with (first
                  | (go_at_call 75; refine (letterL_is _ false hl _ ht2).mono ?_; rintro e w2 ⟨rfl, hb2⟩)
                  | (go_at_call 76; refine (may_is _ false hm2 _).mono ?_; rintro e w3 ⟨rfl, rfl⟩))
                all_goals
                  obtain ⟨f1, f2, f3⟩ := fin w2 hb2
                  go_ret
                  exact ⟨rfl, hb1.trans (f2.mono hb1.size)⟩
        · have hnx := fun ty => Lib.run_next_end_at (P := Tryz.prog) wr w1.heap.size s k ty hit hlt
          rw [drop_end s k hlt, ru_nil, okR] at hok
          rw [hok]
          go_wp2
          go_ret
          exact ⟨rfl, hb1.trans (hbel.mono hb1.size)⟩
set_option maxRecDepth 100000 in
theorem symbolTextL_k (t : ByteArray) (ht : t.size ≤ 281474976702464) (w : World) (hT : TabL w) :
    Calls Tryz.prog 98 #[.string t] w fun e w' => e = .returned (.bool (symB t)) ∧ Below w.heap.size w w' := by
  unfold symB
  have HN := hide (nameL_k t ht w hT)
  generalize nameE t.data.toList = x at *
  cases h1 : (t.toList == [116, 114, 117, 101])
  · cases h2 : (t.toList == [102, 97, 108, 115, 101])
    · go_enter Tryz.func98, Tryz.ntmps98
      go_wp2_with (go_at_call 54; refine HN.out.mono ?_; clear HN; rintro e w1 ⟨rfl, b1⟩)
      go_ret
      exact ⟨rfl, b1⟩
    · go_enter Tryz.func98, Tryz.ntmps98
      go_wp2
      go_ret
      exact ⟨rfl, Below.refl _ _⟩
  · go_enter Tryz.func98, Tryz.ntmps98
    go_wp2
    go_ret
    exact ⟨rfl, Below.refl _ _⟩
set_option maxRecDepth 100000 in
set_option maxHeartbeats 4000000 in
theorem fieldsRightL_k (v : Vl) (a : Option Addr) (n c : Nat) (ht : v.text.size ≤ 281474976702464) (w : World) (hT : TabL w) :
    Calls Tryz.prog 71 #[.agg (vcells v (.slice a n c))] w fun e w' => e = .returned (.bool (goodB v)) ∧ Below w.heap.size w w' := by
  have HS := hide (fun (W : World) (b : Below w.heap.size w W) => symbolTextL_k v.text ht W (hT.below b))
  obtain ⟨k, i, m, t, l⟩ := v
  unfold goodB
  simp only at *
  clear ht hT
  by_cases h2 : k = 2 ∨ k = 5 ∨ k = 6 ∨ k = 7
  · rw [if_pos h2]
    rcases h2 with rfl | rfl | rfl | rfl
    all_goals
      go_enter Tryz.func71, Tryz.ntmps71
      go_wp2
      go_ret
      exact ⟨rfl, alloc_v (Below.refl _ _) _⟩
  · rw [if_neg h2]
    by_cases h1 : k = 1
    · rw [if_pos h1]
      subst h1
      by_cases e0 : i = 0
      · subst e0
        go_enter Tryz.func71, Tryz.ntmps71
        go_wp2
        go_ret
        exact ⟨rfl, alloc_v (Below.refl _ _) _⟩
      · have e0' : (i == 0) = false := by simp [e0]
        go_enter Tryz.func71, Tryz.ntmps71
        go_wp2
        go_ret
        exact ⟨by rw [e0', Bool.false_or]; rfl, alloc_v (Below.refl _ _) _⟩
    · rw [if_neg h1]
      by_cases h4 : k = 4
      · rw [if_pos h4]
        subst h4
        go_enter Tryz.func71, Tryz.ntmps71
        go_wp2_with (go_at_call 98; refine (HS.out _ (alloc_v (Below.refl _ _) _)).mono ?_; clear HS; rintro e w1 ⟨rfl, b1⟩)
        go_ret
        exact ⟨rfl, trans_v (alloc_v (Below.refl _ _) _) b1⟩
      · rw [if_neg h4]
        by_cases h3 : k = 3
        · rw [if_pos h3]
          subst h3
          have HI := hide (fun W => inRange_k i W)
          have HM := hide (fun W => inRange_k m W)
          generalize (decide (-1048576 ≤ i) && decide (i ≤ 1048576)) = x at *
          generalize (decide (-1048576 ≤ m) && decide (m ≤ 1048576)) = y at *
          cases x
          · go_enter Tryz.func71, Tryz.ntmps71
            go_wp2_with (go_at_call 99; refine (HI.out _).mono ?_; clear HI; rintro e w1 ⟨rfl, rfl⟩)
            go_ret
            exact ⟨rfl, alloc_v (Below.refl _ _) _⟩
          · go_enter Tryz.func71, Tryz.ntmps71
            go_wp2_with (first
              | (go_at_call 99; refine (HI.out _).mono ?_; clear HI; rintro e w1 ⟨rfl, rfl⟩)
              | (go_at_call 99; refine (HM.out _).mono ?_; clear HM; rintro e w1 ⟨rfl, rfl⟩))
            go_ret
            exact ⟨rfl, alloc_v (Below.refl _ _) _⟩
        · rw [if_neg h3]
          have k1 : (k == 1) = false := by simp [h1]
          have k2 : (k == 2) = false := by simp; omega
          have k3 : (k == 3) = false := by simp [h3]
          have k4 : (k == 4) = false := by simp [h4]
          have k5 : (k == 5) = false := by simp; omega
          have k6 : (k == 6) = false := by simp; omega
          have k7 : (k == 7) = false := by simp; omega
          clear h1 h2 h3 h4
          go_enter Tryz.func71, Tryz.ntmps71
          go_wp2
          go_ret
          exact ⟨rfl, alloc_v (Below.refl _ _) _⟩
/-- What rightWithin answers with so many levels. -/
def RightCL (L : Nat) : Prop := ∀ (v : Vl) (w : World) (B n rb room : Nat) (sl : Value), L ≤ 16 → room ≤ 4096 → B ≤ rb → rb < w.heap.size → 0 < B → 0 < B → TabL w → v.text.size ≤ 1048576 → ItemsAt w B n sl v.items →
  w.heap[rb]? = some (.cells #[.int .i64 (room : Int)] 3 (0, 0)) →
  Calls Tryz.prog 50 #[.agg (vcells v sl), .int .i64 (L : Int), .pointer (some ⟨rb, 0, none⟩)] w fun e w' => e = .returned (.bool (rw L v room).1) ∧
    w'.heap[rb]? = some (.cells #[.int .i64 ((rw L v room).2 : Int)] 3 (0, 0)) ∧ w.grownBy w' (some rb)
set_option maxRecDepth 100000 in
theorem rightL_zero : RightCL 0 := by
  intro v w B n rb room sl _ _ _ _ _ _ _ _ hs hr
  obtain ⟨a, c, rfl, _⟩ := hs.len
  have HR := hide hr
  clear hs hr
  go_enter Tryz.func50, Tryz.ntmps50
  go_wp2
  go_ret
  exact ⟨rfl, (Below.heap_alloc _ _ _ (Array.getElem?_eq_some_iff.1 HR.out).1).trans HR.out, grown_of_below (alloc_v (Below.refl _ _) _)⟩
set_option maxRecDepth 100000 in
set_option maxHeartbeats 4000000 in
theorem rightL_step {L : Nat} (hL : RightCL L) : RightCL (L + 1) := by
  intro v w B n rb room sl h16 hroom hBr hrb hg1 hg2 hT htx hs hr
  obtain ⟨n, rfl⟩ := hs.pos
  have HS := hide hs
  obtain ⟨a, c, rfl, hla⟩ := hs.len
  unfold maxLen at hla
  have r0 := cells_at hr 0 _ rfl
  have r1 := frozen_at hr 0
  obtain ⟨lv, hlv⟩ : ∃ lv : Int, ((L + 1 : Nat) : Int) = lv := ⟨_, rfl⟩
  have lv0 : (lv == 0) = false := by simp; omega
  have lv1 : lv - 1 = (L : Int) := by omega
  rw [hlv]
  by_cases hr0 : room = 0
  · subst hr0
    rw [rw_room]
    have HR := hide hr
    clear hs hr hL hlv
    go_enter Tryz.func50, Tryz.ntmps50
    go_wp2
    go_ret
    exact ⟨rfl, (Below.heap_alloc _ _ _ hrb).trans HR.out, grown_of_below (alloc_v (Below.refl _ _) _)⟩
  · have hr00 : ((room : Int) == 0) = false := by simp; omega
    have hrp : 0 < room := by omega
    have ne : w.heap.size ≠ rb := by omega
    obtain ⟨W2, hW2⟩ : ∃ W2, (w.alloc (.cells (vcells v (.slice a v.items.length c)) 46)).setCell ⟨rb, 0, none⟩ (.int .i64 ((room : Int) - 1)) = W2 := ⟨_, rfl⟩
    have hrA : (w.alloc (.cells (vcells v (.slice a v.items.length c)) 46)).heap[rb]? = some (.cells #[.int .i64 (room : Int)] 3 (0, 0)) := (Below.heap_alloc _ _ _ hrb).trans hr
    have hr2 : W2.heap[rb]? = some (.cells #[.int .i64 ((room - 1 : Nat) : Int)] 3 (0, 0)) := by
      rw [← hW2]
      have := Boxed.set (.int .i64 ((room : Int) - 1)) (show Boxed (w.alloc (.cells (vcells v (.slice a v.items.length c)) 46)) rb 3 (.int .i64 (room : Int)) from hrA)
      rw [show ((room - 1 : Nat) : Int) = (room : Int) - 1 by omega]
      exact this
    have G2 : w.grownBy W2 (some rb) := by rw [← hW2]; exact grown_more (grown_of_below (alloc_v (Below.refl _ _) _)) (grownBy_setCell' _ _ _)
    have box2 : W2.heap[w.heap.size]? = some (.cells (vcells v (.slice a v.items.length c)) 46 (0, 0)) := by
      rw [← hW2]
      exact (Below.heap_setCell _ _ _ _ ne).trans (World.alloc_heap_new _ _)
    have hT2 : TabL W2 := hT.grown G2 (by omega) (by omega)
    have HU := hide (fieldsUsed_k v a c W2)
    have HF := hide (fun (W : World) (b : Below W2.heap.size W2 W) => fieldsRightL_k v a v.items.length c (by omega) W (hT2.below b))
    have x0 := cells_at box2 0 _ rfl
    have x1 := cells_at box2 1 _ rfl
    have x2 := cells_at box2 2 _ rfl
    have x3 := cells_at box2 3 _ rfl
    have x4 := cells_at box2 4 _ rfl
    have z2 : w.heap.size < W2.heap.size := (Array.getElem?_eq_some_iff.1 box2).1
    have HBX := hide box2
    have HR2 := hide hr2
    have HG2 := hide G2
    have HT2 := hide hT2
    have HR := hide hr
    clear hs hr hrA hr2 G2 box2 hT2 hT
    cases hu : usedB v
    · have HE := hide (rw_bad L v room hrp (by simp [hu]))
      rw [hu] at HU
      go_enter Tryz.func50, Tryz.ntmps50
      go_wp2_with (go_at_call 70; refine HU.out.mono ?_; clear HU; rintro e w3 ⟨rfl, b3⟩)
      go_ret
      refine ⟨by rw [HE.out]; rfl, ?_, grown_more HG2.out (grown_of_below b3)⟩
      rw [HE.out]
      exact (b3.block _ (Array.getElem?_eq_some_iff.1 HR2.out).1).trans HR2.out
    · rw [hu] at HU
      cases hf : goodB v
      · have HE := hide (rw_bad L v room hrp (by simp [hf]))
        rw [hf] at HF
        go_enter Tryz.func50, Tryz.ntmps50
        go_wp2_with (first
          | (go_at_call 70; refine HU.out.mono ?_; clear HU; rintro e w3 ⟨rfl, b3⟩; have hc3 := (bcellV b3).1)
          | (go_at_call 71; refine (HF.out _ b3).mono ?_; clear HF; rintro e w4 ⟨rfl, b4⟩))
        go_ret
        have b := trans_v b3 b4
        refine ⟨by rw [HE.out]; rfl, ?_, grown_more HG2.out (grown_of_below b)⟩
        rw [HE.out]
        exact (b.block _ (Array.getElem?_eq_some_iff.1 HR2.out).1).trans HR2.out
      · rw [hf] at HF
        have HUG : Hid (usedB v = true ∧ goodB v = true) := hide ⟨hu, hf⟩
        go_enter Tryz.func50, Tryz.ntmps50
        go_wp2_with (first
          | (go_at_call 70; refine HU.out.mono ?_; clear HU; rintro e w3 ⟨rfl, b3⟩; have hc3 := (bcellV b3).1)
          | (go_at_call 71; refine (HF.out _ b3).mono ?_; clear HF; rintro e w4 ⟨rfl, b4⟩; have hc4 := (bcellV (trans_v b3 b4)).1))
        have bb := trans_v b3 b4
        have box4 : w4.heap[w.heap.size]? = some (.cells (vcells v (.slice a v.items.length c)) 46 (0, 0)) := (bb.block _ z2).trans HBX.out
        have r4 := (bb.block _ (Array.getElem?_eq_some_iff.1 HR2.out).1).trans HR2.out
        have G4 := grown_more HG2.out (grown_of_below (r := some rb) bb)
        have T4 := HT2.out.below bb
        have HB4 := hide box4
        have HG4 := hide G4
        have HT4 := hide T4
        have HLL := hide hL
        have hBw : B ≤ w.heap.size := by omega
        have lvb : 1 ≤ lv := by omega
        have lvc : lv ≤ 17 := by omega
        clear b3 b4 bb hc3 hc4 x0 x1 x2 x3 x4 z2 HBX HR2 HG2 HT2 HR hW2 box4 G4 T4 hL hu hf r0 r1 lv0 hr00 hlv
        go_loopw [33] (fun i wr => ∃ k r : Nat, k ≤ v.items.length ∧ i = .int .i64 k ∧ rwL (rw L) (v.items.take k) (room - 1) = (true, r) ∧ wr.heap[rb]? = some (.cells #[.int .i64 (r : Int)] 3 (0, 0)) ∧ w4.grownBy wr (some rb)) (fun i _ => v.items.length - (intOf i).toNat)
        case atStart => exact ⟨0, room - 1, Nat.zero_le _, rfl, rfl, r4, grown_self _ _⟩
        case round =>
          clear r4
          obtain ⟨k, r, hk, rfl, hz, hrr, hgr⟩ := hrel
          have hrle : r ≤ room - 1 := by have := rwL_le (rw_le L) (v.items.take k) (room - 1); rw [hz] at this; exact this
          have gz := HG4.out.size
          have gy := hgr.size
          have Tr : TabL wr := HT4.out.grown hgr (by omega) (by omega)
          by_cases hlt : k < v.items.length
          · obtain ⟨b1, o1, s1, rfl, g1, p0, p1, p2, p3, p4, p5, p6⟩ := (HS.out.grown (grown_more HG4.out hgr) hBr hBw).item k hlt
            have l1 : b1 < wr.heap.size := by omega
            obtain ⟨bo, r', hp⟩ : ∃ bo r', rw L v.items[k] r = (bo, r') := ⟨_, _, rfl⟩
            have HZ := hide (rwL_take (f := rw L) hlt hz)
            have HC := hide (fun (W : World) (b : Below wr.heap.size wr W) => HLL.out v.items[k] W B n rb r s1 (by omega) (by omega) hBr (by have := b.size; omega) hg1 hg2 (Tr.below b) p6.1 (p5.below (b.mono (by omega))) ((b.block _ (by omega)).trans hrr))
            rw [hp] at HC HZ
            obtain ⟨x1, y1, rfl, _⟩ := p5.len
            have HGR := hide hgr
            clear hz p5 p6 hgr hrr Tr hp g1 gz gy
            generalize v.items[k].items = xi at *
            generalize v.items[k] = x at *
            cases bo
            · have HE := hide (rw_no L v room hrp HUG.out (HZ.out.2 rfl))
              go_wp2_with (go_at_call 50; refine (HC.out _ (alloc_v (Below.refl _ _) _)).mono ?_; clear HC; rintro e w5 ⟨rfl, r5, g5⟩; have R5 := hide r5; have G5 := hide g5; clear r5 g5)
              go_ret
              refine ⟨by rw [HE.out]; rfl, by rw [HE.out]; exact R5.out, grown_more (grown_more HG4.out HGR.out) (grown_more (grown_of_below (alloc_v (Below.refl _ _) _)) G5.out)⟩
            · go_wp2_with (go_at_call 50; refine (HC.out _ (alloc_v (Below.refl _ _) _)).mono ?_; clear HC; rintro e w5 ⟨rfl, r5, g5⟩; have R5 := hide r5; have G5 := hide g5; clear r5 g5)
              go_roundw
              case rel => exact ⟨k + 1, r', by omega, by go_num, HZ.out.1 (by trivial), R5.out, grown_more HGR.out (grown_more (grown_of_below (alloc_v (Below.refl _ _) _)) G5.out)⟩
              case measure => simp [intOf]; omega
          · rw [List.take_of_length_le (by omega)] at hz
            have HE := hide (rw_yes L v room hrp HUG.out hz)
            have bx : wr.heap[w.heap.size]? = some (.cells (vcells v (.slice a v.items.length c)) 46 (0, 0)) := (hgr.block _ (Array.getElem?_eq_some_iff.1 HB4.out).1 (by simp; omega)).trans HB4.out
            have x0 := cells_at bx 0 _ rfl
            have x4 := cells_at bx 4 _ rfl
            have HRI := hide (rising_k v.items wr B (n + 1) (.slice a v.items.length c) (by omega) (HS.out.grown (grown_more HG4.out hgr) hBr hBw))
            have HGR := hide hgr
            have HRR := hide hrr
            clear hz hgr hrr Tr bx gz gy
            by_cases h7 : v.kind = 7
            · have h7b : (v.kind != 7) = false := by simp [h7]
              go_wp2_with (go_at_call 72; refine HRI.out.mono ?_; clear HRI; rintro e w5 ⟨rfl, b5⟩; have B5 := hide b5; clear b5)
              go_ret
              refine ⟨by rw [HE.out, h7b]; rfl, by rw [HE.out]; exact (B5.out.block _ (Array.getElem?_eq_some_iff.1 HRR.out).1).trans HRR.out, grown_more (grown_more HG4.out HGR.out) (grown_of_below B5.out)⟩
            · have h7b : (v.kind != 7) = true := by simp [h7]
              go_wp2
              go_ret
              refine ⟨by rw [HE.out, h7b]; rfl, by rw [HE.out]; exact HRR.out, grown_more HG4.out HGR.out⟩
theorem rightWithinL_k : ∀ L, RightCL L
  | 0 => rightL_zero
  | L + 1 => rightL_step (rightWithinL_k L)
set_option maxRecDepth 100000 in
theorem rightL_k (v : Vl) (w : World) (n : Nat) (sl : Value) (hT : TabL w) (htx : v.text.size ≤ 1048576) (hs : ItemsAt w w.heap.size n sl v.items) :
    Calls Tryz.prog 26 #[.agg (vcells v sl)] w fun e w' => e = .returned (.bool (rightV v)) ∧ Below w.heap.size w w' := by
  obtain ⟨W, hW⟩ : ∃ W, (w.alloc (.cells (vcells v sl) 46)).alloc (.cells #[.int .i64 4096] 3) = W := ⟨_, rfl⟩
  have bW : Below w.heap.size w W := by rw [← hW]; exact alloc_v (alloc_v (Below.refl _ _) _) _
  have e1 : W.heap[w.heap.size]? = some (.cells (vcells v sl) 46 (0, 0)) := by rw [← hW]; exact (Below.heap_alloc _ _ _ (by simp)).trans (World.alloc_heap_new w _)
  have e2 : W.heap[w.heap.size + 1]? = some (.cells #[.int .i64 4096] 3 (0, 0)) := by rw [← hW]; have := World.alloc_heap_new (w.alloc (.cells (vcells v sl) 46)) (.cells #[.int .i64 4096] 3); rwa [World.size_alloc] at this
  have zW : w.heap.size + 1 < W.heap.size := (Array.getElem?_eq_some_iff.1 e2).1
  have H := hide (rightWithinL_k 16 v W w.heap.size n (w.heap.size + 1) 4096 sl (Nat.le_refl _) (Nat.le_refl _) (by omega) zW hT.room.1 hT.room.2 (hT.below bW) htx (hs.below bW) e2)
  have x0 := cells_at e1 0 _ rfl
  have x1 := cells_at e1 1 _ rfl
  have x2 := cells_at e1 2 _ rfl
  have x3 := cells_at e1 3 _ rfl
  have x4 := cells_at e1 4 _ rfl
  obtain ⟨a, c, rfl, _⟩ := hs.len
  clear hs e1 e2 hT
  go_enter Tryz.func26, Tryz.ntmps26
  go_wp2_with (go_at_call 50; refine H.out.mono ?_; clear H; rintro e w2 ⟨rfl, _, g2⟩)
  go_ret
  exact ⟨rfl, bW.grown g2 (by have := bW.size; omega) (fun k hk => by cases hk; omega)⟩
set_option maxRecDepth 100000 in
theorem checkL_k (v : Vl) (w : World) (n : Nat) (sl : Value) (hT : TabL w) (htx : v.text.size ≤ 1048576) (hs : ItemsAt w w.heap.size n sl v.items) :
    Calls Tryz.prog 48 #[.agg (vcells v sl)] w fun e w' => e = .returned (.int .i64 (bif rightV v then 0 else 40)) ∧ Below w.heap.size w w' := by
  obtain ⟨W, hW⟩ : ∃ W, w.alloc (.cells (vcells v sl) 46) = W := ⟨_, rfl⟩
  have bW : Below w.heap.size w W := by rw [← hW]; exact alloc_v (Below.refl _ _) _
  have e1 : W.heap[w.heap.size]? = some (.cells (vcells v sl) 46 (0, 0)) := by rw [← hW]; exact World.alloc_heap_new w _
  have x0 := cells_at e1 0 _ rfl
  have x1 := cells_at e1 1 _ rfl
  have x2 := cells_at e1 2 _ rfl
  have x3 := cells_at e1 3 _ rfl
  have x4 := cells_at e1 4 _ rfl
  have HR := hide (rightL_k v W n sl (hT.below bW) htx ((hs.below bW).up bW.size))
  obtain ⟨a, c, rfl, _⟩ := hs.len
  clear hs hT e1
  generalize rightV v = x at *
  cases x
  all_goals
    go_enter Tryz.func48, Tryz.ntmps48
    go_wp2_with (go_at_call 26; refine HR.out.mono ?_; clear HR; rintro e w2 ⟨rfl, b2⟩)
    go_ret
    exact ⟨rfl, trans_v bW b2⟩
end Go.Proofs.YthmhcpghfbifiaaGreatDoor

/- Histories: events, operations, what comes of events; what precedes is an interval order. -/
namespace Go.Proofs.YthmhcpghfbifiaaGreatDoor

/-- An event. -/
structure Evn where
  kind : Int
  proc : List UInt8
  obj : List UInt8
  op : List UInt8
  val : Vl
  off : Int
  line : Int
  col : Int
/-- An operation. -/
structure Cl where
  proc : Nat
  obj : Nat
  op : List UInt8
  arg : Vl
  inv : Nat
  res : Int
  reply : Vl
def zeroVl : Vl := ⟨0, 0, 0, ⟨#[]⟩, []⟩
/-- A name in memory. -/
abbrev bsN (l : List UInt8) : ByteArray := ⟨⟨l⟩⟩
def anyB (t : List UInt8) : Bool := nameE t == 0
/-- A right event. -/
def rightE (e : Evn) : Bool :=
  if e.kind = 1 then symB (bsN e.proc) && anyB e.obj && symB (bsN e.op) && rightV e.val
  else if e.kind = 2 then symB (bsN e.proc) && e.obj.isEmpty && e.op.isEmpty && rightV e.val else false
/-- Processes that have an operation open. -/
def stepO (O : List (List UInt8)) (e : Evn) : List (List UInt8) := if e.kind = 1 then e.proc :: O else O.filter (fun p => decide (p ≠ e.proc))
/-- What is wrong with an event, where these have an operation open. -/
def faultE (O : List (List UInt8)) (e : Evn) : Int := if rightE e = false then 2 else if e.kind = 1 then (if e.proc ∈ O then 71 else 0) else (if e.proc ∈ O then 0 else 70)
def opensAt (l : List Evn) (k : Nat) : List (List UInt8) := (l.take k).foldl stepO []
theorem opensAt_zero (l : List Evn) : opensAt l 0 = [] := rfl
theorem opensAt_succ (l : List Evn) (k : Nat) (h : k < l.length) : opensAt l (k + 1) = stepO (opensAt l k) l[k] := by
  unfold opensAt
  rw [List.take_succ_eq_append_getElem h, List.foldl_append]
  rfl
/-- Nothing is wrong with the first k events. -/
def Fine (l : List Evn) (k : Nat) : Prop := ∀ j (h : j < l.length), j < k → faultE (opensAt l j) l[j] = 0
/-- What well formed events have come to. -/
structure Gs where
  procs : List (List UInt8)
  objs : List (List UInt8)
  calls : List Cl
  opn : List (Nat × Nat)
def addN (l : List (List UInt8)) (s : List UInt8) : List (List UInt8) := if s ∈ l then l else l ++ [s]
def findO (o : List (Nat × Nat)) (p : Nat) : Nat := ((o.find? (fun x => x.1 == p)).map Prod.snd).getD 0
def dropO (o : List (Nat × Nat)) (p : Nat) : List (Nat × Nat) := o.filter (fun x => x.1 != p)
def answer (l : List Cl) (i : Nat) (at' : Nat) (v : Vl) : List Cl := l.modify i (fun c => { c with res := (at' : Int), reply := v })
def takeM (g : Gs) (at' : Nat) (e : Evn) : Gs :=
  if e.kind = 2 then ⟨addN g.procs e.proc, g.objs, answer g.calls (findO g.opn (g.procs.idxOf e.proc)) at' e.val, dropO g.opn (g.procs.idxOf e.proc)⟩
  else ⟨addN g.procs e.proc, addN g.objs e.obj, g.calls ++ [⟨g.procs.idxOf e.proc, g.objs.idxOf e.obj, e.op, e.val, at', -1, zeroVl⟩], (g.procs.idxOf e.proc, g.calls.length) :: g.opn⟩
def gAt (l : List Evn) : Nat → Gs
  | 0 => ⟨[], [], [], []⟩
  | k + 1 => if h : k < l.length then takeM (gAt l k) k l[k] else gAt l k
theorem gAt_succ (l : List Evn) (k : Nat) (h : k < l.length) : gAt l (k + 1) = takeM (gAt l k) k l[k] := by
  rw [gAt, dif_pos h]
def largeG (g : Gs) : Bool := decide (64 < g.procs.length) || decide (4096 < g.calls.length) || decide (10 < g.opn.length)

theorem idx_add {l : List (List UInt8)} {s : List UInt8} : (addN l s).idxOf s = l.idxOf s := by
  unfold addN
  split
  · rfl
  · rename_i h
    rw [List.idxOf_append, if_neg h, List.idxOf_eq_length h]
    simp
theorem mem_add {l : List (List UInt8)} {s t : List UInt8} : t ∈ addN l s ↔ t ∈ l ∨ t = s := by
  unfold addN
  split
  · rename_i h
    constructor
    · exact .inl
    · rintro (h' | rfl)
      · exact h'
      · exact h
  · simp
theorem idx_add_old {l : List (List UInt8)} {s t : List UInt8} (h : t ∈ l) : (addN l s).idxOf t = l.idxOf t := by
  unfold addN
  split
  · rfl
  · rw [List.idxOf_append, if_pos h]
theorem nodup_add {l : List (List UInt8)} {s : List UInt8} (h : l.Nodup) : (addN l s).Nodup := by
  unfold addN
  split
  · exact h
  · rename_i hs
    rw [List.nodup_append]
    refine ⟨h, by simp, ?_⟩
    intro a ha b hb e
    simp at hb
    subst hb e
    exact hs ha
theorem idx_inj {l : List (List UInt8)} {s t : List UInt8} (hs : s ∈ l) (ht : t ∈ l) (h : l.idxOf s = l.idxOf t) : s = t := by
  have h1 := List.getElem_idxOf (List.idxOf_lt_length_of_mem hs)
  have h2 := List.getElem_idxOf (List.idxOf_lt_length_of_mem ht)
  rw [← h1, ← h2]
  congr 1

/-- What holds of the operations while the events are gone through. -/
structure Good (O : List (List UInt8)) (k : Nat) (g : Gs) : Prop where
  dup : g.procs.Nodup
  key : ∀ p c, (p, c) ∈ g.opn → p < g.procs.length
  one : ∀ p c c', (p, c) ∈ g.opn → (p, c') ∈ g.opn → c = c'
  opn : ∀ p c, (p, c) ∈ g.opn → ∃ h : c < g.calls.length, g.calls[c].proc = p ∧ g.calls[c].res = -1
  pend : ∀ i (h : i < g.calls.length), g.calls[i].res = -1 → (g.calls[i].proc, i) ∈ g.opn
  num : ∀ i (h : i < g.calls.length), g.calls[i].proc < g.procs.length
  plc : ∀ i (h : i < g.calls.length), g.calls[i].inv < k ∧ (g.calls[i].res = -1 ∨ (g.calls[i].inv : Int) < g.calls[i].res ∧ g.calls[i].res < k)
  seq : ∀ i j (hi : i < g.calls.length) (hj : j < g.calls.length), i < j → g.calls[i].proc = g.calls[j].proc → 0 ≤ g.calls[i].res ∧ g.calls[i].res < g.calls[j].inv
  nms : ∀ s, s ∈ O ↔ ∃ c, (g.procs.idxOf s, c) ∈ g.opn
theorem good_start : Good [] 0 ⟨[], [], [], []⟩ := by
  refine ⟨by simp, by simp, by simp, by simp, by simp, by simp, by simp, by simp, by simp⟩
theorem findO_mem {o : List (Nat × Nat)} {p c : Nat} (h1 : ∀ c c', (p, c) ∈ o → (p, c') ∈ o → c = c') (h : (p, c) ∈ o) : findO o p = c := by
  unfold findO
  cases e : o.find? (fun x => x.1 == p) with
  | none => have := List.find?_eq_none.1 e _ h; simp at this
  | some x =>
    have hx := List.find?_some e
    have hm := List.mem_of_find?_eq_some e
    simp only [beq_iff_eq] at hx
    obtain ⟨a, b⟩ := x
    simp only at hx
    subst hx
    simp only [Option.map_some, Option.getD_some]
    exact h1 _ _ hm h
theorem mem_drop {o : List (Nat × Nat)} {p q c : Nat} : (q, c) ∈ dropO o p ↔ (q, c) ∈ o ∧ q ≠ p := by
  unfold dropO
  simp
theorem answer_len (l : List Cl) (i at' : Nat) (v : Vl) : (answer l i at' v).length = l.length := by simp [answer]
theorem answer_get (l : List Cl) (i at' : Nat) (v : Vl) (j : Nat) (h : j < (answer l i at' v).length) : (answer l i at' v)[j] = if i = j then { l[j]'(by rwa [answer_len] at h) with res := (at' : Int), reply := v } else l[j]'(by rwa [answer_len] at h) := by
  have h' : j < l.length := by rwa [answer_len] at h
  have e := List.getElem_modify (fun c : Cl => { c with res := (at' : Int), reply := v }) i l j (by rwa [List.length_modify])
  exact e
/-- An invocation more. -/
theorem good_inv {O : List (List UInt8)} {k : Nat} {g : Gs} {e : Evn} (h : Good O k g) (hk : e.kind = 1) (ho : e.proc ∉ O) : Good (stepO O e) (k + 1) (takeM g k e) := by
  have hno : ∀ c, (g.procs.idxOf e.proc, c) ∉ g.opn := fun c hc => ho ((h.nms _).2 ⟨c, hc⟩)
  have hle : g.procs.length ≤ (addN g.procs e.proc).length := by unfold addN; split <;> simp
  have hix : g.procs.idxOf e.proc < (addN g.procs e.proc).length := by rw [← idx_add]; exact List.idxOf_lt_length_of_mem (mem_add.2 (.inr rfl))
  have hcl : ∀ i (hi : i < g.calls.length), g.calls[i].proc = g.procs.idxOf e.proc → 0 ≤ g.calls[i].res ∧ g.calls[i].res < k := fun i hi he => by
    have h1 := h.plc i hi
    rcases h1.2 with h2 | h2
    · exact absurd (h.pend i hi h2) (by rw [he]; exact hno i)
    · omega
  have gl : ∀ i (hi : i < (g.calls ++ [(⟨g.procs.idxOf e.proc, g.objs.idxOf e.obj, e.op, e.val, k, -1, zeroVl⟩ : Cl)]).length), (∃ h' : i < g.calls.length, (g.calls ++ [(⟨g.procs.idxOf e.proc, g.objs.idxOf e.obj, e.op, e.val, k, -1, zeroVl⟩ : Cl)])[i] = g.calls[i]) ∨ (i = g.calls.length ∧ (g.calls ++ [(⟨g.procs.idxOf e.proc, g.objs.idxOf e.obj, e.op, e.val, k, -1, zeroVl⟩ : Cl)])[i] = ⟨g.procs.idxOf e.proc, g.objs.idxOf e.obj, e.op, e.val, k, -1, zeroVl⟩) := fun i hi => by
    by_cases hl : i < g.calls.length
    · exact .inl ⟨hl, List.getElem_append_left hl⟩
    · have : i = g.calls.length := by simp at hi; omega
      subst this
      exact .inr ⟨rfl, by simp⟩
  unfold takeM stepO
  rw [if_pos hk, if_neg (by rw [hk]; decide)]
  refine ⟨nodup_add h.dup, fun p c hp => ?_, fun p c c' h1 h2 => ?_, fun p c hp => ?_, fun i hi hr => ?_, fun i hi => ?_, fun i hi => ?_, fun i j hi hj hij he => ?_, fun s => ?_⟩
  · rcases List.mem_cons.1 hp with hp | hp
    · cases hp; exact hix
    · exact Nat.lt_of_lt_of_le (h.key p c hp) hle
  · rcases List.mem_cons.1 h1 with h1 | h1 <;> rcases List.mem_cons.1 h2 with h2 | h2
    · cases h1; cases h2; rfl
    · cases h1; exact absurd h2 (hno _)
    · cases h2; exact absurd h1 (hno _)
    · exact h.one _ _ _ h1 h2
  · rcases List.mem_cons.1 hp with hp | hp
    · cases hp
      exact ⟨by simp, by simp⟩
    · obtain ⟨h1, h2⟩ := h.opn p c hp
      refine ⟨by simp; omega, ?_⟩
      rw [List.getElem_append_left h1]
      exact h2
  · rcases gl i hi with ⟨h', e'⟩ | ⟨rfl, e'⟩
    · rw [e'] at hr ⊢
      exact List.mem_cons_of_mem _ (h.pend i h' hr)
    · rw [e']
      exact List.mem_cons_self
  · rcases gl i hi with ⟨h', e'⟩ | ⟨rfl, e'⟩
    · rw [e']
      exact Nat.lt_of_lt_of_le (h.num i h') hle
    · rw [e']
      exact hix
  · rcases gl i hi with ⟨h', e'⟩ | ⟨rfl, e'⟩
    · rw [e']
      have := h.plc i h'
      omega
    · rw [e']
      exact ⟨by simp, .inl rfl⟩
  · dsimp only at he hi hj ⊢
    rcases gl j hj with ⟨hj', ej⟩ | ⟨rfl, ej⟩
    · rcases gl i hi with ⟨hi', ei⟩ | ⟨rfl, ei⟩
      · rw [ei, ej] at he ⊢
        exact h.seq i j hi' hj' hij he
      · omega
    · rcases gl i hi with ⟨hi', ei⟩ | ⟨rfl, ei⟩
      · rw [ei, ej] at he ⊢
        exact hcl i hi' he
      · omega
  · simp only [List.mem_cons]
    by_cases hs : s = e.proc
    · subst hs
      rw [idx_add]
      exact ⟨fun _ => ⟨_, .inl rfl⟩, fun _ => .inl rfl⟩
    · constructor
      · rintro (h1 | h1)
        · exact absurd h1 hs
        · obtain ⟨c, hc⟩ := (h.nms s).1 h1
          have hm : s ∈ g.procs := by
            have := h.key _ _ hc
            exact List.idxOf_lt_length_iff.1 this
          exact ⟨c, .inr (by rw [idx_add_old hm]; exact hc)⟩
      · rintro ⟨c, hc | hc⟩
        · have hq := (Prod.mk.inj hc).1
          rw [← idx_add (l := g.procs)] at hq
          have hm : s ∈ addN g.procs e.proc := List.idxOf_lt_length_iff.1 (by rw [hq, idx_add]; exact hix)
          exact absurd (idx_inj hm (mem_add.2 (.inr rfl)) hq) hs
        · right
          refine (h.nms s).2 ⟨c, ?_⟩
          have hlt := h.key _ _ hc
          have hm : s ∈ addN g.procs e.proc := List.idxOf_lt_length_iff.1 (by omega)
          rcases mem_add.1 hm with hm | hm
          · rwa [idx_add_old hm] at hc
          · exact absurd hm hs
/-- A response more. -/
theorem good_res {O : List (List UInt8)} {k : Nat} {g : Gs} {e : Evn} (h : Good O k g) (hk : e.kind = 2) (ho : e.proc ∈ O) : Good (stepO O e) (k + 1) (takeM g k e) := by
  obtain ⟨c0, hc0⟩ := (h.nms _).1 ho
  obtain ⟨hlt, hp0, hr0⟩ := h.opn _ _ hc0
  have hf : findO g.opn (g.procs.idxOf e.proc) = c0 := findO_mem (fun c c' => h.one _ c c') hc0
  have hm : e.proc ∈ g.procs := List.idxOf_lt_length_iff.1 (h.key _ _ hc0)
  have hadd : addN g.procs e.proc = g.procs := if_pos hm
  unfold takeM stepO
  rw [if_neg (show ¬ e.kind = 1 by rw [hk]; decide), if_pos hk, hf, hadd]
  have gl : ∀ i (hi : i < (answer g.calls c0 k e.val).length), ∃ h' : i < g.calls.length, (answer g.calls c0 k e.val)[i].proc = g.calls[i].proc ∧ (answer g.calls c0 k e.val)[i].inv = g.calls[i].inv ∧ (answer g.calls c0 k e.val)[i].res = if c0 = i then (k : Int) else g.calls[i].res := fun i hi => by
    have h' : i < g.calls.length := by rwa [answer_len] at hi
    refine ⟨h', ?_⟩
    rw [answer_get]
    split <;> simp
  refine ⟨h.dup, fun p c hp => h.key p c (mem_drop.1 hp).1, fun p c c' h1 h2 => h.one p c c' (mem_drop.1 h1).1 (mem_drop.1 h2).1, fun p c hp => ?_, fun i hi hr => ?_, fun i hi => ?_, fun i hi => ?_, fun i j hi hj hij he => ?_, fun s => ?_⟩
  · obtain ⟨hp1, hp2⟩ := mem_drop.1 hp
    obtain ⟨h1, h2, h3⟩ := h.opn p c hp1
    have hl : c < (answer g.calls c0 k e.val).length := by rwa [answer_len]
    obtain ⟨_, e1, _, e3⟩ := gl c hl
    have hne : c0 ≠ c := fun e' => by subst e'; exact hp2 (h2.symm.trans hp0)
    rw [if_neg hne] at e3
    exact ⟨hl, e1.trans h2, e3.trans h3⟩
  · obtain ⟨h', e1, _, e3⟩ := gl i hi
    rw [e3] at hr
    split at hr
    · omega
    · rename_i hne
      refine mem_drop.2 ⟨by rw [e1]; exact h.pend i h' hr, fun e' => hne ?_⟩
      have := h.pend i h' hr
      rw [e1] at e'
      rw [e'] at this
      exact h.one _ _ _ hc0 this
  · obtain ⟨h', e1, _, _⟩ := gl i hi
    rw [e1]
    exact h.num i h'
  · obtain ⟨h', _, e2, e3⟩ := gl i hi
    have h1 := h.plc i h'
    rw [e2, e3]
    split
    · exact ⟨by omega, .inr ⟨by have := h1.1; omega, by omega⟩⟩
    · exact ⟨by omega, by rcases h1.2 with h2 | h2; exact .inl h2; exact .inr (by omega)⟩
  · obtain ⟨hi', e1, _, e3⟩ := gl i hi
    obtain ⟨hj', f1, f2, _⟩ := gl j hj
    rw [e1, f1] at he
    have hs := h.seq i j hi' hj' hij he
    rw [e3, f2]
    split
    · rename_i h0
      subst h0
      omega
    · exact hs
  · simp only [List.mem_filter, decide_eq_true_eq]
    constructor
    · rintro ⟨h1, h2⟩
      obtain ⟨c, hc⟩ := (h.nms s).1 h1
      refine ⟨c, mem_drop.2 ⟨hc, fun e' => h2 ?_⟩⟩
      exact idx_inj (List.idxOf_lt_length_iff.1 (h.key _ _ hc)) hm e'
    · rintro ⟨c, hc⟩
      obtain ⟨h1, h2⟩ := mem_drop.1 hc
      exact ⟨(h.nms s).2 ⟨c, h1⟩, fun e' => h2 (by rw [e'])⟩
theorem fault_inv {O : List (List UInt8)} {e : Evn} (h : faultE O e = 0) : rightE e = true ∧ (e.kind = 1 ∧ e.proc ∉ O ∨ e.kind = 2 ∧ e.proc ∈ O) := by
  unfold faultE at h
  cases hr : rightE e
  · rw [hr] at h; simp at h
  · rw [hr] at h
    simp only [Bool.true_eq_false, if_false] at h
    refine ⟨rfl, ?_⟩
    split at h
    · rename_i h1
      split at h
      · omega
      · rename_i h2; exact .inl ⟨h1, h2⟩
    · rename_i h1
      split at h
      · rename_i h2
        have h3 : e.kind = 2 := by
          unfold rightE at hr
          rw [if_neg h1] at hr
          split at hr
          · assumption
          · cases hr
        exact .inr ⟨h3, h2⟩
      · omega
theorem good_at (l : List Evn) : ∀ k, k ≤ l.length → Fine l k → Good (opensAt l k) k (gAt l k)
  | 0, _, _ => good_start
  | k + 1, hk, hf => by
    have hlt : k < l.length := by omega
    have h := good_at l k (by omega) (fun j hj hjk => hf j hj (by omega))
    have h0 := hf k hlt (by omega)
    rw [opensAt_succ l k hlt, gAt_succ l k hlt]
    obtain ⟨_, h1 | h1⟩ := fault_inv h0
    · exact good_inv h h1.1 h1.2
    · exact good_res h h1.1 h1.2
end Go.Proofs.YthmhcpghfbifiaaGreatDoor

/- right, of events: names and values. -/
namespace Go.Proofs.YthmhcpghfbifiaaGreatDoor
open Go.RowKit

/-- The twelve cells of an event. -/
abbrev evCells (e : Evn) (s : Value) : Array Value := #[.int .i64 e.kind, .string (bsN e.proc), .string (bsN e.obj), .string (bsN e.op), .int .i64 e.val.kind, .int .i64 e.val.int, .int .i64 e.val.im, .string e.val.text, s, .int .i64 e.off, .int .i64 e.line, .int .i64 e.col]
/-- Its names are not too long. -/
structure EvOk (e : Evn) : Prop where
  proc : e.proc.length ≤ 1048576
  obj : e.obj.length ≤ 1048576
  op : e.op.length ≤ 1048576
  val : e.val.ok
theorem bsN_size (l : List UInt8) : (bsN l).size = l.length := by show (⟨l⟩ : Array UInt8).size = _; simp
theorem bsN_list (l : List UInt8) : (bsN l).data.toList = l := rfl
theorem bsN_toList (l : List UInt8) : (bsN l).toList = l := by
  rw [ByteArray.toList_eq]
end Go.Proofs.YthmhcpghfbifiaaGreatDoor

/- How events lie in memory; illFormed: the first event that is not right, or that its process may not have there. -/
namespace Go.Proofs.YthmhcpghfbifiaaGreatDoor
open Go.RowKit Go.Maps

/-- A slice of events that lies in blocks below B; n bounds how deep their values are. -/
def EvsAt (w : World) (B n : Nat) (sl : Value) (l : List Evn) : Prop := ∃ a c, sl = .slice a l.length c ∧ l.length ≤ 1000000000 ∧ ∀ j (h : j < l.length), ∃ b off s', a = some ⟨b, off, none⟩ ∧ b < B ∧
  (∀ (i : Nat) (v : Value), (evCells l[j] s')[i]? = some v → w.cell? ⟨b, off + j * 12 + i, none⟩ = some v) ∧ ItemsAt w B n s' l[j].val.items ∧ EvOk l[j] ∧ l[j].val.size ≤ 1000000000
theorem EvsAt.kept {w w' : World} {B n : Nat} {sl : Value} {l : List Evn} (h : EvsAt w B n sl l) (hk : ∀ b o, b < B → w'.cell? ⟨b, o, none⟩ = w.cell? ⟨b, o, none⟩) : EvsAt w' B n sl l := by
  obtain ⟨a, c, e, hl, hc⟩ := h
  refine ⟨a, c, e, hl, fun j hj => ?_⟩
  obtain ⟨b, off, s', e, hb, h0, h1, h2, h3⟩ := hc j hj
  exact ⟨b, off, s', e, hb, fun i v hv => (hk _ _ hb).trans (h0 i v hv), h1.kept hk, h2, h3⟩
theorem EvsAt.below {w w' : World} {B n : Nat} {sl : Value} {l : List Evn} (h : EvsAt w B n sl l) (hb : Below B w w') : EvsAt w' B n sl l :=
  h.kept fun b o hB => hb.cell (p := ⟨b, o, none⟩) hB
theorem EvsAt.up {w : World} {B B' n : Nat} {sl : Value} {l : List Evn} (h : EvsAt w B n sl l) (hB : B ≤ B') : EvsAt w B' n sl l := by
  obtain ⟨a, c, e, hl, hc⟩ := h
  refine ⟨a, c, e, hl, fun j hj => ?_⟩
  obtain ⟨b, off, s', e, hb, h0, h1, h2, h3⟩ := hc j hj
  exact ⟨b, off, s', e, by omega, h0, h1.up hB, h2, h3⟩
theorem EvsAt.len {w : World} {B n : Nat} {sl : Value} {l : List Evn} (h : EvsAt w B n sl l) : ∃ a c, sl = .slice a l.length c ∧ l.length ≤ 1000000000 := by
  obtain ⟨a, c, e, hl, _⟩ := h
  exact ⟨a, c, e, hl⟩
/-- The event at a place, cell by cell. -/
theorem EvsAt.item {w : World} {B n : Nat} {a : Option Addr} {m c : Nat} {l : List Evn} (h : EvsAt w B n (.slice a m c) l) (j : Nat) (hj : j < l.length) : ∃ b off s', a = some ⟨b, off, none⟩ ∧ b < B ∧
    w.cell? ⟨b, off + j * 12, none⟩ = some (.int .i64 l[j].kind) ∧ w.cell? ⟨b, off + j * 12 + 1, none⟩ = some (.string (bsN l[j].proc)) ∧ w.cell? ⟨b, off + j * 12 + 2, none⟩ = some (.string (bsN l[j].obj)) ∧ w.cell? ⟨b, off + j * 12 + 3, none⟩ = some (.string (bsN l[j].op)) ∧
    w.cell? ⟨b, off + j * 12 + 4, none⟩ = some (.int .i64 l[j].val.kind) ∧ w.cell? ⟨b, off + j * 12 + 5, none⟩ = some (.int .i64 l[j].val.int) ∧ w.cell? ⟨b, off + j * 12 + 6, none⟩ = some (.int .i64 l[j].val.im) ∧ w.cell? ⟨b, off + j * 12 + 7, none⟩ = some (.string l[j].val.text) ∧ w.cell? ⟨b, off + j * 12 + 8, none⟩ = some s' ∧
    w.cell? ⟨b, off + j * 12 + 9, none⟩ = some (.int .i64 l[j].off) ∧ w.cell? ⟨b, off + j * 12 + 10, none⟩ = some (.int .i64 l[j].line) ∧ w.cell? ⟨b, off + j * 12 + 11, none⟩ = some (.int .i64 l[j].col) ∧ ItemsAt w B n s' l[j].val.items ∧ EvOk l[j] ∧ l[j].val.size ≤ 1000000000 := by
  obtain ⟨a', c', e, _, hc⟩ := h
  cases e
  obtain ⟨b, off, s', e, hb, h0, h1⟩ := hc j hj
  exact ⟨b, off, s', e, hb, h0 0 _ rfl, h0 1 _ rfl, h0 2 _ rfl, h0 3 _ rfl, h0 4 _ rfl, h0 5 _ rfl, h0 6 _ rfl, h0 7 _ rfl, h0 8 _ rfl, h0 9 _ rfl, h0 10 _ rfl, h0 11 _ rfl, h1⟩
theorem hLawStr : Keyed Tryz.prog 9 := string_keyed Tryz.underlying9
theorem keyStr {t : List UInt8} (h : t.length ≤ 1048576) : keyOf Tryz.prog 9 (.string (bsN t)) = some (.string t) := by
  rw [WideMaps.keyOf_string_mk Tryz.underlying9 (by unfold maxLen; show (bsN t).size ≤ _; rw [bsN_size]; omega)]
/-- What illFormed answers. -/
def IllR (l : List Evn) (at' : Nat) (code : Int) : Prop := (code = 0 ∧ at' = 0 ∧ Fine l l.length) ∨ (∃ h : at' < l.length, code = faultE (opensAt l at') l[at'] ∧ code ≠ 0 ∧ Fine l at')
/-- A set of names in a map. -/
def SetM (w : World) (mb k : Nat) (O : List (List UInt8)) : Prop := ∃ D : DataW Unit, w.ownsMap Tryz.prog 9 (unitElem (H := Unit)) mb k D ∧ ∀ s, Maps.has D (.string s) = decide (s ∈ O)
theorem SetM.new (w : World) : SetM (w.alloc (.map #[] 0)) w.heap.size 0 [] := ⟨_, World.ownsMap_made _ _ _ _, fun s => by simp [Maps.has]⟩
theorem SetM.kept {w w' : World} {mb k : Nat} {O : List (List UInt8)} {row : Option Nat} (h : SetM w mb k O) (hg : w.grownBy w' row) (hne : some mb ≠ row) : SetM w' mb k O := by
  obtain ⟨D, h1, h2⟩ := h
  exact ⟨D, h1.kept hg hne, h2⟩
theorem SetM.below {w w' : World} {mb k : Nat} {O : List (List UInt8)} (h : SetM w mb k O) (hb : Below w.heap.size w w') : SetM w' mb k O := h.kept (grown_of_below (r := none) hb) (by simp)
theorem set_put {D : DataW Unit} {O : List (List UInt8)} {t : List UInt8} (hm : IsMap D) (h : ∀ s, Maps.has D (.string s) = decide (s ∈ O)) (s : List UInt8) : Maps.has (D.put (.string t) (.agg [])) (.string s) = decide (s ∈ t :: O) := by
  by_cases e : s = t
  · subst e
    rw [has_put_same (k := .string s) hm trivial]
    simp
  · rw [has_put_other (by simpa using e), h]
    simp [e]
theorem set_del {D : DataW Unit} {O : List (List UInt8)} {t : List UInt8} (h : ∀ s, Maps.has D (.string s) = decide (s ∈ O)) (s : List UInt8) : Maps.has (D.del (.string t)) (.string s) = decide (s ∈ O.filter (fun p => decide (p ≠ t))) := by
  by_cases e : s = t
  · subst e
    rw [has_del_same]
    simp
  · rw [has_del_other (by simpa using e), h]
    simp [e]
theorem fine_more {l : List Evn} {k : Nat} (hf : Fine l k) (hk : k < l.length) (h0 : faultE (opensAt l k) l[k] = 0) : Fine l (k + 1) := fun j hj hjk => by
  by_cases e : j = k
  · subst e; exact h0
  · exact hf j hj (by omega)
end Go.Proofs.YthmhcpghfbifiaaGreatDoor
