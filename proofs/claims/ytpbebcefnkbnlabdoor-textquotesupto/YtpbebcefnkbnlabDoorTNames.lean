/- What text.Name answers of every text. -/
import Derived.Test.YtpbebcefnkbnlabDoorTName
namespace Go.Proofs.YtpbebcefnkbnlabDoor
open Go.RowKit

def mayF (r : Int) : Bool := (decide (48 ≤ r) && decide (r ≤ 57)) || r == 39
set_option maxRecDepth 100000 in
theorem mayFollow_k (r : Int) (w : World) : Calls Tryd.prog 29 #[.int .i32 r] w fun e w' => e = .returned (.bool (mayF r)) ∧ w = w' := by
  unfold mayF
  by_cases a1 : 48 ≤ r
  · by_cases a2 : r ≤ 57
    · go_enter Tryd.func29, Tryd.ntmps29
      go_wp2
      go_ret
      refine ⟨?_, rfl⟩
      simp [a1, a2]
    · have e : (decide (48 ≤ r) && decide (r ≤ 57)) = false := by simp [a2]
      rw [e, Bool.false_or]
      go_enter Tryd.func29, Tryd.ntmps29
      go_wp2
      go_ret
      exact ⟨rfl, rfl⟩
  · have e : (decide (48 ≤ r) && decide (r ≤ 57)) = false := by simp [a1]
    rw [e, Bool.false_or]
    go_enter Tryd.func29, Tryd.ntmps29
    go_wp2
    go_ret
    exact ⟨rfl, rfl⟩
theorem may_is (r : Int) (b : Bool) (h : mayF r = b) (w : World) : Calls Tryd.prog 29 #[.int .i32 r] w fun e w' => e = .returned (.bool b) ∧ w = w' := by
  rw [← h]
  exact mayFollow_k r w
theorem letter_is (r : Int) (b : Bool) (h : isLetter r = b) (w : World) (ht : Tabs w) : Calls Tryd.prog 8 #[.int .i32 r] w fun e w' => e = .returned (.bool b) ∧ Below w.heap.size w w' := by
  rw [← h]
  exact letter_k r w ht

def okR (first : Bool) : List (Int × Nat) → Bool
  | [] => true
  | x :: t => (isLetter (raw x.1) || (!first && mayF (raw x.1))) && okR false t
def nameE (l : List UInt8) : Int := if l = [] ∨ 32 < (ru l).length then 21 else if okR true (ru l) = true then 0 else 21

set_option maxRecDepth 100000 in
set_option maxHeartbeats 2000000 in
theorem name_k (s : ByteArray) (hs : s.size ≤ 281474976702464) (w : World) (ht : Tabs w) :
    Calls Tryd.prog 11 #[.string s] w fun e w' => e = .returned (.int .i64 (nameE s.data.toList)) ∧ Below w.heap.size w w' := by
  have hlen : s.data.toList.length = s.size := by rw [Array.length_toList]; rfl
  by_cases h0 : s.data.toList = []
  · have e : nameE s.data.toList = 21 := by unfold nameE; rw [if_pos (.inl h0)]
    rw [e]
    have hs0 : s = ⟨#[]⟩ := by rw [← str_bytes s, h0]; rfl
    subst hs0
    go_enter Tryd.func11, Tryd.ntmps11
    go_wp2
    go_ret
    exact ⟨rfl, Below.refl _ _⟩
  · have hne : (s.toList == (⟨#[]⟩ : ByteArray).toList) = false := by
      rw [Lib.toList_data, Lib.toList_data]
      simpa using h0
    have hne2 : (s.toList == ([] : List UInt8)) = false := by
      rw [Lib.toList_data]
      simpa using h0
    have hwid := width_k s hs w
    have hru0 := ru_length_le s.data.toList
    by_cases h32 : 32 < (ru s.data.toList).length
    · have e : nameE s.data.toList = 21 := by unfold nameE; rw [if_pos (.inr h32)]
      rw [e]
      clear e
      generalize (ru s.data.toList).length = m at *
      have h32i : (32 : Int) < (m : Int) := by omega
      go_enter Tryd.func11, Tryd.ntmps11
      go_wp2_with (go_at_call 24; refine hwid.mono ?_; rintro e w1 ⟨rfl, hb1⟩)
      go_ret
      exact ⟨rfl, hb1⟩
    · have e : nameE s.data.toList = if okR true (ru s.data.toList) = true then 0 else 21 := by unfold nameE; rw [if_neg (fun h => h.elim h0 h32)]
      rw [e]
      clear e
      have hwid' : Calls Tryd.prog 24 #[.string s] w fun e w' => ∃ m : Nat, m ≤ 32 ∧ e = .returned (.int .i64 (m : Int)) ∧ Below w.heap.size w w' := by
        refine hwid.mono ?_
        rintro e w' ⟨rfl, hb⟩
        exact ⟨_, by omega, rfl, hb⟩
      have hrg := fun w' => run_range_string (P := Tryd.prog) w' 9 s Tryd.underlying9
      clear hwid
      go_enter Tryd.func11, Tryd.ntmps11
      go_wp2_with (go_at_call 24; refine hwid'.mono ?_; rintro e w1 ⟨m, hm, rfl, hb1⟩)
      go_loopw [3, 4] (fun _ _ wr => ∃ k : Nat, k ≤ s.size ∧ okR true (ru s.data.toList) = okR (decide (k = 0)) (ru (s.data.toList.drop k)) ∧ wr.heap[w1.heap.size]? = some (.stringIter s k) ∧ Below w1.heap.size w1 wr)
        (fun _ _ wr => s.size - wr.iterPos w1.heap.size)
      case atStart => exact ⟨0, Nat.zero_le _, rfl, World.iter_heap w1 s 0, (Below.refl _ w1).alloc (Nat.le_refl _) _⟩
      case round =>
        obtain ⟨k, hk, hok, hit, hbel⟩ := hrel
        have hpos : wr.iterPos w1.heap.size = k := by simp [World.iterPos, hit]
        clear hrg hwid'
        have ht1 := (ht.below hb1).below hbel
        by_cases hlt : k < s.size
        · have hnx := fun ty => Lib.run_next_any_at (P := Tryd.prog) wr w1.heap.size s k ty hit hlt
          rw [wd_dec] at hnx
          have q1 := wd_pos (s.data.toList.drop k)
          have q2 := wd_room s k hlt
          have hit2 := Lib.iterAt_heap wr w1.heap.size s k (k + wd (s.data.toList.drop k)) hit
          have hbel2 := Lib.below_iterAt hbel (k := w1.heap.size) (Nat.le_refl _) s (k + wd (s.data.toList.drop k))
          have hraw := raw_dec s k
          have hsz : w1.heap.size < wr.heap.size := (Array.getElem?_eq_some_iff.1 hit).1
          have ht2 : Tabs (wr.iterAt w1.heap.size s (k + wd (s.data.toList.drop k))) := (ht.below hb1).below hbel2
          rw [ru_step _ (drop_ne s k hlt), List.drop_drop, okR] at hok
          dsimp only at hok
          rw [hraw] at hok
          clear hraw
          generalize (Utf8.decode s k).1 = dr at *
          generalize wd (s.data.toList.drop k) = ww at *
          have fin : ∀ w2, Below (wr.iterAt w1.heap.size s (k + ww)).heap.size (wr.iterAt w1.heap.size s (k + ww)) w2 → w2.heap[w1.heap.size]? = some (.stringIter s (k + ww)) ∧ Below w1.heap.size w1 w2 ∧ s.size - w2.iterPos w1.heap.size < s.size - wr.iterPos w1.heap.size := by
            intro w2 hb2
            have h3 : w2.heap[w1.heap.size]? = some (.stringIter s (k + ww)) := (hb2.block _ (by rw [Lib.iterAt_size]; omega)).trans hit2
            refine ⟨h3, hbel2.trans (hb2.mono (by rw [Lib.iterAt_size]; omega)), ?_⟩
            have hp : w2.iterPos w1.heap.size = k + ww := by simp only [World.iterPos, h3]
            rw [hp, hpos]
            omega
          cases hl : isLetter (dr : Int) with
          | true =>
            rw [hl, Bool.true_or, Bool.true_and] at hok
            go_wp2_with (go_at_call 8; refine (letter_is _ true hl _ ht2).mono ?_; rintro e w2 ⟨rfl, hb2⟩)
            obtain ⟨f1, f2, f3⟩ := fin w2 hb2
            go_roundw
            case rel =>
              refine ⟨k + ww, q2, ?_, f1, f2⟩
              rw [hok]
              congr 1
              simp
              omega
            case measure => exact f3
          | false =>
            rw [hl, Bool.false_or] at hok
            by_cases hk0 : k = 0
            · have hd : decide (k = 0) = true := by simp [hk0]
              have hki : ((k : Int) == 0) = true := by simp; exact hk0
              rw [hd] at hok
              simp at hok
              rw [hok]
              clear hk0 hd
              go_wp2_with (go_at_call 8; refine (letter_is _ false hl _ ht2).mono ?_; rintro e w2 ⟨rfl, hb2⟩)
              all_goals
                obtain ⟨f1, f2, f3⟩ := fin w2 hb2
                go_ret
                exact ⟨rfl, hb1.trans (f2.mono hb1.size)⟩
            · have hd : decide (k = 0) = false := by simp [hk0]
              rw [hd, Bool.not_false, Bool.true_and] at hok
              have hki : ((k : Int) == 0) = false := by simp; exact hk0
              cases hm2 : mayF (dr : Int) with
              | true =>
                rw [hm2, Bool.true_and] at hok
                go_wp2_with (first
                  | (go_at_call 8; refine (letter_is _ false hl _ ht2).mono ?_; rintro e w2 ⟨rfl, hb2⟩)
                  | (go_at_call 29; refine (may_is _ true hm2 _).mono ?_; rintro e w3 ⟨rfl, rfl⟩))
                obtain ⟨f1, f2, f3⟩ := fin w2 hb2
                go_roundw
                case rel =>
                  refine ⟨k + ww, q2, ?_, f1, f2⟩
                  rw [hok]
                  congr 1
                  simp
                  omega
                case measure => exact f3
              | false =>
                rw [hm2, Bool.false_and] at hok
                rw [hok]
                go_wp2_with (first
                  | (go_at_call 8; refine (letter_is _ false hl _ ht2).mono ?_; rintro e w2 ⟨rfl, hb2⟩)
                  | (go_at_call 29; refine (may_is _ false hm2 _).mono ?_; rintro e w3 ⟨rfl, rfl⟩))
                all_goals
                  obtain ⟨f1, f2, f3⟩ := fin w2 hb2
                  go_ret
                  exact ⟨rfl, hb1.trans (f2.mono hb1.size)⟩
        · have hnx := fun ty => Lib.run_next_end_at (P := Tryd.prog) wr w1.heap.size s k ty hit hlt
          rw [drop_end s k hlt, ru_nil, okR] at hok
          rw [hok]
          go_wp2
          go_ret
          exact ⟨rfl, hb1.trans (hbel.mono hb1.size)⟩
end Go.Proofs.YtpbebcefnkbnlabDoor
