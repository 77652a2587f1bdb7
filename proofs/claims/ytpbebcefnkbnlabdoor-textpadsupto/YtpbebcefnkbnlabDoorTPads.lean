/- The document's padding; the walk of the statement on it. -/
import Derived.Test.YtpbebcefnkbnlabDoorTPadMath
namespace Go.Proofs.YtpbebcefnkbnlabDoor
open Go.RowKit

set_option maxRecDepth 100000 in
set_option maxHeartbeats 2000000 in
theorem refPad_k (s : ByteArray) (hs : s.size ≤ 1048576) (n : Int) (w : World) :
    Calls Tryd.prog 23 #[.string s, .int .i64 n] w fun e w' => e = .returned (.tuple #[.string (str (padT s.data.toList n)), .int .i64 (padE n)]) ∧ Below w.heap.size w w' := by
  have hlen : s.data.toList.length = s.size := by rw [Array.length_toList]; rfl
  by_cases hn : n < 0 ∨ 4096 < n
  · have e1 : str (padT s.data.toList n) = ⟨#[]⟩ := by unfold padT; rw [if_pos hn]; rfl
    have e2 : padE n = 23 := by unfold padE; rw [if_pos hn]
    rw [e1, e2]
    by_cases h0 : n < 0
    · clear hn
      go_enter Tryd.func23, Tryd.ntmps23
      go_wp2
      go_ret2
      exact ⟨rfl, Below.refl _ _⟩
    · have h4 : 4096 < n := by omega
      clear hn
      go_enter Tryd.func23, Tryd.ntmps23
      go_wp2
      go_ret2
      exact ⟨rfl, Below.refl _ _⟩
  · have e1 : padT s.data.toList n = s.data.toList ++ List.replicate (n - (ru s.data.toList).length).toNat 32 := by unfold padT; rw [if_neg hn]
    have e2 : padE n = 0 := by unfold padE; rw [if_neg hn]
    have h0 : 0 ≤ n := by omega
    have h4 : n ≤ 4096 := by omega
    have hru := ru_length_le s.data.toList
    rw [hlen] at hru
    rw [e1, e2]
    have hwk := refWidth_k s hs w
    generalize (ru s.data.toList).length = R at *
    clear hn e1 e2
    obtain ⟨X, hX⟩ : ∃ X, str (s.data.toList ++ List.replicate (n - R).toNat 32) = X := ⟨_, rfl⟩
    rw [hX]
    have HX := hide hX
    clear hX
    go_enter Tryd.func23, Tryd.ntmps23
    go_wp2_with (go_at_call 27; refine hwk.mono ?_; clear hwk; rintro e w1 ⟨rfl, hb⟩)
    go_loopw [0, 6] (fun v vi wr => ∃ j : Nat, v = .string (str (s.data.toList ++ List.replicate j 32)) ∧ vi = .int .i64 ((R + j : Nat) : Int) ∧ j ≤ (n - R).toNat ∧ wr = w1) (fun _ v _ => (n - Lib.intOf v).toNat)
    case atStart => exact ⟨0, by simp [str_bytes], rfl, Nat.zero_le _, rfl⟩
    case round =>
      obtain ⟨j, rfl, rfl, hj, rfl⟩ := hrel
      have hcat : str (s.data.toList ++ List.replicate j 32) ++ (⟨#[32]⟩ : ByteArray) = str (s.data.toList ++ List.replicate (j + 1) 32) := by
        have := cat_str (str (s.data.toList ++ List.replicate j 32)) [32]
        rw [bytes_str, List.append_assoc, ← List.replicate_succ'] at this
        exact this
      have hz : (str (s.data.toList ++ List.replicate j 32)).size ≤ 1048576 + 4096 := by
        rw [str_size, List.length_append, List.length_replicate, hlen]
        omega
      by_cases hlt : ((R + j : Nat) : Int) < n
      · have hlt' : (R : Int) + (j : Int) < n := by omega
        have HS := hide (rfl : str (s.data.toList ++ List.replicate (j + 1) 32) = str (s.data.toList ++ List.replicate (j + 1) 32))
        obtain ⟨SC, hSC⟩ : ∃ SC, str (s.data.toList ++ List.replicate (j + 1) 32) = SC := ⟨_, rfl⟩
        rw [hSC] at hcat
        have HSC := hide hSC
        clear hSC HS hlt
        generalize str (s.data.toList ++ List.replicate j 32) = SA at *
        go_wp2
        go_roundw
        case rel => exact ⟨j + 1, by rw [HSC.out], by simp; omega, by omega, trivial⟩
        case measure =>
          simp [Lib.intOf]
          omega
      · have hje : j = (n - R).toNat := by omega
        have hlt' : ¬ ((R : Int) + (j : Int) < n) := by omega
        have hXX := HX.out
        rw [← hje] at hXX
        rw [hXX]
        clear hcat hlt hXX hje
        go_wp2
        go_ret2
        exact ⟨rfl, hb⟩

set_option maxRecDepth 100000 in
set_option maxHeartbeats 2000000 in
theorem textPads_walk (s : ByteArray) (hs : s.size ≤ 1048576) (n : Int) (w : World) (ht : Tabs w) :
    Calls Tryd.prog 6 #[.string s, .int .i64 n] w fun e w' => e = .returned (.bool true) ∧ Below w.heap.size w w' := by
  have hlen : s.data.toList.length = s.size := by rw [Array.length_toList]; rfl
  have hp := pad_k s (by omega) n
  have hr := refPad_k s hs n
  have hal := alive_k
  have hnum := num_k
  have hss : ∀ x : ByteArray, (x.toList == x.toList) = true := fun x => by simp
  by_cases hn : n < 0 ∨ 4096 < n
  · have e2 : padE n = 23 := by unfold padE; rw [if_pos hn]
    rw [e2] at hp hr
    clear hn
    have hss := hss (str (padT s.data.toList n))
    generalize str (padT s.data.toList n) = x at *
    go_enter Tryd.func6, Tryd.ntmps6
    go_wp2_with (first
      | (go_at_call 22; refine (hp _).mono ?_; rintro e w1 ⟨rfl, b1⟩)
      | (go_at_call 23; refine (hr _).mono ?_; rintro e w2 ⟨rfl, b2⟩)
      | (go_at_call 10; refine (hnum _ _).mono ?_; rintro e w3 ⟨rfl, rfl⟩)
      | (go_at_call 13; refine (hal _ ((ht.below b1).below b2)).mono ?_; rintro e w4 ⟨rfl, b4⟩))
    go_ret
    have s1 := b1.size
    have s2 := b2.size
    exact ⟨rfl, (b1.trans (b2.mono (by omega))).trans (b4.mono (by omega))⟩
  · have e1 : padT s.data.toList n = s.data.toList ++ List.replicate (n - (ru s.data.toList).length).toNat 32 := by unfold padT; rw [if_neg hn]
    have e2 : padE n = 0 := by unfold padE; rw [if_neg hn]
    have hru := ru_length_le s.data.toList
    rw [hlen] at hru
    have hx : (str (padT s.data.toList n)).size ≤ 281474976702464 := by
      rw [str_size, e1, List.length_append, List.length_replicate, hlen]
      omega
    have hw1 := width_k (str (padT s.data.toList n)) hx
    have hw2 := width_k s (by omega)
    rw [bytes_str, e1, ru_pad] at hw1
    rw [e1, e2] at hp hr
    have hmax : ((((ru s.data.toList).length + (n - (ru s.data.toList).length).toNat : Nat) : Int)) = max n ((ru s.data.toList).length : Int) := by omega
    rw [hmax] at hw1
    clear hmax
    have hss := hss (str (s.data.toList ++ List.replicate (n - (ru s.data.toList).length).toNat 32))
    clear e1 e2 hx hn
    generalize str (s.data.toList ++ List.replicate (n - (ru s.data.toList).length).toNat 32) = x at *
    generalize (ru s.data.toList).length = R at *
    go_enter Tryd.func6, Tryd.ntmps6
    go_wp2_with (first
      | (go_at_call 22; refine (hp _).mono ?_; rintro e w1 ⟨rfl, b1⟩)
      | (go_at_call 23; refine (hr _).mono ?_; rintro e w2 ⟨rfl, b2⟩)
      | (go_at_call 10; refine (hnum _ _).mono ?_; rintro e w3 ⟨rfl, rfl⟩)
      | (go_at_call 24; refine (hw1 _).mono ?_; clear hw1; rintro e w4 ⟨rfl, b3⟩)
      | (go_at_call 24; refine (hw2 _).mono ?_; clear hw2; rintro e w5 ⟨rfl, b4⟩)
      | (go_at_call 13; refine (hal _ ((((ht.below b1).below b2).below b3).below b4)).mono ?_; rintro e w6 ⟨rfl, b6⟩))
    go_ret
    have s1 := b1.size
    have s2 := b2.size
    have s3 := b3.size
    have s4 := b4.size
    exact ⟨rfl, (((b1.trans (b2.mono (by omega))).trans (b3.mono (by omega))).trans (b4.mono (by omega))).trans (b6.mono (by omega))⟩
end Go.Proofs.YtpbebcefnkbnlabDoor
