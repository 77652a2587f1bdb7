/- The walk of the statement on numbers. -/
import Derived.Test.YtpbebcefnkbnlabDoorTRefDec
namespace Go.Proofs.YtpbebcefnkbnlabDoor
open Go.RowKit

theorem num_itoa (n : Int) (h0 : -9223372036854775808 ≤ n) (h1 : n ≤ 9223372036854775807) : numV (Lib.itoa n) = n ∧ numE (Lib.itoa n) = 0 := by
  have h5 := (itoa_shape n h0 h1).2.2.2.2
  unfold numV numE
  rw [h5, if_pos rfl, if_pos rfl]
  exact ⟨rfl, rfl⟩

set_option maxRecDepth 100000 in
set_option maxHeartbeats 2000000 in
theorem textDecimals_walk (n : Int) (h0 : -9223372036854775808 ≤ n) (h1 : n ≤ 9223372036854775807) (s : ByteArray) (hs : s.size ≤ 281474976702464) (w : World) (ht : Tabs w) :
    Calls Tryd.prog 4 #[.int .i64 n, .string s] w fun e w' => e = .returned (.bool true) ∧ Below w.heap.size w w' := by
  have hx := number_k s hs
  have hy := refNumber_k s hs
  have hd := decimal_k n h0 h1
  have hrd := refDecimal_k n h0 h1
  have hl : (str (Lib.itoa n)).size ≤ 281474976702464 := by
    have := (itoa_shape n h0 h1).2.1
    rw [str_size]
    have h2 : nOff (Lib.itoa n) ≤ 1 := by unfold nOff; split <;> omega
    omega
  have hz := number_k (str (Lib.itoa n)) hl
  rw [bytes_str, (num_itoa n h0 h1).1, (num_itoa n h0 h1).2] at hz
  have hal := alive_k
  have hnum := num_k
  have hqV : ∀ V : Int, (V == V) = true := fun V => by simp
  have hq1 := hqV (numV s.data.toList)
  have hq2 := hqV (numE s.data.toList)
  have hq3 := hqV n
  have hss : ((str (Lib.itoa n)).toList == (str (Lib.itoa n)).toList) = true := by simp
  clear hqV hl
  generalize numV s.data.toList = V at *
  generalize numE s.data.toList = E at *
  generalize str (Lib.itoa n) = sx at *
  go_enter Tryd.func4, Tryd.ntmps4
  go_wp2_with (first
    | (go_at_call 14; refine (hx _ ht).mono ?_; clear hx; rintro e w1 ⟨rfl, b1⟩; have t1 := ht.below b1)
    | (go_at_call 15; refine (hy _).mono ?_; clear hy; rintro e w2 ⟨rfl, b2⟩; have t2 := t1.below b2)
    | (go_at_call 16; refine (hd _ t2).mono ?_; rintro e w3 ⟨rfl, b3⟩; have t3 := t2.below b3; have T2 := hide t2; clear t2)
    | (go_at_call 14; refine (hz _ t3).mono ?_; clear hz; rintro e w4 ⟨rfl, b4⟩; have t4 := t3.below b4)
    | (go_at_call 10; refine (hnum _ _).mono ?_; rintro e w0 ⟨rfl, rfl⟩)
    | (go_at_call 16; refine (hd _ t4).mono ?_; rintro e w5 ⟨rfl, b5⟩; have t5 := t4.below b5; have T4 := hide t4; clear t4)
    | (go_at_call 17; refine (hrd _).mono ?_; rintro e w6 ⟨rfl, b6⟩; have t6 := t5.below b6)
    | (go_at_call 13; refine (hal _ t6).mono ?_; rintro e w7 ⟨rfl, b7⟩))
  go_ret
  have s1 := b1.size
  have s2 := b2.size
  have s3 := b3.size
  have s4 := b4.size
  have s5 := b5.size
  have s6 := b6.size
  exact ⟨rfl, (((((b1.trans (b2.mono (by omega))).trans (b3.mono (by omega))).trans (b4.mono (by omega))).trans (b5.mono (by omega))).trans (b6.mono (by omega))).trans (b7.mono (by omega))⟩
end Go.Proofs.YtpbebcefnkbnlabDoor
