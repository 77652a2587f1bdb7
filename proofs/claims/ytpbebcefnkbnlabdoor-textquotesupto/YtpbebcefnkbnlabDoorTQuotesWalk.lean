/- The walk of the statement on quoting. -/
import Derived.Test.YtpbebcefnkbnlabDoorTRefUnqK
import Derived.Test.YtpbebcefnkbnlabDoorTAliveWalk
namespace Go.Proofs.YtpbebcefnkbnlabDoor
open Go.RowKit

set_option maxRecDepth 100000 in
set_option maxHeartbeats 1000000 in
/-- The program's reading of what it quoted itself: however long that is. -/
theorem unquote_qt (l : List UInt8) (hl : l.length ≤ 1048576) (w : World) :
    Calls Tryd.prog 18 #[.string (str (qt l))] w fun e w' => e = .returned (.tuple #[.string (str l), .int .i64 0]) ∧ Below w.heap.size w w' := by
  have hfl := fl_len l
  have hsz : (str (qt l)).size ≤ 8388608 := by
    rw [str_size, qt_fl]
    simp
    omega
  have hi := inside_k (str (qt l)) (by omega) w
  rw [bytes_str, ins_qt] at hi
  have hu := unescape_k (str (fl l)) (by rw [str_size]; omega)
  rw [bytes_str, une_fl] at hu
  have hq := quote_k (str l) (by rw [str_size]; omega)
  rw [bytes_str] at hq
  generalize str (qt l) = Q at *
  generalize str (fl l) = F at *
  generalize str l = S at *
  clear hfl
  go_enter Tryd.func18, Tryd.ntmps18
  go_wp2_with (first
    | (go_at_call 39; refine hi.mono ?_; rintro e w1 ⟨rfl, rfl⟩)
    | (go_at_call 38; refine (hu _).mono ?_; rintro e w1 ⟨rfl, hb1⟩)
    | (go_at_call 20; refine (hq _).mono ?_; rintro e w2 ⟨rfl, hb2⟩))
  go_ret2
  exact ⟨rfl, hb1.trans (hb2.mono hb1.size)⟩

theorem unT_len (t : List UInt8) : (unT t).length ≤ 4 * t.length := by
  unfold unT
  split
  · have := une_len (ins t) 0
    have := ins_len t
    omega
  · simp
theorem unE_two (t : List UInt8) : unE t = 0 ∨ unE t = 24 := by
  unfold unE
  split
  · exact .inl rfl
  · exact .inr rfl

set_option maxRecDepth 100000 in
set_option maxHeartbeats 4000000 in
theorem textQuotes_walk (s : ByteArray) (hs : s.size ≤ 1048576) (t : ByteArray) (ht : t.size ≤ 1048576) (w : World) (htab : Tabs w) :
    Calls Tryd.prog 5 #[.string s, .string t] w fun e w' => e = .returned (.bool true) ∧ Below w.heap.size w w' := by
  have hls : s.data.toList.length = s.size := by rw [Array.length_toList]; rfl
  have hlt : t.data.toList.length = t.size := by rw [Array.length_toList]; rfl
  have hu := unquote_k t (by omega)
  have hru := refUnquote_k t ht
  have hq := quote_k s (by omega)
  have hrq := refQuote_k s hs
  have hu2 := unquote_qt s.data.toList (by omega)
  rw [str_bytes] at hu2
  have hul := unT_len t.data.toList
  have hqx := quote_k (str (unT t.data.toList)) (by rw [str_size]; omega)
  rw [bytes_str] at hqx
  have hok := un_ok t.data.toList
  have hE := unE_two t.data.toList
  have hal := alive_k
  have hnum := num_k
  have hre : ∀ X : ByteArray, (X.toList == X.toList) = true := fun X => by simp
  have hr1 := hre (str (unT t.data.toList))
  have hr2 := hre (str (qt s.data.toList))
  have hr3 := hre s
  have hr4 := hre t
  clear hul hls hlt hre
  rcases hE with hE | hE
  · have h0 := hok hE
    rw [hE] at hu hru
    rw [h0, str_bytes] at hqx
    clear hok h0 hE
    generalize str (unT t.data.toList) = X at *
    generalize str (qt s.data.toList) = Q at *
    go_enter Tryd.func5, Tryd.ntmps5
    go_wp2_with (first
      | (go_at_call 18; refine (hu _).mono ?_; clear hu; rintro e w1 ⟨rfl, b1⟩; have t1 := htab.below b1)
      | (go_at_call 19; refine (hru _).mono ?_; clear hru; rintro e w2 ⟨rfl, b2⟩; have t2 := t1.below b2)
      | (go_at_call 20; refine (hq _).mono ?_; clear hq; rintro e w3 ⟨rfl, b3⟩; have t3 := t2.below b3)
      | (go_at_call 18; refine (hu2 _).mono ?_; clear hu2; rintro e w4 ⟨rfl, b4⟩; have t4 := t3.below b4)
      | (go_at_call 10; refine (hnum _ _).mono ?_; rintro e w0 ⟨rfl, rfl⟩)
      | (go_at_call 21; refine (hrq _).mono ?_; clear hrq; rintro e w5 ⟨rfl, b5⟩; have t5 := t4.below b5)
      | (go_at_call 20; refine (hqx _).mono ?_; clear hqx; rintro e w6 ⟨rfl, b6⟩; have t6 := t5.below b6)
      | (go_at_call 13; refine (hal _ t6).mono ?_; rintro e w7 ⟨rfl, b7⟩))
    go_ret
    have s1 := b1.size
    have s2 := b2.size
    have s3 := b3.size
    have s4 := b4.size
    have s5 := b5.size
    have s6 := b6.size
    exact ⟨rfl, (((((b1.trans (b2.mono (by omega))).trans (b3.mono (by omega))).trans (b4.mono (by omega))).trans (b5.mono (by omega))).trans (b6.mono (by omega))).trans (b7.mono (by omega))⟩
  · rw [hE] at hu hru
    clear hok hE hqx
    generalize str (unT t.data.toList) = X at *
    generalize str (qt s.data.toList) = Q at *
    go_enter Tryd.func5, Tryd.ntmps5
    go_wp2_with (first
      | (go_at_call 18; refine (hu _).mono ?_; clear hu; rintro e w1 ⟨rfl, b1⟩; have t1 := htab.below b1)
      | (go_at_call 19; refine (hru _).mono ?_; clear hru; rintro e w2 ⟨rfl, b2⟩; have t2 := t1.below b2)
      | (go_at_call 20; refine (hq _).mono ?_; clear hq; rintro e w3 ⟨rfl, b3⟩; have t3 := t2.below b3)
      | (go_at_call 18; refine (hu2 _).mono ?_; clear hu2; rintro e w4 ⟨rfl, b4⟩; have t4 := t3.below b4)
      | (go_at_call 10; refine (hnum _ _).mono ?_; rintro e w0 ⟨rfl, rfl⟩)
      | (go_at_call 21; refine (hrq _).mono ?_; clear hrq; rintro e w5 ⟨rfl, b5⟩; have t5 := t4.below b5)
      | (go_at_call 13; refine (hal _ t5).mono ?_; rintro e w7 ⟨rfl, b7⟩))
    go_ret
    have s1 := b1.size
    have s2 := b2.size
    have s3 := b3.size
    have s4 := b4.size
    have s5 := b5.size
    exact ⟨rfl, ((((b1.trans (b2.mono (by omega))).trans (b3.mono (by omega))).trans (b4.mono (by omega))).trans (b5.mono (by omega))).trans (b7.mono (by omega))⟩
end Go.Proofs.YtpbebcefnkbnlabDoor
