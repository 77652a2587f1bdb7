/- What text.Unquote reads. -/
import Derived.Test.YtpbebcefnkbnlabDoorTQuoteWalk
import Derived.Deep.RegionHeld3
import Derived.Deep.RegionWith
import Derived.Deep.QuietTactic
import Derived.BigQuiet
namespace Go.Proofs.YtpbebcefnkbnlabDoor
open Go.RowKit

/-- A digit's number, as a byte; 255: none. -/
def dgt (c : UInt8) : Nat := ((Lib.indexByte [48, 49, 50, 51, 52, 53, 54, 55, 56, 57, 97, 98, 99, 100, 101, 102] c) % 256).toNat
theorem dgt_lt (c : UInt8) : dgt c < 256 := by
  unfold dgt
  omega

set_option maxRecDepth 100000 in
theorem digit_k (c : UInt8) (w : World) :
    Calls Tryd.prog 69 #[.int .u8 (c.toNat : Nat)] w fun e w' => e = .returned (.int .u8 (dgt c : Nat)) ∧ w = w' := by
  have hct : Calls Tryd.prog 80 #[.string ⟨#[48, 49, 50, 51, 52, 53, 54, 55, 56, 57, 97, 98, 99, 100, 101, 102]⟩, .int .u8 (c.toNat : Nat)] w fun e w' => e = .returned (.int .i64 (Lib.indexByte [48, 49, 50, 51, 52, 53, 54, 55, 56, 57, 97, 98, 99, 100, 101, 102] c)) ∧ w = w' := by
    refine (Tryd.strings_IndexByte _ (c.toNat : Nat) w).mono ?_
    rintro e w' ⟨rfl, rfl⟩
    refine ⟨?_, rfl⟩
    simp
  have hd : dgt c = ((Lib.indexByte [48, 49, 50, 51, 52, 53, 54, 55, 56, 57, 97, 98, 99, 100, 101, 102] c) % 256).toNat := rfl
  generalize Lib.indexByte [48, 49, 50, 51, 52, 53, 54, 55, 56, 57, 97, 98, 99, 100, 101, 102] c = m at *
  have hm : (dgt c : Int) = m % 256 := by omega
  generalize dgt c = dd at *
  clear hd
  go_enter Tryd.func69, Tryd.ntmps69
  go_wp2_with (go_at_call 80; refine hct.mono ?_; rintro e w' ⟨rfl, rfl⟩)
  go_ret
  refine ⟨?_, rfl⟩
  rw [hm]
  rfl

def dgtN (b : Nat) : Nat := dgt (UInt8.ofNat b)
theorem digit_n (b : Nat) (hb : b < 256) (w : World) :
    Calls Tryd.prog 69 #[.int .u8 (b : Int)] w fun e w' => e = .returned (.int .u8 (dgtN b : Nat)) ∧ w = w' := by
  have h := digit_k (UInt8.ofNat b) w
  have e : (UInt8.ofNat b).toNat = b := by rw [UInt8.toNat_ofNat']; omega
  rw [e] at h
  exact h

def ins (l : List UInt8) : List UInt8 := if l.length < 2 then [] else (l.drop 1).take (l.length - 1 - 1)
set_option maxRecDepth 100000 in
theorem inside_k (s : ByteArray) (hs : s.size ≤ 281474976702464) (w : World) :
    Calls Tryd.prog 39 #[.string s] w fun e w' => e = .returned (.string (str (ins s.data.toList))) ∧ w = w' := by
  have hlen : s.data.toList.length = s.size := by rw [Array.length_toList]; rfl
  by_cases h : s.size < 2
  · have e : str (ins s.data.toList) = ⟨#[]⟩ := by unfold ins; rw [hlen, if_pos h]; rfl
    rw [e]
    go_enter Tryd.func39, Tryd.ntmps39
    go_wp2
    go_ret
    exact ⟨rfl, rfl⟩
  · have e : str (ins s.data.toList) = s.extract 1 (s.size - 1) := by unfold ins; rw [hlen, if_neg h, extract_str]
    rw [e]
    have e2 : ((s.size : Int) - 1) = ((s.size - 1 : Nat) : Int) := by omega
    have e3 : 1 ≤ s.size - 1 := by omega
    have e4 : s.size - 1 ≤ s.size := by omega
    generalize s.size - 1 = q at *
    have hsl : (Instr.slice 9 (.string s) (some (.int .i64 1)) (some (.int .i64 q)) none).run Tryd.prog w = .ok (.string (s.extract 1 q)) w := by
      rw [run_slice_string (P := Tryd.prog) w 9 s .i64 .i64 1 (q : Int) Tryd.underlying9 (by omega) (by omega) (by omega)]
      rfl
    go_enter Tryd.func39, Tryd.ntmps39
    go_wp2
    go_ret
    exact ⟨rfl, rfl⟩

/-- The byte for which an escape stands, and how long it is. -/
def escC (l : List UInt8) : UInt8 :=
  if Lib.hasPrefix l [92, 110] = true then 10
  else if Lib.hasPrefix l [92, 120] = true ∧ 4 ≤ l.length then (dgt (l.getD 2 0) * 16 % 256 ||| dgt (l.getD 3 0)).toUInt8
  else if 2 ≤ l.length then l.getD 1 0
  else 92
def escN (l : List UInt8) : Nat :=
  if Lib.hasPrefix l [92, 110] = true then 2
  else if Lib.hasPrefix l [92, 120] = true ∧ 4 ≤ l.length then 4
  else if 2 ≤ l.length then 2
  else 1

theorem pfx_nx (l : List UInt8) (h : Lib.hasPrefix l [92, 110] = true) : Lib.hasPrefix l [92, 120] = false := by
  match l with
  | [] => rfl
  | [a] => simp [Lib.hasPrefix, List.isPrefixOf]
  | a :: b :: t =>
    simp [Lib.hasPrefix, List.isPrefixOf] at h ⊢
    intro _
    rw [← h.2]
    decide

set_option maxRecDepth 100000 in
set_option maxHeartbeats 1000000 in
theorem escaped_k (s : ByteArray) (hs : s.size ≤ 281474976702464) (w : World) :
    Calls Tryd.prog 56 #[.string s] w fun e w' => e = .returned (.tuple #[.int .u8 (escC s.data.toList).toNat, .int .i64 (escN s.data.toList)]) ∧ ∃ n, w.drewN n = w' := by
  have hlen : s.data.toList.length = s.size := by rw [Array.length_toList]; rfl
  have hp1 : ∀ w, Calls Tryd.prog 48 #[.string s, .string ⟨#[92, 110]⟩] w fun e w' => e = .returned (.bool (Lib.hasPrefix s.data.toList [92, 110])) ∧ w = w' := fun w => by
    refine (Tryd.strings_HasPrefix _ _ w).mono ?_
    rintro e w' ⟨rfl, rfl⟩
    exact ⟨rfl, rfl⟩
  have hp2 : ∀ w, Calls Tryd.prog 48 #[.string s, .string ⟨#[92, 120]⟩] w fun e w' => e = .returned (.bool (Lib.hasPrefix s.data.toList [92, 120])) ∧ w = w' := fun w => by
    refine (Tryd.strings_HasPrefix _ _ w).mono ?_
    rintro e w' ⟨rfl, rfl⟩
    exact ⟨rfl, rfl⟩
  cases hn : Lib.hasPrefix s.data.toList [92, 110] with
  | true =>
    rw [hn] at hp1
    have hC : escC s.data.toList = 10 := by simp [escC, hn]
    have hN : escN s.data.toList = 2 := by simp [escN, hn]
    rw [hC, hN]
    clear hp2 hn hC hN
    go_enter Tryd.func56, Tryd.ntmps56
    go_wp2_with (go_at_call 48; refine (hp1 _).mono ?_; clear hp1; rintro e w' ⟨rfl, rfl⟩)
    go_ret2
    exact ⟨rfl, 0, rfl⟩
  | false =>
    rw [hn] at hp1
    by_cases hx4 : Lib.hasPrefix s.data.toList [92, 120] = true ∧ 4 ≤ s.size
    · have hC : escC s.data.toList = (dgt (s.data.toList.getD 2 0) * 16 % 256 ||| dgt (s.data.toList.getD 3 0)).toUInt8 := by
        unfold escC
        rw [hn, if_neg (by decide), hlen, if_pos hx4]
      have hN : escN s.data.toList = 4 := by
        unfold escN
        rw [hn, if_neg (by decide), hlen, if_pos hx4]
      obtain ⟨hx, h4⟩ := hx4
      rw [hx] at hp2
      rw [hC, hN]
      clear hC hN
      have hb2 := byte_at s 2 (by omega)
      have hb3 := byte_at s 3 (by omega)
      have i2 : 2 < s.size := by omega
      have i3 : 3 < s.size := by omega
      have z2 : (s.data.toList.getD 2 0).toNat < 256 := (s.data.toList.getD 2 0).toNat_lt
      have z3 : (s.data.toList.getD 3 0).toNat < 256 := (s.data.toList.getD 3 0).toNat_lt
      have g2 : dgt (s.data.toList.getD 2 0) = dgtN (s.data.toList.getD 2 0).toNat := by unfold dgtN; congr 1; simp
      have g3 : dgt (s.data.toList.getD 3 0) = dgtN (s.data.toList.getD 3 0).toNat := by unfold dgtN; congr 1; simp
      rw [g2, g3]
      clear g2 g3
      generalize (s.data.toList.getD 2 0).toNat = b2 at *
      generalize (s.data.toList.getD 3 0).toNat = b3 at *
      have hl2 : dgtN b2 < 256 := dgt_lt _
      have hl3 : dgtN b3 < 256 := dgt_lt _
      have HD := hide (digit_n b2 z2)
      obtain ⟨m, hm⟩ : ∃ m, dgtN b2 * 16 % 256 = m := ⟨_, rfl⟩
      have hm2 : m < 256 := by rw [← hm]; exact Nat.mod_lt _ (by decide)
      have hor := u8_or_nat m (dgtN b3) hm2 hl3
      have hsh : ((dgtN b2 : Int) * 16 % 256) = (m : Int) := by omega
      rw [hm]
      obtain ⟨q, hq⟩ : ∃ q, (m ||| dgtN b3) = q := ⟨_, rfl⟩
      rw [hq] at hor ⊢
      have hq2 : q < 256 := by rw [← hq]; exact Nat.or_lt_two_pow (n := 8) hm2 hl3
      have HQ : q.toUInt8.toNat = q := by rw [Nat.toUInt8_eq, UInt8.toNat_ofNat']; omega
      rw [HQ]
      clear hm hq HQ HD
      go_enter Tryd.func56, Tryd.ntmps56
      go_wp2_with (first
        | (go_at_call 48; refine (hp1 _).mono ?_; clear hp1; rintro e w' ⟨rfl, rfl⟩)
        | (go_at_call 48; refine (hp2 _).mono ?_; clear hp2; rintro e w' ⟨rfl, rfl⟩))
      have j2 : (2 : Int) < (s.size : Int) := by omega
      have j3 : (3 : Int) < (s.size : Int) := by omega
      have hix2 : ∀ w, (Instr.index 9 (.string s) (.int .i64 2)).run Tryd.prog w = .ok (.int .u8 (b2 : Int)) w := fun w => by simp [go_sem, j2, hb2]
      have hix3 : ∀ w, (Instr.index 9 (.string s) (.int .i64 3)).run Tryd.prog w = .ok (.int .u8 (b3 : Int)) w := fun w => by simp [go_sem, j3, hb3]
      go_quiet ((go_at_call 69; refine (digit_n _ (by assumption) _).mono (fun _ _ h => ⟨h.1, _, h.2.symm⟩)))
      go_wp2
      go_ret2
      exact ⟨rfl, _, rfl⟩
    · by_cases h2 : 2 ≤ s.size
      · have hC : escC s.data.toList = s.data.toList.getD 1 0 := by
          unfold escC
          rw [hn, if_neg (by decide), hlen, if_neg hx4, if_pos h2]
        have hN : escN s.data.toList = 2 := by
          unfold escN
          rw [hn, if_neg (by decide), hlen, if_neg hx4, if_pos h2]
        rw [hC, hN]
        have hb1 := byte_at s 1 (by omega)
        have i1 : 1 < s.size := by omega
        generalize (s.data.toList.getD 1 0).toNat = b1 at *
        clear hC hN
        cases hx : Lib.hasPrefix s.data.toList [92, 120] with
        | true =>
          rw [hx] at hp2
          have h4 : ¬ 4 ≤ s.size := fun h => hx4 ⟨hx, h⟩
          clear hx4
          go_enter Tryd.func56, Tryd.ntmps56
          go_wp2_with (first
            | (go_at_call 48; refine (hp1 _).mono ?_; clear hp1; rintro e w' ⟨rfl, rfl⟩)
            | (go_at_call 48; refine (hp2 _).mono ?_; clear hp2; rintro e w' ⟨rfl, rfl⟩))
          go_ret2
          exact ⟨rfl, 0, rfl⟩
        | false =>
          rw [hx] at hp2
          clear hx4
          go_enter Tryd.func56, Tryd.ntmps56
          go_wp2_with (first
            | (go_at_call 48; refine (hp1 _).mono ?_; clear hp1; rintro e w' ⟨rfl, rfl⟩)
            | (go_at_call 48; refine (hp2 _).mono ?_; clear hp2; rintro e w' ⟨rfl, rfl⟩))
          go_ret2
          exact ⟨rfl, 0, rfl⟩
      · have hC : escC s.data.toList = 92 := by
          unfold escC
          rw [hn, if_neg (by decide), hlen, if_neg hx4, if_neg h2]
        have hN : escN s.data.toList = 1 := by
          unfold escN
          rw [hn, if_neg (by decide), hlen, if_neg hx4, if_neg h2]
        rw [hC, hN]
        clear hC hN
        have h4 : ¬ 4 ≤ s.size := by omega
        clear hx4
        cases hx : Lib.hasPrefix s.data.toList [92, 120] with
        | true =>
          rw [hx] at hp2
          go_enter Tryd.func56, Tryd.ntmps56
          go_wp2_with (first
            | (go_at_call 48; refine (hp1 _).mono ?_; clear hp1; rintro e w' ⟨rfl, rfl⟩)
            | (go_at_call 48; refine (hp2 _).mono ?_; clear hp2; rintro e w' ⟨rfl, rfl⟩))
          go_ret2
          exact ⟨rfl, 0, rfl⟩
        | false =>
          rw [hx] at hp2
          go_enter Tryd.func56, Tryd.ntmps56
          go_wp2_with (first
            | (go_at_call 48; refine (hp1 _).mono ?_; clear hp1; rintro e w' ⟨rfl, rfl⟩)
            | (go_at_call 48; refine (hp2 _).mono ?_; clear hp2; rintro e w' ⟨rfl, rfl⟩))
          go_ret2
          exact ⟨rfl, 0, rfl⟩
end Go.Proofs.YtpbebcefnkbnlabDoor
