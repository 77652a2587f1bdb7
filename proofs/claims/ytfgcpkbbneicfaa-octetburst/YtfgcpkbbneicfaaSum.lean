/- What the sums' own parts answer: growing, putting together, the four bytes of a sum, holding bytes against bytes. -/
import Derived.Test.YtfgcpkbbneicfaaSame
import Derived.Lib.AppendZeros
import Derived.Deep.QuietTactic
import Derived.BigQuiet
namespace Go.Proofs.Ytfgcpkbbneicfaa
open Go.RowKit

theorem cellsOf_app (l m : List UInt8) : cellsOf (l ++ m) = cellsOf l ++ cellsOf m := by simp [cellsOf]

theorem run_append_bytes (w : World) (base : Nat) (ty : TypeId) (v : Value) (n : Nat) (xs : List Value) (hown : w.ownsRow base 5 1 v n xs) (x : Value) (l : List UInt8) (hb : Bytes w x l)
    (hn : n + l.length ≤ 140737488355328) (hbase : base ≤ w.heap.size) :
    ∃ v' w', (Builtin.append_ #[23, 23] ty #[v, x]).run Try.prog w = .ok v' w' ∧ w'.ownsRow base 5 1 v' (n + l.length) (xs ++ cellsOf l) ∧ w.grownBy w' v.ownBlock := by
  obtain ⟨i0, hi, hz0, hz1, hz2⟩ := info_parts info_u8
  obtain ⟨a, c, rfl, _⟩ := id hb
  rcases a with _ | ad
  · have : l = [] := by
      rcases hb.elim with ⟨h, _⟩ | ⟨_, b, off, c, h, _⟩
      · exact h
      · cases h
    subst this
    refine ⟨v, w, ?_, by simpa [cellsOf] using hown, grownBy_refl _ _⟩
    rcases hown.2 with ⟨rfl, rfl⟩ | ⟨g, cap, cur, rfl, hbg, hg, hnc, hcm, hcs, htake⟩
    · simp [Builtin.append_, run_underlying Try.underlying23, sizeOf, typeInfo, hi, Builtin.lenOf, Builtin.firstCells]
    · simp [Builtin.append_, run_underlying Try.underlying23, sizeOf, typeInfo, hi, Builtin.lenOf, Builtin.firstCells, hnc, storeCells]
  · obtain ⟨v', w', h1, h2, h3, _⟩ := run_append_own (P := Try.prog) w base 23 ty 5 i0 (.int .u8 0) 1 1 Try.underlying23 hi hz0 hz1 hz2 rfl (by decide) v n xs hown ad l.length c (cellsOf l) (by rw [cellsOf_length, Nat.mul_one]) hb.cells (cellsOf_one l) (by unfold maxLen; omega) (by omega) hbase
    exact ⟨v', w', h1, h2, h3⟩

set_option maxRecDepth 100000 in
set_option maxHeartbeats 1000000 in
theorem grow_nil (w : World) (n : Nat) (hn : 0 < n) (hn2 : n ≤ 140737488355328) :
    Calls Try.prog 46 #[.slice none 0 0, .int .i64 n] w fun e w' => ∃ v, e = .returned v ∧ w'.ownsRow w.heap.size 5 1 v 0 [] ∧ Below w.heap.size w w' := by
  obtain ⟨i0, hi, hz0, hz1, hz2⟩ := info_parts info_u8
  have hr := fun ty => Lib.run_append_nil_zeros (P := Try.prog) w 23 3 ty 5 i0 (.int .u8 0) .i64 .i64 Try.underlying23 Try.underlying3 hi hz0 n hn (by rw [hz1]; decide) (by omega) (by rw [hz2]; omega)
  go_enter Try.func46, Try.ntmps46
  go_wp2_with (at_builtin; refine Lib.wpList_append_run _ rfl (.tmp 20) (.tmp 21) 23 3 rfl _ _ rfl rfl _ _ (hr _) ?_)
  go_ret
  have hge := grownCap_ge w n 0 5
  have hle := grownCap_le_maxLen w n 0 5 (by unfold maxLen; omega)
  refine ⟨_, rfl, ⟨by simp, .inr ⟨w.heap.size, grownCap w n 0 5, _, rfl, Nat.le_refl _, heap_alloc_new w.drew _, Nat.zero_le _, hle, ?_, by simp⟩⟩, ((Below.refl _ _).drew).alloc (Nat.le_refl _) _⟩
  simp [size_zeroCells]
  omega

/-- The four bytes of a sum, the lowest first. -/
def le4 (x : Nat) : List UInt8 := [x.toUInt8, (x / 256).toUInt8, (x / 65536).toUInt8, (x / 16777216).toUInt8]
/-- Bytes and their sum. -/
def sealed (l : List UInt8) : List UInt8 := l ++ le4 (crc l).toNat

theorem u8_mod (x : Nat) : ((x : Int) % 256) = ((x.toUInt8.toNat : Nat) : Int) := by
  rw [Nat.toUInt8_eq, UInt8.toNat_ofNat']
  omega

theorem crc_one (w : World) (a : Option Addr) (c : Nat) (l : List UInt8) (hb : Bytes w (.slice a l.length c) l) (hl : l.length ≤ maxLen) :
    Calls Try.prog 33 #[.slice (some ⟨w.heap.size, 0, none⟩) 1 1] (w.alloc (.cells #[.slice a l.length c] 23)) fun e w' =>
      e = .returned (.int .u32 (crc l).toNat) ∧ w' = w.alloc (.cells #[.slice a l.length c] 23) := by
  have h := crc_some w.heap.size 0 1 [l] (w.alloc (.cells #[.slice a l.length c] 23)) (by unfold maxLen; simp) (by intro i hi; match i, hi with | 0, _ => exact hl) (by
    intro i hi
    match i, hi with
    | 0, _ =>
      refine ⟨.slice a l.length c, ?_, hb.later ((Below.refl _ _).alloc (Nat.le_refl _) _)⟩
      rw [Nat.zero_add, World.cell?_alloc_new]
      rfl)
  simpa using h

theorem lit4 (w : World) (g : Nat) (hg : g = w.heap.size) (x : Nat) (a0 a1 a2 a3 : Int) (h0 : a0 = (x : Int) % 256) (h1 : a1 = (x : Int) / 256 % 256) (h2 : a2 = (x : Int) / 65536 % 256) (h3 : a3 = (x : Int) / 16777216 % 256) :
    Bytes (w.alloc (.cells #[.int .u8 a0, .int .u8 a1, .int .u8 a2, .int .u8 a3] 5)) (.slice (some ⟨g, 0, none⟩) 4 4) (le4 x) := by
  subst hg
  have e0 := u8_mod x
  have e1 := u8_mod (x / 256)
  have e2 := u8_mod (x / 65536)
  have e3 := u8_mod (x / 16777216)
  refine ⟨_, 4, rfl, fun j hj => ⟨w.heap.size, 0, rfl, ?_⟩⟩
  rw [Nat.zero_add, World.cell?_alloc_new]
  match j, hj with
  | 0, _ => show some (Value.int .u8 a0) = some (.int .u8 (x.toUInt8.toNat : Int)); rw [← e0, h0]
  | 1, _ => show some (Value.int .u8 a1) = some (.int .u8 ((x / 256).toUInt8.toNat : Int)); rw [← e1, h1]; rfl
  | 2, _ => show some (Value.int .u8 a2) = some (.int .u8 ((x / 65536).toUInt8.toNat : Int)); rw [← e2, h2]; rfl
  | 3, _ => show some (Value.int .u8 a3) = some (.int .u8 ((x / 16777216).toUInt8.toNat : Int)); rw [← e3, h3]; rfl

set_option maxRecDepth 100000 in
set_option maxHeartbeats 1000000 in
theorem sumBytes_any (w : World) (a : Option Addr) (c : Nat) (l : List UInt8) (hb : Bytes w (.slice a l.length c) l) (hl : l.length ≤ maxLen) :
    Calls Try.prog 43 #[.slice a l.length c] w fun e w' => ∃ g, e = .returned (.slice (some ⟨g, 0, none⟩) 4 4) ∧ Bytes w' (.slice (some ⟨g, 0, none⟩) 4 4) (le4 (crc l).toNat) ∧ Below w.heap.size w w' := by
  have hlt := (crc l).isLt
  have HB := hide hb
  have HL := hide hl
  clear hb hl
  go_enter Try.func43, Try.ntmps43
  go_wp2_with (go_at_call 33; refine (crc_one _ _ _ l HB.out HL.out).mono ?_; rintro e w1 ⟨rfl, rfl⟩)
  go_ret
  exact ⟨_, rfl, lit4 _ _ (by simp) _ _ _ _ _ (by omega) (by omega) (by omega) (by omega), ((Below.refl _ _).alloc (Nat.le_refl _) _).alloc (by simp) _⟩

set_option maxRecDepth 100000 in
set_option maxHeartbeats 2000000 in
theorem concat_any (w : World) (pb pc : Nat) (ls : List (List UInt8)) (hl : ls.length ≤ maxLen) (hp : ∀ i (h : i < ls.length), ∃ a c, w.cell? ⟨pb, 0 + i, none⟩ = some (.slice a ls[i].length c) ∧ Bytes w (.slice a ls[i].length c) ls[i])
    (hpos : 0 < ls.flatten.length) (hsum : ls.flatten.length ≤ 140737488355328) :
    Calls Try.prog 44 #[.slice (some ⟨pb, 0, none⟩) ls.length pc] w fun e w' => ∃ v, e = .returned v ∧ w'.ownsRow w.heap.size 5 1 v ls.flatten.length (cellsOf ls.flatten) ∧ Below w.heap.size w w' := by
  have HP := hide hp
  have HPOS := hide hpos
  have HSUM := hide hsum
  have hpre : ∀ k, (ls.take k).flatten.length ≤ ls.flatten.length := fun k => by
    have := congrArg List.length (congrArg List.flatten (List.take_append_drop k ls))
    rw [List.flatten_append, List.length_append] at this
    omega
  have HPRE := hide hpre
  clear hp hpos hsum hpre
  unfold maxLen at hl
  go_enter Try.func44, Try.ntmps44
  go_wp2
  go_loop [3, 11] (fun t i => ∃ k : Nat, k ≤ ls.length ∧ i = .int .i64 k ∧ t = .int .i64 (ls.take k).flatten.length) (fun _ i => ls.length - (intOf i).toNat)
  case atStart => exact ⟨0, Nat.zero_le _, rfl, rfl⟩
  case round =>
    obtain ⟨k, hk, rfl, rfl⟩ := hrel
    have hpk := HPRE.out k
    have hs := HSUM.out
    by_cases hlt : k < ls.length
    · obtain ⟨a, c, hcell, _⟩ := HP.out k hlt
      simp only [Nat.zero_add] at hcell
      have hpk1 := HPRE.out (k + 1)
      have hstep : (ls.take (k + 1)).flatten.length = (ls.take k).flatten.length + ls[k].length := by
        rw [List.take_succ_eq_append_getElem hlt, List.flatten_append, List.length_append]
        simp
      rw [hstep] at hpk1
      have HST := hide hstep
      clear hstep
      generalize (ls.take k).flatten.length = s0 at *
      generalize ls[k].length = s1 at *
      go_wp2
      go_round
      case rel => exact ⟨k + 1, by omega, by go_num, by rw [HST.out]; go_num⟩
      case measure => simp [intOf]; omega
    · have e : (ls.take k).flatten.length = ls.flatten.length := by rw [List.take_of_length_le (by omega)]
      rw [e]
      clear hpk e
      generalize hN : ls.flatten.length = N at *
      have HN := hide hN
      clear hN
      go_wp2_with (go_at_call 46; refine (grow_nil _ N HPOS.out HSUM.out).mono ?_; rintro e w1 ⟨v1, rfl, A1, A2⟩; have B1 := hide A1; have B2 := hide A2; clear A1 A2)
      go_loopw [6, 27] (fun v i wr => ∃ k : Nat, k ≤ ls.length ∧ i = .int .i64 k ∧ wr.ownsRow w.heap.size 5 1 v (ls.take k).flatten.length (cellsOf (ls.take k).flatten) ∧ Below w.heap.size w wr) (fun _ i _ => ls.length - (intOf i).toNat)
      case atStart => exact ⟨0, Nat.zero_le _, rfl, B1.out, B2.out⟩
      case round =>
        clear hlt hk
        obtain ⟨k, hk, rfl, hown, hbel⟩ := hrel
        have hpk := HPRE.out k
        by_cases hlt : k < ls.length
        · obtain ⟨a, c, hcell, hby⟩ := HP.out k hlt
          simp only [Nat.zero_add] at hcell
          have hcell' := cell_later hbel hcell
          have hpk1 := HPRE.out (k + 1)
          have hstep : (ls.take (k + 1)).flatten = (ls.take k).flatten ++ ls[k] := by
            rw [List.take_succ_eq_append_getElem hlt, List.flatten_append]
            simp
          rw [hstep, List.length_append] at hpk1
          obtain ⟨v', w2, hr, A1, A2⟩ := run_append_bytes wr w.heap.size 23 u6 _ _ hown (.slice a ls[k].length c) ls[k] (hby.later hbel) (by have := HSUM.out; omega) hbel.size
          rw [← cellsOf_app] at A1
          have R : Hid (w2.ownsRow w.heap.size 5 1 v' (ls.take (k + 1)).flatten.length (cellsOf (ls.take (k + 1)).flatten) ∧ Below w.heap.size w w2) := by
            rw [hstep, List.length_append]
            exact ⟨A1, hbel.grown A2 hbel.size (fun k' hk' => (hown.lt k' hk').1)⟩
          have HR := hide hr
          clear A1 A2 hown hbel hpk hpk1 hstep hcell hby hr
          go_wp2_with (at_builtin; refine Lib.wpList_append_run _ rfl (.tmp 31) (.tmp 32) 23 23 rfl _ _ rfl rfl _ _ HR.out ?_)
          go_roundw
          case rel => exact ⟨k + 1, by omega, by go_num, R.out.1, R.out.2⟩
          case measure => simp [intOf]; omega
        · have R : Hid (wr.ownsRow w.heap.size 5 1 u6 ls.flatten.length (cellsOf ls.flatten) ∧ Below w.heap.size w wr) := by
            rw [List.take_of_length_le (by omega)] at hown
            exact ⟨hown, hbel⟩
          clear hown hbel
          rw [← HN.out]
          go_wp2
          go_ret
          exact ⟨_, rfl, R.out.1, R.out.2⟩
end Go.Proofs.Ytfgcpkbbneicfaa
