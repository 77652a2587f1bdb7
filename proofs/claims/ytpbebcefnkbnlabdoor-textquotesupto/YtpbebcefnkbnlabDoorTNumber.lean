/- What text.Decimal and text.Number answer. -/
import Derived.Test.YtpbebcefnkbnlabDoorTWords
import Derived.Lib.LaidTab
namespace Go.Proofs.YtpbebcefnkbnlabDoor
open Go.RowKit

def wstep (n r : Int) : Int := wrap64 (wrap64 (n * 10) + (r - 48))
def raw (r : Int) : Int := if r < 0 then 65533 else r
def wv (l : List UInt8) : Int := (ru l).foldl (fun n x => wstep n (raw x.1)) 0
/-- What wrapped reckons. -/
def wrapd (l : List UInt8) : Int := if Lib.hasPrefix l [45] = true then wrap64 (-(wv (Lib.trimPrefix l [45]))) else wv (Lib.trimPrefix l [45])

set_option maxRecDepth 100000 in
set_option maxHeartbeats 1000000 in
theorem wrapped_k (s : ByteArray) (hs : s.size ≤ 281474976702464) (w : World) :
    Calls Tryd.prog 35 #[.string s] w fun e w' => e = .returned (.int .i64 (wrapd s.data.toList)) ∧ Below w.heap.size w w' := by
  obtain ⟨d, hd⟩ : ∃ d, str (Lib.trimPrefix s.data.toList [45]) = d := ⟨_, rfl⟩
  have hds : d.size ≤ s.size := by
    rw [← hd, str_size]
    have hlen : s.data.toList.length = s.size := by rw [Array.length_toList]; rfl
    unfold Lib.trimPrefix
    split
    · rw [List.length_drop]; omega
    · omega
  have hdl : d.data.toList = Lib.trimPrefix s.data.toList [45] := by rw [← hd, bytes_str]
  have hrg := fun w' => run_range_string (P := Tryd.prog) w' 9 d Tryd.underlying9
  have hct : Calls Tryd.prog 54 #[.string s, .string ⟨#[45]⟩] w fun e w' => e = .returned (.tuple #[.string d, .bool (Lib.hasPrefix s.data.toList [45])]) ∧ w = w' := by
    refine (Tryd.strings_CutPrefix s ⟨#[45]⟩ w).mono ?_
    rintro e w' ⟨rfl, rfl⟩
    refine ⟨?_, rfl⟩
    rw [← hd]
    rfl
  have hw : wrapd s.data.toList = if Lib.hasPrefix s.data.toList [45] = true then wrap64 (-(wv d.data.toList)) else wv d.data.toList := by rw [hdl]; rfl
  rw [hw]
  clear hw hdl hd
  generalize Lib.hasPrefix s.data.toList [45] = bb at *
  go_enter Tryd.func35, Tryd.ntmps35
  go_wp2_with (go_at_call 54; refine hct.mono ?_; rintro e w' ⟨rfl, rfl⟩)
  go_loopw [5, 7] (fun v _ wr => ∃ (k : Nat) (m : Int), v = .int .i64 m ∧ k ≤ d.size ∧ (ru (d.data.toList.drop k)).foldl (fun n x => wstep n (raw x.1)) m = wv d.data.toList ∧ wr.heap[w.heap.size]? = some (.stringIter d k) ∧ Below w.heap.size w wr)
    (fun _ _ wr => d.size - wr.iterPos w.heap.size)
  case atStart => exact ⟨0, 0, rfl, Nat.zero_le _, rfl, World.iter_heap w d 0, (Below.refl _ w).alloc (Nat.le_refl _) _⟩
  case round =>
    obtain ⟨k, m, rfl, hk, hfold, hit, hbel⟩ := hrel
    have hpos : wr.iterPos w.heap.size = k := by simp [World.iterPos, hit]
    clear hrg
    by_cases hlt : k < d.size
    · have hnx := fun ty => Lib.run_next_any_at (P := Tryd.prog) wr w.heap.size d k ty hit hlt
      rw [wd_dec] at hnx
      have h1 := wd_pos (d.data.toList.drop k)
      have h2 := wd_room d k hlt
      have hit2 := Lib.iterAt_heap wr w.heap.size d k (k + wd (d.data.toList.drop k)) hit
      have hbel2 := Lib.below_iterAt hbel (k := w.heap.size) (Nat.le_refl _) d (k + wd (d.data.toList.drop k))
      rw [ru_step _ (drop_ne d k hlt), List.drop_drop, List.foldl_cons] at hfold
      have hraw : raw (rv (d.data.toList.drop k)) = ((Utf8.decode d k).1 : Int) := by
        unfold rv raw
        rw [Lib.decodeL_drop d k]
        split
        · rename_i h
          rw [h.1]
          rfl
        · rw [if_neg (by omega)]
      dsimp only at hfold
      rw [hraw] at hfold
      have hdl : (Utf8.decode d k).1 ≤ 1114111 := by rw [← Lib.decodeL_drop d k]; exact Lib.decodeL_rune _
      clear hraw
      generalize (Utf8.decode d k).1 = dr at *
      generalize wd (d.data.toList.drop k) = ww at *
      go_wp2
      go_roundw
      case rel => exact ⟨k + ww, _, rfl, h2, hfold, hit2, hbel2⟩
      case measure =>
        have hp : (wr.iterAt w.heap.size d (k + ww)).iterPos w.heap.size = k + ww := by simp only [World.iterPos, hit2]
        rw [hp, hpos]
        omega
    · have hnx := fun ty => Lib.run_next_end_at (P := Tryd.prog) wr w.heap.size d k ty hit hlt
      rw [drop_end d k hlt, ru_nil] at hfold
      have hm : m = wv d.data.toList := hfold
      subst hm
      cases bb with
      | true =>
        go_wp2
        go_ret
        exact ⟨rfl, hbel⟩
      | false =>
        go_wp2
        go_ret
        exact ⟨rfl, hbel⟩

/-- The tables that the program reads, as its text lays them. -/
structure Tabs (w : World) : Prop where
  pow : ∃ t z, w.heap[1]? = some (.cells (Lib.pow10Tab.map fun z => Value.int .u64 z).toArray t z)
  lets : ∃ t z, w.heap[0]? = some (.cells #[.int .i32 65, .int .i32 90, .int .i32 95, .int .i32 95, .int .i32 97, .int .i32 122, .int .i32 192, .int .i32 214, .int .i32 216, .int .i32 246, .int .i32 248, .int .i32 591, .int .i32 913, .int .i32 929, .int .i32 931, .int .i32 969] t z)
theorem Tabs.room {w : World} (h : Tabs w) : 2 ≤ w.heap.size := by
  obtain ⟨t, z, e⟩ := h.pow
  have := (Array.getElem?_eq_some_iff.1 e).1
  omega
theorem Tabs.keep {w w' : World} {n : Nat} (h : Tabs w) (hb : Below n w w') (hn : 2 ≤ n) : Tabs w' := by
  obtain ⟨t, z, e⟩ := h.pow
  obtain ⟨t', z', e'⟩ := h.lets
  exact ⟨⟨t, z, (hb.block _ (by omega)).trans e⟩, ⟨t', z', (hb.block _ (by omega)).trans e'⟩⟩
theorem Tabs.below {w w' : World} (h : Tabs w) (hb : Below w.heap.size w w') : Tabs w' := h.keep hb h.room
theorem gPow : Tryd.prog.globalNamed "internal/strconv.uint64pow10" = some 1 := by kernel_rfl
theorem Tabs.tab {w : World} (h : Tabs w) : Lib.TabIs Tryd.prog w "internal/strconv.uint64pow10" .u64 Lib.pow10Tab := by
  obtain ⟨t, z, e⟩ := h.pow
  unfold Lib.TabIs World.var?
  rw [gPow]
  simp only [Option.bind_some, e]
theorem below_grow (w : World) (k : Nat) (os : Array Obj) : Below w.heap.size w (Sort.grow (w.drewN k) os) := by
  have e : (w.drewN k).heap = w.heap := rfl
  refine ⟨rfl, rfl, rfl, by simp [Sort.grow], fun j hj => ?_⟩
  simp only [Sort.grow, e]
  rw [Array.getElem?_append_left hj]

set_option maxRecDepth 100000 in
theorem decimal_k (n : Int) (h0 : -9223372036854775808 ≤ n) (h1 : n ≤ 9223372036854775807) (w : World) (ht : Tabs w) :
    Calls Tryd.prog 16 #[.int .i64 n] w fun e w' => e = .returned (.string (str (Lib.itoa n))) ∧ Below w.heap.size w w' := by
  go_enter Tryd.func16, Tryd.ntmps16
  go_wp2_with (go_at_call 36; refine (Tryd.strconv_FormatInt_10 n h0 h1 _ ht.tab).mono ?_; rintro e w' ⟨rfl, k, os, rfl⟩)
  go_ret
  exact ⟨rfl, below_grow _ _ _⟩

theorem wrap_lo (x : Int) : -9223372036854775808 ≤ wrap64 x := by
  simp only [wrap64]
  omega
theorem wrap_hi (x : Int) : wrap64 x ≤ 9223372036854775807 := by
  simp only [wrap64]
  omega
theorem wv_range (l : List UInt8) : -9223372036854775808 ≤ wv l ∧ wv l ≤ 9223372036854775807 := by
  have : ∀ (t : List (Int × Nat)) (m : Int), -9223372036854775808 ≤ m ∧ m ≤ 9223372036854775807 → -9223372036854775808 ≤ t.foldl (fun n x => wstep n (raw x.1)) m ∧ t.foldl (fun n x => wstep n (raw x.1)) m ≤ 9223372036854775807 := by
    intro t
    induction t with
    | nil => intro m h; exact h
    | cons x t ih => intro m _; exact ih _ ⟨wrap_lo _, wrap_hi _⟩
  exact this (ru l) 0 (by omega)
theorem wrapd_range (l : List UInt8) : -9223372036854775808 ≤ wrapd l ∧ wrapd l ≤ 9223372036854775807 := by
  unfold wrapd
  split
  · exact ⟨wrap_lo _, wrap_hi _⟩
  · exact wv_range _

def numV (l : List UInt8) : Int := if Lib.itoa (wrapd l) = l then wrapd l else 0
def numE (l : List UInt8) : Int := if Lib.itoa (wrapd l) = l then 0 else 22

set_option maxRecDepth 100000 in
set_option maxHeartbeats 1000000 in
theorem number_k (s : ByteArray) (hs : s.size ≤ 281474976702464) (w : World) (ht : Tabs w) :
    Calls Tryd.prog 14 #[.string s] w fun e w' => e = .returned (.tuple #[.int .i64 (numV s.data.toList), .int .i64 (numE s.data.toList)]) ∧ Below w.heap.size w w' := by
  have hr := wrapd_range s.data.toList
  have hwr := wrapped_k s hs w
  unfold numV numE
  generalize wrapd s.data.toList = m at *
  have HR := hide hr
  clear hr
  by_cases he : Lib.itoa m = s.data.toList
  · have hst : str (Lib.itoa m) = s := by rw [he, str_bytes]
    rw [if_pos he, if_pos he]
    clear he
    go_enter Tryd.func14, Tryd.ntmps14
    go_wp2_with (first
      | (go_at_call 35; refine hwr.mono ?_; rintro e w1 ⟨rfl, hb1⟩)
      | (go_at_call 16; refine (decimal_k m HR.out.1 HR.out.2 _ (ht.below hb1)).mono ?_; rintro e w2 ⟨rfl, hb2⟩))
    go_ret2
    exact ⟨rfl, hb1.trans (hb2.mono hb1.size)⟩
  · have hst : ((str (Lib.itoa m)).toList == s.toList) = false := by
      rw [Lib.toList_data, Lib.toList_data, bytes_str]
      simpa using he
    rw [if_neg he, if_neg he]
    clear he
    go_enter Tryd.func14, Tryd.ntmps14
    go_wp2_with (first
      | (go_at_call 35; refine hwr.mono ?_; rintro e w1 ⟨rfl, hb1⟩)
      | (go_at_call 16; refine (decimal_k m HR.out.1 HR.out.2 _ (ht.below hb1)).mono ?_; rintro e w2 ⟨rfl, hb2⟩))
    go_ret2
    exact ⟨rfl, hb1.trans (hb2.mono hb1.size)⟩
end Go.Proofs.YtpbebcefnkbnlabDoor
