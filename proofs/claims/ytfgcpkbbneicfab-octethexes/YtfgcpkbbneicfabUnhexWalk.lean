/- What Unhex reads, whatever text it is given. -/
import Derived.Test.YtfgcpkbbneicfabUnhex
import Derived.Test.YtfgcpkbbneicfabArgs
namespace Go.Proofs.Ytfgcpkbbneicfab
open Go.RowKit

def sb (s : ByteArray) (i : Nat) : Nat := (s.data.toList.getD i 0).toNat
theorem sb_get (s : ByteArray) (i : Nat) (h : i < s.size) : (s[i]'h).toNat = sb s i := by
  have h' : i < s.data.toList.length := by rw [Array.length_toList]; exact h
  unfold sb
  rw [List.getD_eq_getElem?_getD, List.getElem?_eq_getElem h']
  rfl
theorem sb_lt (s : ByteArray) (i : Nat) : sb s i < 256 := (s.data.toList.getD i 0).toNat_lt
theorem dv_le (c : Nat) : dv c ≤ 16 := by unfold dv; split <;> (try split) <;> omega

/-- What place j holds when k bytes are read. -/
def vk (s : ByteArray) (k j : Nat) : Nat := if 2 * j + 1 < k then 16 * dv (sb s (2 * j)) + dv (sb s (2 * j + 1)) else if 2 * j < k then dv (sb s (2 * j)) else 0
def ol (s : ByteArray) (k : Nat) : List UInt8 := (List.range (s.size / 2)).map fun j => (vk s k j).toUInt8
def unL (s : ByteArray) : List UInt8 := (List.range (s.size / 2)).map fun j => (16 * dv (sb s (2 * j)) + dv (sb s (2 * j + 1))).toUInt8
theorem ol_len (s : ByteArray) (k : Nat) : (ol s k).length = s.size / 2 := by simp [ol]
theorem unL_len (s : ByteArray) : (unL s).length = s.size / 2 := by simp [unL]

/-- Are all bytes ahead of k digits? -/
def good (s : ByteArray) (k : Nat) : Prop := ∀ i, i < k → dv (sb s i) < 16
instance (s : ByteArray) (k : Nat) : Decidable (good s k) := by unfold good; exact inferInstance

def unErr (s : ByteArray) : Nat := if s.size % 2 = 0 ∧ good s s.size then 0 else 2
def unData (s : ByteArray) : List UInt8 := if s.size % 2 = 0 ∧ good s s.size then unL s else []

theorem ol_zero (s : ByteArray) : ol s 0 = List.replicate (s.size / 2) 0 := by
  unfold ol
  apply List.ext_getElem
  · simp
  · intro j h1 h2
    simp [vk]

theorem ol_end (s : ByteArray) (k : Nat) (h : s.size ≤ k) : ol s k = unL s := by
  unfold ol unL
  apply List.map_congr_left
  intro j hj
  have := List.mem_range.1 hj
  unfold vk
  rw [if_pos (by omega)]

theorem vk_small (s : ByteArray) (k j : Nat) (hg : good s k) : 2 * j ≥ k - 1 → vk s k j < 16 := by
  intro hj
  unfold vk
  split
  · omega
  · split
    · exact hg _ (by omega)
    · omega

theorem ol_step (s : ByteArray) (k : Nat) :
    ol s (k + 1) = (ol s k).set (k / 2) (vk s k (k / 2) * 16 + dv (sb s k)).toUInt8 := by
  unfold ol
  apply List.ext_getElem
  · simp
  · intro j h1 h2
    have hj : j < s.size / 2 := by simpa using h1
    rw [List.getElem_map, List.getElem_range, List.getElem_set]
    split
    · rename_i e
      subst e
      congr 1
      unfold vk
      rcases Nat.mod_two_eq_zero_or_one k with hm | hm
      · have e2 : 2 * (k / 2) = k := by omega
        have n1 : ¬ k + 1 < k := by omega
        rw [e2]
        simp [n1]
      · have e2 : 2 * (k / 2) + 1 = k := by omega
        rw [e2]
        rw [if_pos (by omega), if_neg (by omega), if_pos (by omega)]
        omega
    · rename_i e
      rw [List.getElem_map, List.getElem_range]
      congr 1
      unfold vk
      by_cases c1 : 2 * j + 1 < k
      · rw [if_pos (by omega), if_pos c1]
      · rw [if_neg (by omega), if_neg c1]
        by_cases c2 : 2 * j < k
        · rw [if_pos (by omega), if_pos c2]
        · rw [if_neg (by omega), if_neg c2]

theorem ol_get (s : ByteArray) (k : Nat) (j : Nat) (hj : j < s.size / 2) : (cellsOf (ol s k))[j]? = some (.int .u8 ((vk s k j).toUInt8.toNat : Int)) := by
  unfold cellsOf ol
  simp [hj]

theorem or_step (v d : Nat) (hv : v < 16) (hd : d < 16) : bits .or .u8 ((v.toUInt8.toNat : Int) * 16 % 256) (d : Int) = (((v * 16 + d).toUInt8.toNat : Nat) : Int) := by
  have e1 : v.toUInt8.toNat = v := by rw [Nat.toUInt8_eq, UInt8.toNat_ofNat']; omega
  have e2 : (v * 16 + d).toUInt8.toNat = v * 16 + d := by rw [Nat.toUInt8_eq, UInt8.toNat_ofNat']; omega
  have e3 : (v : Int) * 16 % 256 = ((v * 16 : Nat) : Int) := by omega
  rw [e1, e2, e3, u8_or_nat _ _ (by omega) (by omega), nat_join 4 _ _ (by omega) (by omega)]

theorem own_put {w : World} {base g n cap : Nat} {xs : List Value} (h : w.ownsRow base 5 1 (.slice (some ⟨g, 0, none⟩) n cap) n xs) (k : Nat) (u : Value) :
    (w.setCell ⟨g, k, none⟩ u).ownsRow base 5 1 (.slice (some ⟨g, 0, none⟩) n cap) n (xs.set k u) := by
  obtain ⟨h1, h2⟩ := h
  refine ⟨by rw [List.length_set]; exact h1, ?_⟩
  rcases h2 with ⟨h, _⟩ | ⟨g', cap', cur, hv, hb, hh, hnc, hcm, hcs, ht⟩
  · cases h
  · simp only [Value.slice.injEq, Option.some.injEq, Addr.mk.injEq, and_true, true_and] at hv
    obtain ⟨rfl, rfl⟩ := hv
    refine .inr ⟨g, cap, cur.setIfInBounds k u, rfl, hb, ?_, hnc, hcm, by simp; omega, ?_⟩
    · simp [World.setCell, Array.getElem?_modify, hh]
    · rw [← ht, Array.toList_setIfInBounds, List.take_set]

theorem own_get {w : World} {base g n cap : Nat} {xs : List Value} (h : w.ownsRow base 5 1 (.slice (some ⟨g, 0, none⟩) n cap) n xs) (k : Nat) (hk : k < n) :
    w.cell? ⟨g, k, none⟩ = xs[k]? ∧ w.frozen? ⟨g, k, none⟩ = false := by
  have hl : k < xs.length := by rw [h.1]; omega
  refine ⟨?_, ?_⟩
  · have := h.cells (g := g) rfl k xs[k] (by simp [hl])
    rw [Addr.add_lit, Nat.zero_add] at this
    rw [this]
    simp [hl]
  · rcases h.2 with ⟨h, _⟩ | ⟨g', cap', cur, hv, hb, hh, _⟩
    · cases h
    · simp only [Value.slice.injEq, Option.some.injEq, Addr.mk.injEq, and_true, true_and] at hv
      obtain ⟨rfl, rfl⟩ := hv
      simp [World.frozen?, hh]

/-- What stands when k bytes of the text are read. -/
structure Un (w wr : World) (s : ByteArray) (k : Nat) : Prop where
  iter : wr.heap[w.heap.size + 1]? = some (.stringIter s k)
  own : wr.ownsRow w.heap.size 5 1 (.slice (some ⟨w.heap.size, 0, none⟩) (s.size / 2) (s.size / 2)) (s.size / 2) (cellsOf (ol s k))
  bel : Below w.heap.size w wr
  good : good s k

theorem Un.next {w wr : World} {s : ByteArray} {k : Nat} (h : Un w wr s k) (hk : k < s.size) (he : s.size % 2 = 0) (hd : dv (sb s k) < 16) :
    Un w ((wr.iterAt (w.heap.size + 1) s (k + 1)).setCell ⟨w.heap.size, k / 2, none⟩ (.int .u8 ((vk s k (k / 2) * 16 + dv (sb s k)).toUInt8.toNat : Int))) s (k + 1) := by
  have hq : k / 2 < s.size / 2 := by omega
  refine ⟨?_, ?_, ?_, ?_⟩
  · rw [Below.heap_setCell _ _ _ _ (by simp)]
    exact Lib.iterAt_heap wr _ s k (k + 1) h.iter
  · rw [ol_step s k]
    have h1 : (wr.iterAt (w.heap.size + 1) s (k + 1)).ownsRow w.heap.size 5 1 (.slice (some ⟨w.heap.size, 0, none⟩) (s.size / 2) (s.size / 2)) (s.size / 2) (cellsOf (ol s k)) := by
      refine ⟨h.own.1, ?_⟩
      rcases h.own.2 with ⟨hv, _⟩ | ⟨g, cap, cur, hv, hb, hh, rest⟩
      · cases hv
      · have hv' := hv
        simp only [Value.slice.injEq, Option.some.injEq, Addr.mk.injEq, and_true, true_and] at hv'
        obtain ⟨rfl, rfl⟩ := hv'
        exact .inr ⟨_, _, cur, rfl, hb, by rw [Lib.iterAt_other _ _ _ _ _ (by omega)]; exact hh, rest⟩
    have h2 := own_put h1 (k / 2) (.int .u8 ((vk s k (k / 2) * 16 + dv (sb s k)).toUInt8.toNat : Int))
    have h3 : (cellsOf (ol s k)).set (k / 2) (.int .u8 ((vk s k (k / 2) * 16 + dv (sb s k)).toUInt8.toNat : Int)) = cellsOf ((ol s k).set (k / 2) (vk s k (k / 2) * 16 + dv (sb s k)).toUInt8) := by
      unfold cellsOf
      rw [List.map_set]
    rw [h3] at h2
    exact h2
  · exact (Lib.below_iterAt h.bel (by omega) s (k + 1)).setCell (Nat.le_refl _) _
  · intro i hi
    rcases Nat.lt_or_ge i k with h' | h'
    · exact h.good i h'
    · have : i = k := by omega
      subst this
      exact hd

theorem un_no {w w' : World} {s : ByteArray} (h : ¬ (s.size % 2 = 0 ∧ good s s.size)) (hb : Below w.heap.size w w') :
    ∃ a' c', (Ending.returned (.tuple #[.slice none 0 0, .int .i64 2])) = .returned (.tuple #[.slice a' (unData s).length c', .int .i64 (unErr s)]) ∧ Bytes w' (.slice a' (unData s).length c') (unData s) ∧ Below w.heap.size w w' := by
  have hE : unErr s = 2 := by unfold unErr; rw [if_neg h]
  have hD : unData s = [] := by unfold unData; rw [if_neg h]
  rw [hE, hD]
  exact ⟨none, 0, rfl, ⟨none, 0, rfl, fun j hj => by simp at hj⟩, hb⟩

theorem un_yes {w w' : World} {s : ByteArray} (N : Nat) (hN : s.size / 2 = N) (he : s.size % 2 = 0) (h : Un w w' s s.size) :
    ∃ a' c', (Ending.returned (.tuple #[.slice (some ⟨w.heap.size, 0, none⟩) N N, .int .i64 0])) = .returned (.tuple #[.slice a' (unData s).length c', .int .i64 (unErr s)]) ∧ Bytes w' (.slice a' (unData s).length c') (unData s) ∧ Below w.heap.size w w' := by
  have hg : s.size % 2 = 0 ∧ _root_.Go.Proofs.Ytfgcpkbbneicfab.good s s.size := ⟨he, h.good⟩
  have hE : unErr s = 0 := by unfold unErr; rw [if_pos hg]
  have hD : unData s = unL s := by unfold unData; rw [if_pos hg]
  have hown := h.own
  rw [ol_end s s.size (Nat.le_refl _)] at hown
  have hb := (ownsRow_bytes hown).2.plain
  subst hN
  rw [hE, hD, unL_len]
  exact ⟨_, _, rfl, hb, h.bel⟩

set_option maxRecDepth 100000 in
set_option maxHeartbeats 2000000 in
theorem unhex_even (s : ByteArray) (w : World) (hs : s.size ≤ 281474976702464) (he : s.size % 2 = 0) :
    Calls Try.prog 6 #[.string s] w fun e w' => ∃ a' c', e = .returned (.tuple #[.slice a' (unData s).length c', .int .i64 (unErr s)]) ∧ Bytes w' (.slice a' (unData s).length c') (unData s) ∧ Below w.heap.size w w' := by
  obtain ⟨i0, hi, hz0, hz1, hz2⟩ := info_parts info_u8
  obtain ⟨N, hN⟩ : ∃ N, s.size / 2 = N := ⟨_, rfl⟩
  have hdn : ((s.size : Int) / 2) = (N : Int) := by omega
  have hev : ((s.size : Int) % 2) = 0 := by omega
  have hmk := run_make (P := Try.prog) w 22 5 i0 (.int .u8 0) Try.underlying22 hi hz0 .i64 .i64 (N : Int) (N : Int) (by omega) (by omega) (by rw [hz2]; omega) (by omega)
  have hrg := fun w' => run_range_string (P := Try.prog) w' 9 s Try.underlying9
  go_enter Try.func6, Try.ntmps6
  go_wp2
  go_loopw [5] (fun _ wr => ∃ k : Nat, k ≤ s.size ∧ Un w wr s k) (fun _ wr => s.size - wr.iterPos (w.heap.size + 1))
  case atStart =>
    refine ⟨0, Nat.zero_le _, ?_, ?_, ?_, ?_⟩
    · have := World.iter_heap (w.alloc (.cells (madeCells #[.int .u8 0] N) 5)) s 0
      simp only [World.size_alloc] at this
      exact this
    · have h1 := World.ownsRow_lit (base := w.heap.size) (e := 5) (size := 1) w (madeCells #[.int .u8 0] N) N (Nat.le_refl _) (by unfold maxLen; omega) (by simp [madeCells])
      have h2 : (madeCells #[Value.int .u8 0] N).toList = cellsOf (ol s 0) := by
        rw [ol_zero, hN]
        unfold cellsOf
        apply List.ext_getElem
        · simp [madeCells]
        · intro j h1 h2
          simp [madeCells, Nat.mod_one]
      rw [h2] at h1
      rw [hN]
      exact h1.alloc _
    · exact ((Below.refl _ _).alloc (Nat.le_refl _) _).alloc (by simp) _
    · intro i hi
      omega
  case round =>
    obtain ⟨k, hk, hun⟩ := hrel
    have hpos : wr.iterPos (w.heap.size + 1) = k := by simp [World.iterPos, hun.iter]
    clear hmk hrg hev
    by_cases hlt : k < s.size
    · have hsb := sb_get s k hlt
      by_cases h128 : sb s k < 128
      · have hnx := fun ty => Lib.run_next_ascii_at (P := Try.prog) wr (w.heap.size + 1) s k ty hun.iter hlt (by rw [hsb]; exact h128)
        rw [hsb] at hnx
        clear hsb
        by_cases hd : dv (sb s k) < 16
        · have hq : k / 2 < s.size / 2 := by omega
          obtain ⟨g1, g2⟩ := own_get hun.own (k / 2) hq
          rw [ol_get s k (k / 2) hq] at g1
          have hne : w.heap.size ≠ w.heap.size + 1 := by omega
          have g3 : (wr.iterAt (w.heap.size + 1) s (k + 1)).cell? ⟨w.heap.size, k / 2, none⟩ = some (.int .u8 ((vk s k (k / 2)).toUInt8.toNat : Int)) := by
            rw [World.cell?_of_block (w := wr) (Lib.iterAt_other wr _ _ s (k + 1) hne)]
            exact g1
          have g4 : (wr.iterAt (w.heap.size + 1) s (k + 1)).frozen? ⟨w.heap.size, k / 2, none⟩ = false := by
            rw [World.frozen?_of_block (w := wr) (Lib.iterAt_other wr _ _ s (k + 1) hne)]
            exact g2
          have HV := hide (or_step (vk s k (k / 2)) (dv (sb s k)) (vk_small s k (k / 2) hun.good (by omega)) hd)
          have HU := hide (hun.next hlt he hd)
          have HPOS := hide hpos
          have HD := hide hd
          have hq2 : k / 2 < N := by omega
          clear hun g1 g2 hne hpos hd hq
          generalize (vk s k (k / 2)).toUInt8.toNat = x at *
          go_wp2_with (go_at_call 12; refine (digit_yes _ HD.out _).mono ?_; rintro e w2 ⟨rfl, rfl⟩)
          rw [HV.out]
          have HU' := HU.out
          have hp : (((wr.iterAt (w.heap.size + 1) s (k + 1)).setCell ⟨w.heap.size, k / 2, none⟩ (.int .u8 ((vk s k (k / 2) * 16 + dv (sb s k)).toUInt8.toNat : Int))).iterPos (w.heap.size + 1)) = k + 1 := by unfold World.iterPos; rw [HU'.iter]
          go_roundw
          case rel => exact ⟨k + 1, by omega, HU'⟩
          case measure => rw [hp, HPOS.out]; omega
        · have hd' : dv (sb s k) = 16 := by have := dv_le (sb s k); omega
          have HB := hide (un_no (w := w) (s := s) (fun h => hd (h.2 k hlt)) (Lib.below_iterAt (k := w.heap.size + 1) hun.bel (by omega) s (k + 1)))
          have HD := hide hd'
          clear hun hd hd' hpos
          go_wp2_with (go_at_call 12; refine (digit_no _ HD.out _).mono ?_; rintro e w2 ⟨rfl, rfl⟩)
          go_ret2
          exact HB.out
      · have hnx := fun ty => Lib.run_next_any_at (P := Try.prog) wr (w.heap.size + 1) s k ty hun.iter hlt
        have hhi := (decode_high s k hlt (by omega)).1
        have hd0 : dv (Utf8.decode s k).1 = 16 := by unfold dv; rw [if_neg (by omega), if_neg (by omega)]
        have hd : dv (sb s k) = 16 := by unfold dv; rw [if_neg (by omega), if_neg (by omega)]
        generalize (Utf8.decode s k).1 = r at *
        generalize k + (Utf8.decode s k).2 = k' at *
        have HB := hide (un_no (w := w) (s := s) (fun h => by have := h.2 k hlt; omega) (Lib.below_iterAt (k := w.heap.size + 1) hun.bel (by omega) s k'))
        have HD := hide hd0
        clear hun hd hd0 hpos hsb hhi
        go_wp2_with (go_at_call 12; refine (digit_no _ HD.out _).mono ?_; rintro e w2 ⟨rfl, rfl⟩)
        go_ret2
        exact HB.out
    · have hnx := fun ty => Lib.run_next_end_at (P := Try.prog) wr (w.heap.size + 1) s k ty hun.iter hlt
      have e : k = s.size := by omega
      subst e
      have HB := hide (un_yes N hN he hun)
      clear hun hpos
      go_wp2
      go_ret2
      exact HB.out

set_option maxRecDepth 100000 in
theorem unhex_odd (s : ByteArray) (w : World) (hs : s.size ≤ 281474976702464) (he : s.size % 2 = 1) :
    Calls Try.prog 6 #[.string s] w fun e w' => ∃ a' c', e = .returned (.tuple #[.slice a' (unData s).length c', .int .i64 (unErr s)]) ∧ Bytes w' (.slice a' (unData s).length c') (unData s) ∧ Below w.heap.size w w' := by
  have HB := hide (un_no (w := w) (w' := w) (s := s) (fun h => by omega) (Below.refl _ _))
  have hev : ((s.size : Int) % 2) = 1 := by omega
  go_enter Try.func6, Try.ntmps6
  go_wp2
  go_ret2
  exact HB.out

theorem unhex_any (s : ByteArray) (w : World) (hs : s.size ≤ 281474976702464) :
    Calls Try.prog 6 #[.string s] w fun e w' => ∃ a' c', e = .returned (.tuple #[.slice a' (unData s).length c', .int .i64 (unErr s)]) ∧ Bytes w' (.slice a' (unData s).length c') (unData s) ∧ Below w.heap.size w w' := by
  rcases Nat.mod_two_eq_zero_or_one s.size with h | h
  · exact unhex_even s w hs h
  · exact unhex_odd s w hs h
end Go.Proofs.Ytfgcpkbbneicfab
