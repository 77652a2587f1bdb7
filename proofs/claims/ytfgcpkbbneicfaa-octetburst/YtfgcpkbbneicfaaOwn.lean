/- Own answers true of rows that lie in blocks of their own: nothing else in memory turns. -/
import Derived.Test.YtfgcpkbbneicfaaWrite
import Derived.Deep.DeepAppendRoom
namespace Go.Proofs.Ytfgcpkbbneicfaa
open Go.RowKit

section
variable (B m gl : Nat) (g n cap : Nat → Nat)

/-- The byte that is laid into row i. -/
def ob (i : Nat) : Value := .int .u8 ((2 * i % 256 : Nat) : Int)
def ov (i : Nat) : Value := .slice (some ⟨g i, 0, none⟩) (n i) (cap i)

/-- Each row lies in its own block; where D says so its byte is laid. -/
def Lies (w : World) (D : Nat → Nat → Prop) : Prop :=
  (∀ i, i < m → ∃ xs : List Value, w.ownsRow B 5 1 (ov g n cap i) (n i) xs ∧ (∀ k, k < n i → ∃ z : Int, xs[k]? = some (.int .u8 z)) ∧ ∀ k, k < n i → D i k → xs[k]? = some (ob i)) ∧
  ∀ i, i < m → w.cell? ⟨gl, i, none⟩ = some (ov g n cap i)
end

theorem ownsRow_set {w : World} {base g n cap : Nat} {xs : List Value} (h : w.ownsRow base 5 1 (.slice (some ⟨g, 0, none⟩) n cap) n xs) (k : Nat) (u : Value) :
    (w.setCell ⟨g, k, none⟩ u).ownsRow base 5 1 (.slice (some ⟨g, 0, none⟩) n cap) n (xs.set k u) := by
  obtain ⟨h1, h2⟩ := h
  refine ⟨by rw [List.length_set]; exact h1, ?_⟩
  rcases h2 with ⟨h, _⟩ | ⟨g', cap', cur, hv, hb, hh, hnc, hcm, hcs, ht⟩
  · cases h
  · simp only [Value.slice.injEq, Option.some.injEq, Addr.mk.injEq, and_true, true_and] at hv
    obtain ⟨rfl, rfl⟩ := hv
    refine .inr ⟨g, cap, cur.setIfInBounds k u, rfl, hb, ?_, hnc, hcm, by simp; omega, ?_⟩
    · simp [World.setCell, Array.getElem?_modify, hh]
    · rw [← ht, Array.toList_setIfInBounds, List.take_set]

theorem own_cell {w : World} {base g n cap : Nat} {xs : List Value} (h : w.ownsRow base 5 1 (.slice (some ⟨g, 0, none⟩) n cap) n xs) (k : Nat) (hk : k < n) :
    w.cell? ⟨g, k, none⟩ = xs[k]? ∧ w.frozen? ⟨g, k, none⟩ = false := by
  have hl : k < xs.length := by rw [h.1]; omega
  refine ⟨?_, ?_⟩
  · have := h.cells (g := g) rfl k xs[k] (by simp [hl])
    rw [Addr.add_lit, Nat.zero_add] at this
    rw [this]
    simp [hl]
  · rcases h.2 with ⟨h, _⟩ | ⟨g', cap', cur, hv, hb, hh, _⟩
    · cases h
    · simp only [Value.slice.injEq, Option.some.injEq, Addr.mk.injEq, and_true, true_and] at hv
      obtain ⟨rfl, rfl⟩ := hv
      simp [World.frozen?, hh]


section
variable {B m gl : Nat} {g n cap : Nat → Nat}

theorem Lies.get {w : World} {D : Nat → Nat → Prop} (h : Lies B m gl g n cap w D) {i : Nat} (hi : i < m) : w.cell? ⟨gl, i, none⟩ = some (.slice (some ⟨g i, 0, none⟩) (n i) (cap i)) := h.2 i hi

theorem Lies.at {w : World} {D : Nat → Nat → Prop} (h : Lies B m gl g n cap w D) {i k : Nat} (hi : i < m) (hk : k < n i) :
    ∃ z : Int, w.cell? ⟨g i, k, none⟩ = some (.int .u8 z) ∧ w.frozen? ⟨g i, k, none⟩ = false ∧ (D i k → Value.int .u8 z = ob i) := by
  obtain ⟨xs, h1, h2, h3⟩ := h.1 i hi
  obtain ⟨z, hz⟩ := h2 k hk
  obtain ⟨h4, h5⟩ := own_cell h1 k hk
  refine ⟨z, by rw [h4]; exact hz, h5, fun hD => ?_⟩
  have := h3 k hk hD
  rw [hz] at this
  exact Option.some.inj this

/-- A store into row i. -/
theorem Lies.set {w : World} {D D' : Nat → Nat → Prop} (h : Lies B m gl g n cap w D) (hg : ∀ i j, i < m → j < m → g i = g j → i = j) (hgl : ∀ i, i < m → g i ≠ gl)
    {i k : Nat} (hi : i < m) (hk : k < n i) (hD : ∀ i' k', D' i' k' → D i' k' ∨ (i' = i ∧ k' = k)) : Lies B m gl g n cap (w.setCell ⟨g i, k, none⟩ (ob i)) D' := by
  refine ⟨fun j hj => ?_, fun j hj => ?_⟩
  · obtain ⟨xs, h1, h2, h3⟩ := h.1 j hj
    by_cases e : j = i
    · subst e
      have hl : k < xs.length := by rw [h1.1]; omega
      refine ⟨xs.set k (ob j), ownsRow_set h1 k _, fun q hq => ?_, fun q hq hd => ?_⟩
      · by_cases e : k = q
        · subst e
          exact ⟨_, by rw [List.getElem?_set_self hl]; rfl⟩
        · rw [List.getElem?_set_ne e]
          exact h2 q hq
      · by_cases e : k = q
        · subst e
          rw [List.getElem?_set_self hl]
        · rw [List.getElem?_set_ne e]
          rcases hD j q hd with h | h
          · exact h3 q hq h
          · omega
    · refine ⟨xs, h1.kept (grownBy_setCell _ _ _ _) (.inr ?_), h2, fun q hq hd => ?_⟩
      · intro e'
        simp only [ov, Value.ownBlock, Option.some.injEq] at e'
        exact e (hg j i hj hi e')
      · rcases hD j q hd with h | h
        · exact h3 q hq h
        · exact absurd h.1 e
  · exact (cell?_setCell_ne _ _ _ _ _ _ (fun e => hgl i hi e.symm)).trans (h.2 j hj)

theorem Lies.weaken {w : World} {D D' : Nat → Nat → Prop} (h : Lies B m gl g n cap w D) (hD : ∀ i k, i < m → k < n i → D' i k → D i k) : Lies B m gl g n cap w D' :=
  ⟨fun i hi => by obtain ⟨xs, h1, h2, h3⟩ := h.1 i hi; exact ⟨xs, h1, h2, fun k hk hd => h3 k hk (hD i k hi hk hd)⟩, h.2⟩

theorem ownsRow_prefix {w : World} {base g N n cap : Nat} {ys : List Value} (h : w.ownsRow base 5 1 (.slice (some ⟨g, 0, none⟩) N cap) N ys) (hn : n ≤ N) :
    w.ownsRow base 5 1 (.slice (some ⟨g, 0, none⟩) n cap) n (ys.take n) := by
  have hl : ys.length = N := by have := h.1; omega
  refine ⟨by rw [List.length_take]; omega, ?_⟩
  rcases h.2 with ⟨h, _⟩ | ⟨g', cap', cur, hv, hb, hh, hnc, hcm, hcs, ht⟩
  · cases h
  · simp only [Value.slice.injEq, Option.some.injEq, Addr.mk.injEq, and_true, true_and] at hv
    obtain ⟨rfl, rfl⟩ := hv
    refine .inr ⟨g, cap, cur, rfl, hb, hh, by omega, hcm, hcs, ?_⟩
    rw [← ht, List.take_take]
    congr 1
    omega

/-- Row i is appended to, within its room. -/
theorem Lies.more {w w1 : World} (h : Lies B m gl g n cap w (fun _ _ => True)) (hg : ∀ i j, i < m → j < m → g i = g j → i = j) (hgl : ∀ i, i < m → g i ≠ gl)
    {i N : Nat} {ys : List Value} (hi : i < m) (hgr : w.grownBy w1 (some (g i))) (hown : w1.ownsRow B 5 1 (.slice (some ⟨g i, 0, none⟩) N (cap i)) N ys) (hN : n i ≤ N)
    (hys : ∀ q, q < n i → ys[q]? = some (ob i)) : Lies B m gl g n cap w1 (fun _ _ => True) := by
  refine ⟨fun j hj => ?_, fun j hj => ?_⟩
  · by_cases e : j = i
    · subst e
      have hq : ∀ q, q < n j → (ys.take (n j))[q]? = some (ob j) := fun q hq => by
        rw [List.getElem?_take_of_lt hq]
        exact hys q hq
      exact ⟨ys.take (n j), ownsRow_prefix hown hN, fun q hq' => ⟨_, (hq q hq').trans rfl⟩, fun q hq' _ => hq q hq'⟩
    · obtain ⟨xs, h1, h2, h3⟩ := h.1 j hj
      refine ⟨xs, h1.kept hgr (.inr ?_), h2, h3⟩
      intro e'
      simp only [ov, Value.ownBlock, Option.some.injEq] at e'
      exact e (hg j i hj hi e')
  · have := h.2 j hj
    have hlt := World.block_lt_of_cell? w _ this
    rw [World.cell?_of_block (w := w) (hgr.block gl hlt (fun e => hgl i hi (Option.some.inj e).symm))]
    exact this

theorem Lies.alloc {w : World} {D : Nat → Nat → Prop} (h : Lies B m gl g n cap w D) (o : Obj) : Lies B m gl g n cap (w.alloc o) D := by
  refine ⟨fun j hj => ?_, fun j hj => ?_⟩
  · obtain ⟨xs, h1, h2, h3⟩ := h.1 j hj
    exact ⟨xs, h1.alloc o, h2, h3⟩
  · exact Lib.cell?_alloc_marked o (h.2 j hj)

theorem Lies.row {w : World} (h : Lies B m gl g n cap w (fun _ _ => True)) {i : Nat} (hi : i < m) :
    ∃ ys, w.ownsRow B 5 1 (.slice (some ⟨g i, 0, none⟩) (n i) (cap i)) (n i) ys ∧ ∀ q, q < n i → ys[q]? = some (ob i) := by
  obtain ⟨xs, h1, _, h3⟩ := h.1 i hi
  exact ⟨xs, h1, fun q hq => h3 q hq trivial⟩

theorem ob_walk (i : Nat) (hi : i < 128) : Value.int .u8 (2 * (i : Int)) = ob i := by
  unfold ob
  congr 1
  omega
end

set_option maxRecDepth 100000 in
set_option maxHeartbeats 2000000 in
theorem own_any (B m gl : Nat) (g n cap : Nat → Nat) (w : World) (hm : m < 128) (hL : Lies B m gl g n cap w (fun _ _ => False)) (hg : ∀ i j, i < m → j < m → g i = g j → i = j) (hgl : ∀ i, i < m → g i ≠ gl)
    (hn : ∀ i, i < m → n i ≤ cap i ∧ cap i ≤ maxLen) (hB : ∀ i, i < m → B ≤ g i) :
    Calls Try.prog 16 #[.slice (some ⟨gl, 0, none⟩) m m] w fun e w' => e = .returned (.bool true) ∧ Below B w w' := by
  have HG := hide hg
  have HGL := hide hgl
  have HN := hide hn
  have HBB := hide hB
  clear hg hgl hn hB
  obtain ⟨i0, hi0, hz0, hz1, hz2⟩ := info_parts info_u8
  go_enter Try.func16, Try.ntmps16
  go_wp2
  go_loopw [3, 4] (fun t _ wr => ∃ i : Nat, i ≤ m ∧ t = .int .i64 i ∧ Lies B m gl g n cap wr (fun i' _ => i' < i) ∧ Below B w wr) (fun t _ _ => m - (intOf t).toNat)
  case atStart => exact ⟨0, Nat.zero_le _, rfl, hL.weaken (fun _ _ _ _ h => absurd h (Nat.not_lt_zero _)), Below.refl _ _⟩
  case round =>
    obtain ⟨i, hi, rfl, hl, hb⟩ := hrel
    by_cases hlt : i < m
    · have hget := hl.get hlt
      have hnn := HN.out i hlt
      unfold maxLen at hnn
      have HLI := hide hl
      have HBI := hide hb
      clear hl hb hL
      go_wp2
      go_loopw [4] (fun t wx => ∃ k : Nat, k ≤ n i ∧ t = .int .i64 k ∧ Lies B m gl g n cap wx (fun i' k' => i' < i ∨ (i' = i ∧ k' < k)) ∧ Below B w wx) (fun t _ => n i - (intOf t).toNat)
      case atStart => exact ⟨0, Nat.zero_le _, rfl, HLI.out.weaken (fun _ _ _ _ h => by omega), HBI.out⟩
      case round =>
        obtain ⟨k, hk, rfl, hl, hb⟩ := hrel
        have hget' := hl.get hlt
        by_cases hkl : k < n i
        · obtain ⟨z, c1, c2, _⟩ := hl.at hlt hkl
          have HK := hide hl
          have HKB := hide hb
          clear hl hb
          go_wp2
          go_roundw
          case rel =>
            refine ⟨k + 1, by omega, by go_num, ?_, HKB.out.setCell (HBB.out i hlt) _⟩
            rw [ob_walk i (by omega)]
            exact HK.out.set HG.out HGL.out hlt hkl (fun i' k' h => by omega)
          case measure => simp [intOf]; omega
        · have HK := hide hl
          have HKB := hide hb
          clear hl hb
          go_wp2
          go_roundw
          case rel => exact ⟨i + 1, by omega, by go_num, HK.out.weaken (fun i' k' _ hk' h => by have : i' = i → k' < n i := fun e => e ▸ hk'; omega), HKB.out⟩
          case measure => simp [intOf]; omega
    · have HLI := hide (hl.weaken (D' := fun _ _ => True) (fun i' _ h _ _ => by omega))
      have HBI := hide hb
      clear hl hb hL
      go_wp2
      go_loopw [5, 6, 7, 8, 9] (fun t _ _ _ _ wr => ∃ i : Nat, i ≤ m ∧ t = .int .i64 i ∧ Lies B m gl g n cap wr (fun _ _ => True) ∧ Below B w wr) (fun t _ _ _ _ _ => m - (intOf t).toNat)
      case atStart => exact ⟨0, Nat.zero_le _, rfl, HLI.out, HBI.out⟩
      case round =>
        clear HLI HBI hlt hi
        obtain ⟨i, hi, rfl, hl, hb⟩ := hrel
        by_cases hlt : i < m
        · have hget := hl.get hlt
          have hnn := HN.out i hlt
          unfold maxLen at hnn
          have HLI := hide hl
          have HBI := hide hb
          clear hl hb
          go_wp2
          go_loopw [8, 9] (fun b t wx => ∃ k : Nat, n i + k ≤ cap i ∧ b = .slice (some ⟨g i, 0, none⟩) (n i + k) (cap i) ∧ t = .int .i64 k ∧ Lies B m gl g n cap wx (fun _ _ => True) ∧ Below B w wx ∧
              ∃ ys, wx.ownsRow B 5 1 (.slice (some ⟨g i, 0, none⟩) (n i + k) (cap i)) (n i + k) ys ∧ ∀ q, q < n i → ys[q]? = some (ob i)) (fun _ t _ => cap i - n i - (intOf t).toNat)
          case atStart => exact ⟨0, by omega, rfl, rfl, HLI.out, HBI.out, HLI.out.row hlt⟩
          case round =>
            obtain ⟨k, hk, rfl, rfl, hl, hb, ys, hys, hyq⟩ := hrel
            have HK := hide hl
            have HKB := hide hb
            have HYQ := hide hyq
            have HBG := hide (HBB.out i hlt)
            have hsz : Hid (B ≤ wr.heap.size) := by
              have := (hys.lt (g i) rfl)
              show B ≤ _
              omega
            clear hl hb hyq HLI HBI
            by_cases hkl : (k : Int) < (cap i : Int) - (n i : Int)
            · obtain ⟨c, hc⟩ : ∃ c : UInt8, Value.int .u8 (2 * (i : Int) + 1) = .int .u8 (c.toNat : Int) := ⟨UInt8.ofNat (2 * i + 1), by
                congr 1
                rw [UInt8.toNat_ofNat']
                omega⟩
              have HC := hide hc
              clear hc
              go_wp2_with (at_builtin; refine wpList_append_own_spare _ rfl _ _ 23 rfl B 5 i0 1 Try.underlying23 hi0 hz1 (g i) (n i + k) (cap i) ys rfl (hys.alloc _) ⟨wr.heap.size, 0, none⟩ 1 1 (cellsOf [c]) rfl rfl ?c1 (cellsOf_one _) ?c2 ?_)
              case c1 => exact cell_new _ _ _ HC.out
              case c2 => omega
              · intro w1 hown hgrow
                have hyq : ∀ q, q < n i → (ys ++ cellsOf [c])[q]? = some (ob i) := fun q hq => by
                  have hl : q < ys.length := by rw [hys.1]; omega
                  rw [List.getElem?_append_left hl]
                  exact HYQ.out q hq
                have R : Hid (Lies B m gl g n cap w1 (fun _ _ => True) ∧ Below B w w1 ∧ ∃ ys, w1.ownsRow B 5 1 (.slice (some ⟨g i, 0, none⟩) (n i + (k + 1)) (cap i)) (n i + (k + 1)) ys ∧ ∀ q, q < n i → ys[q]? = some (ob i)) := by
                  refine ⟨(HK.out.alloc _).more HG.out HGL.out hlt hgrow hown (by omega) hyq, ?_, _, hown, hyq⟩
                  exact below_grown (HKB.out.alloc hsz.out _) hgrow HBG.out (by have := hsz.out; simp; omega)
                clear hown hgrow hyq hys
                go_wp2
                go_roundw
                case rel => exact ⟨k + 1, by omega, rfl, by go_num, R.out.1, R.out.2.1, R.out.2.2⟩
                case measure => simp [intOf]; omega
            · clear hys
              go_wp2
              go_roundw
              case rel => exact ⟨i + 1, by omega, by go_num, HK.out, HKB.out⟩
              case measure => simp [intOf]; omega
        · have HLI := hide hl
          have HBI := hide hb
          clear hl hb
          go_wp2
          go_loop [10, 11] (fun t _ => ∃ i : Nat, i ≤ m ∧ t = .int .i64 i) (fun t _ => m - (intOf t).toNat)
          case atStart => exact ⟨0, Nat.zero_le _, rfl⟩
          case round =>
            clear hlt hi
            obtain ⟨i, hi, rfl⟩ := hrel
            by_cases hlt : i < m
            · have hget := HLI.out.get hlt
              have hnn := HN.out i hlt
              unfold maxLen at hnn
              go_wp2
              go_loop [11] (fun t => ∃ k : Nat, k ≤ n i ∧ t = .int .i64 k) (fun t => n i - (intOf t).toNat)
              case atStart => exact ⟨0, Nat.zero_le _, rfl⟩
              case round =>
                obtain ⟨k, hk, rfl⟩ := hrel
                by_cases hkl : k < n i
                · obtain ⟨z, c1, _, c3⟩ := HLI.out.at hlt hkl
                  have e : z = 2 * (i : Int) := by
                    have := (c3 trivial).trans (ob_walk i (by omega)).symm
                    simpa using this
                  subst e
                  clear c3
                  go_wp2
                  go_round
                  case rel => exact ⟨k + 1, by omega, by go_num⟩
                  case measure => simp [intOf]; omega
                · go_wp2
                  go_round
                  case rel => exact ⟨i + 1, by omega, by go_num⟩
                  case measure => simp [intOf]; omega
            · go_wp2
              go_ret
              exact ⟨rfl, HBI.out⟩
end Go.Proofs.Ytfgcpkbbneicfaa
