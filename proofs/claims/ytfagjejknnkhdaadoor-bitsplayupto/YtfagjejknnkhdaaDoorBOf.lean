/- Of: sets of words that are handed in. -/
import Derived.Test.YtfagjejknnkhdaaDoorBRel
import Derived.Test.YtfagjejknnkhdaaDoorBClone
import Derived.Laws.CopyOwn
namespace Go.Proofs.YtfagjejknnkhdaaDoor
open Go.RowKit

/-- Whether a number from n on is among the words. -/
def bey (n : Nat) (l : List Nat) : Bool := decide (0 < n % 64) && decide (l.getD (l.length - 1) 0 / 2 ^ (n % 64) ≠ 0)
theorem bey_rel {n : Nat} {l : List Nat} (hl : l.length = (n + 63) / 64) (hf : ∀ x ∈ l, x < 18446744073709551616) (hb : bey n l = false) : Rel l ((List.range n).map fun i => hasW l i) := by
  refine ⟨by simp [hl], hf, fun i hi => ?_⟩
  by_cases h : i < n
  · simp [h]
  · have e1 : ((List.range n).map fun i => hasW l i).getD i false = false := by simp [h]
    rw [e1]
    have hu : 0 < n % 64 := by omega
    unfold bey at hb
    rw [decide_eq_true hu, Bool.true_and] at hb
    have hz : l.getD (l.length - 1) 0 / 2 ^ (n % 64) = 0 := by simpa using hb
    unfold hasW
    have e2 : i / 64 = l.length - 1 := by omega
    rw [e2]
    have := Nat.testBit_div_two_pow (l.getD (l.length - 1) 0) (i % 64 - n % 64) (n := n % 64)
    rw [hz, Nat.zero_testBit] at this
    rw [show i % 64 = i % 64 - n % 64 + n % 64 by omega]
    exact this.symm
theorem bey_no {n : Nat} {l : List Nat} (hl : l.length = (n + 63) / 64) (hf : ∀ x ∈ l, x < 18446744073709551616) (hb : bey n l = true) : ∃ i, n ≤ i ∧ i < 64 * l.length ∧ hasW l i = true := by
  unfold bey at hb
  simp only [Bool.and_eq_true, decide_eq_true_eq] at hb
  obtain ⟨hu, hz⟩ := hb
  have hll : l.length - 1 < l.length := by omega
  obtain ⟨j, hj⟩ := Nat.exists_testBit_of_ne_zero hz
  rw [Nat.testBit_div_two_pow] at hj
  have hx : l.getD (l.length - 1) 0 < 18446744073709551616 := by simpa [hll] using hf _ (List.getElem_mem hll)
  have hlt : j + n % 64 < 64 := by
    apply Nat.lt_of_not_le
    intro h
    rw [tb_hi hx (by omega)] at hj
    cases hj
  refine ⟨64 * (l.length - 1) + (j + n % 64), by omega, by omega, ?_⟩
  rw [hasW_get hlt]
  exact hj

set_option maxRecDepth 100000 in
set_option maxHeartbeats 1000000 in
theorem beyond_k {w : World} {b g cap n : Nat} {l : List Nat} (hr : w.ownsRow b 56 1 (.slice (some ⟨g, 0, none⟩) l.length cap) l.length (u64s l)) (hl : l.length = (n + 63) / 64) (hn : n ≤ 4096) (hf : ∀ x ∈ l, x < 18446744073709551616) :
    Calls Tryd.prog 45 #[.int .i64 (n : Int), .slice (some ⟨g, 0, none⟩) l.length cap] w fun e w' => e = .returned (.bool (bey n l)) ∧ w = w' := by
  by_cases hu : n % 64 = 0
  · have e : bey n l = false := by unfold bey; rw [hu]; rfl
    rw [e]
    have h1 : ((n : Int) % 64) = 0 := by omega
    clear hr
    go_enter Tryd.func45, Tryd.ntmps45
    go_wp2
    go_ret
    exact ⟨rfl, rfl⟩
  · have hll : l.length - 1 < l.length := by omega
    have hc := (hr.cellAt (l.length - 1) (by omega)).trans (u64s_get l _ hll)
    have hx := hf _ (List.getElem_mem hll)
    have e : bey n l = decide (l[l.length - 1] / 2 ^ (n % 64) ≠ 0) := by
      unfold bey
      rw [decide_eq_true (by omega), Bool.true_and]
      simp [hll]
    rw [e]
    clear e hr hf
    obtain ⟨q, hq⟩ : ∃ q, l.length = q + 1 := ⟨l.length - 1, by omega⟩
    have e2 : l.length - 1 = q := by omega
    generalize hxx : l[l.length - 1] = x at *
    rw [e2] at hc
    rw [hq]
    have hq64 : q ≤ 64 := by omega
    have hn0 : 0 < (n : Int) % 64 := by omega
    clear hxx hq e2 hll hl
    go_enter Tryd.func45, Tryd.ntmps45
    go_wp2
    go_ret
    refine ⟨?_, rfl⟩
    show Ending.returned (.bool ((x : Int) / (2 : Int) ^ (n % 64) != 0)) = _
    have hd : ((x : Int) / (2 : Int) ^ (n % 64)) = ((x / 2 ^ (n % 64) : Nat) : Int) := by simp
    rw [hd]
    generalize x / 2 ^ (n % 64) = y
    congr 2
    by_cases h : y = 0
    · subst h; rfl
    · have : (y : Int) ≠ 0 := by omega
      simp [h]

theorem of_out (i : Int) (h : i < 0 ∨ 4096 < i) (v : Value) (w : World) :
    Calls Tryd.prog 24 #[.int .i64 i, v] w fun e w' => e = .returned (.tuple #[.pointer none, .int .i64 30]) ∧ w = w' := by
  have HN := hide (new_no i h w)
  clear h
  go_enter Tryd.func24, Tryd.ntmps24
  go_wp2_with (go_at_call 4; refine HN.out.mono ?_; rintro e w1 ⟨rfl, rfl⟩)
  go_ret2
  exact ⟨rfl, rfl⟩
set_option maxRecDepth 100000 in
set_option maxHeartbeats 1000000 in
theorem of_len {w : World} {b g cap n : Nat} {l : List Nat} (_hr : w.ownsRow b 56 1 (.slice (some ⟨g, 0, none⟩) l.length cap) l.length (u64s l)) (hl : l.length ≠ (n + 63) / 64) (hn : n ≤ 4096) :
    Calls Tryd.prog 24 #[.int .i64 (n : Int), .slice (some ⟨g, 0, none⟩) l.length cap] w fun e w' => e = .returned (.tuple #[.pointer none, .int .i64 30]) ∧ Below w.heap.size w w' := by
  have HN := hide (new_k n hn w)
  obtain ⟨N, hN⟩ : ∃ N, (n + 63) / 64 = N := ⟨_, rfl⟩
  rw [hN] at HN hl
  have hne : ((l.length : Int) != (N : Int)) = true := by simp; omega
  clear _hr hl hN
  go_enter Tryd.func24, Tryd.ntmps24
  go_wp2_with (go_at_call 4; refine HN.out.mono ?_; clear HN; rintro e w1 ⟨rfl, A1, A2, A3⟩; have c2 := A1.cells.2.2; rw [List.length_replicate] at c2; have B2 := hide A2; clear A1 A2 A3)
  go_ret2
  exact ⟨rfl, B2.out⟩
set_option maxRecDepth 100000 in
set_option maxHeartbeats 1000000 in
theorem of_bey {w : World} {b g cap n : Nat} {l : List Nat} (hr : w.ownsRow b 56 1 (.slice (some ⟨g, 0, none⟩) l.length cap) l.length (u64s l)) (hl : l.length = (n + 63) / 64) (hn : n ≤ 4096) (hf : ∀ x ∈ l, x < 18446744073709551616) (hb : bey n l = true) :
    Calls Tryd.prog 24 #[.int .i64 (n : Int), .slice (some ⟨g, 0, none⟩) l.length cap] w fun e w' => e = .returned (.tuple #[.pointer none, .int .i64 30]) ∧ Below w.heap.size w w' := by
  have HN := hide (new_k n hn w)
  rw [← hl] at HN
  have HR := hide hr
  have HL := hide hl
  have HF := hide hf
  have hne : ((l.length : Int) != (l.length : Int)) = false := by simp
  clear hr hl hf
  go_enter Tryd.func24, Tryd.ntmps24
  go_wp2_with (first
    | (go_at_call 4; refine HN.out.mono ?_; clear HN; rintro e w1 ⟨rfl, A1, A2, A3⟩; have c2 := A1.cells.2.2; rw [List.length_replicate] at c2; have B2 := hide A2; clear A1 A2 A3)
    | (go_at_call 45; refine (beyond_k (below_row HR.out B2.out (Nat.le_refl _)) HL.out hn HF.out).mono ?_; rintro e w2 ⟨rfl, rfl⟩; rw [hb]))
  go_ret2
  exact ⟨rfl, B2.out⟩
theorem row_cur {w : World} {base : Nat} {e : TypeId} {g n cap : Nat} {xs : List Value} (h : w.ownsRow base e 1 (.slice (some ⟨g, 0, none⟩) n cap) n xs) : ∃ cur, w.heap[g]? = some (.cells cur e (0, 0)) ∧ cur.size = cap := by
  rcases h.2 with ⟨h, _⟩ | ⟨g', cap', cur, hv, _, hh, _, _, hs, _⟩
  · cases h
  · simp only [Value.slice.injEq, Option.some.injEq, Addr.mk.injEq, and_true, true_and] at hv
    obtain ⟨rfl, rfl⟩ := hv
    exact ⟨cur, hh, by omega⟩
/-- The words are laid whole. -/
theorem SetAt.laid {w : World} {sb g n : Nat} {ws l : List Nat} {cur : Array Value} (h : SetAt w sb g ws.length n ws) (hl : l.length = ws.length) (hf : ∀ x ∈ l, x < 18446744073709551616) (hc : w.heap[g]? = some (.cells cur 56 (0, 0))) (hs : cur.size = ws.length) :
    SetAt (w.setRow g (u64s l ++ cur.toList.drop (u64s l).length).toArray) sb g ws.length n l := by
  have hd : cur.toList.drop (u64s l).length = [] := List.drop_eq_nil_of_le (by rw [u64s_length, Array.length_toList]; omega)
  rw [hd, List.append_nil]
  have hne := h.ne
  refine ⟨?_, ⟨by rw [u64s_length]; omega, .inr ⟨g, ws.length, (u64s l).toArray, rfl, Nat.zero_le _, setRow_heap w g cur _ _ _ hc, by omega, by have := h.len; have := h.room; unfold maxLen; omega, by simp [u64s_length]; omega, ?_⟩⟩, by rw [hl]; exact h.len, h.room, hf⟩
  · rw [setRow_other _ _ _ _ hne, hl]
    exact h.st
  · rw [List.take_of_length_le (by simp [u64s_length])]
set_option maxRecDepth 100000 in
set_option maxHeartbeats 1000000 in
theorem of_k {w : World} {b g cap n : Nat} {l : List Nat} (hr : w.ownsRow b 56 1 (.slice (some ⟨g, 0, none⟩) l.length cap) l.length (u64s l)) (hl : l.length = (n + 63) / 64) (hn : n ≤ 4096) (hf : ∀ x ∈ l, x < 18446744073709551616) (hb : bey n l = false) :
    Calls Tryd.prog 24 #[.int .i64 (n : Int), .slice (some ⟨g, 0, none⟩) l.length cap] w fun e w' => e = .returned (.tuple #[.pointer (some ⟨w.heap.size + 1, 0, none⟩), .int .i64 0]) ∧ SetAt w' (w.heap.size + 1) w.heap.size l.length n l ∧ Below w.heap.size w w' := by
  have HN := hide (new_k n hn w)
  rw [← hl] at HN
  have HR := hide hr
  have HL := hide hl
  have HF := hide hf
  have hgl := (hr.lt g rfl).2
  have hne : ((l.length : Int) != (l.length : Int)) = false := by simp
  have hsz : (Tryd.prog.info? 56).map (·.size) = some 1 := by kernel_rfl
  clear hr hl hf
  go_enter Tryd.func24, Tryd.ntmps24
  go_wp2_with (first
    | (go_at_call 4; refine HN.out.mono ?_; clear HN; rintro e w1 ⟨rfl, A1, A2, A3⟩; have c2 := A1.cells.2.2; rw [List.length_replicate] at c2; obtain ⟨cur, hcur, hcs⟩ := row_cur A1.row; have A1' : SetAt w1 (w.heap.size + 1) w.heap.size (List.replicate l.length 0).length n (List.replicate l.length 0) := (by rw [List.length_replicate]; exact A1); have F1 := hide (A1'.laid (l := l) (by simp) HF.out hcur (by rw [List.length_replicate]; exact hcs)); have B2 := hide A2; clear A1 A1' A2 A3)
    | (go_at_call 45; refine (beyond_k (below_row HR.out B2.out (Nat.le_refl _)) HL.out hn HF.out).mono ?_; rintro e w2 ⟨rfl, rfl⟩; rw [hb]))
  rw [run_copy_row (P := Tryd.prog) w1 43 43 3 56 w.heap.size 0 l.length l.length ⟨g, 0, none⟩ l.length cap cur 56 (u64s l) Tryd.underlying43 hsz hcur (by rw [u64s_length]; exact (Nat.min_self _).symm) (row_cells (below_row HR.out B2.out (Nat.le_refl _))) (by rw [u64s_length]; omega) (u64s_one l)]
  simp only [Result.andThen]
  rw [Oper.upon_value]
  go_wp2
  go_ret2
  have f1 := F1.out
  rw [List.length_replicate] at f1
  exact ⟨rfl, f1, below_setRow B2.out (Nat.le_refl _) _⟩
end Go.Proofs.YtfagjejknnkhdaaDoor
