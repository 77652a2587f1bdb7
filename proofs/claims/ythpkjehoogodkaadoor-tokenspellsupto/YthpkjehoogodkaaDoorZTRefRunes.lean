/- The document's runes of a text, and how many. -/
import Derived.Test.YthpkjehoogodkaaDoorZTRefOneB
namespace Go.Proofs.YthpkjehoogodkaaDoor
open Go.RowKit

def rsT : Nat → List (Int × Nat) → List (Int × Nat × Nat)
  | _, [] => []
  | off, (r, k) :: t => (r, off, k) :: rsT (off + k) t
/-- A text's runes: each with where it begins and how many bytes it has. -/
def rs (l : List UInt8) : List (Int × Nat × Nat) := rsT 0 (ru l)
theorem rsT_length : ∀ (off : Nat) (t : List (Int × Nat)), (rsT off t).length = t.length
  | _, [] => rfl
  | off, (r, k) :: t => by rw [rsT, List.length_cons, List.length_cons, rsT_length]
theorem rs_length (l : List UInt8) : (rs l).length = (ru l).length := rsT_length _ _
def rsCells (x : List (Int × Nat × Nat)) : List Value := x.flatMap fun y => [.int .i64 y.1, .int .i64 y.2.1, .int .i64 y.2.2]
theorem rsCells_snoc (x : List (Int × Nat × Nat)) (y : Int × Nat × Nat) : rsCells (x ++ [y]) = rsCells x ++ [.int .i64 y.1, .int .i64 y.2.1, .int .i64 y.2.2] := by simp [rsCells]
theorem infoRefRune3 : (Tryd.prog.info? 58).map (fun i => (i.zero, i.size, i.bytes)) = some (some (.agg #[.int .i64 0, .int .i64 0, .int .i64 0]), 3, 24) := by kernel_rfl
theorem cell_three_at (w : World) (x y z : Value) (t : TypeId) (N : Nat) (hN : N = w.heap.size) : ∀ j v, [x, y, z][j]? = some v → (w.alloc (.cells #[x, y, z] t)).cell? ((⟨N, 0, none⟩ : Addr).add j) = some v := by
  subst hN
  intro j v hj
  match j, hj with
  | 0, hj => simp at hj; subst hj; simp [Addr.add]
  | 1, hj => simp at hj; subst hj; simp [Addr.add]
  | 2, hj => simp at hj; subst hj; simp [Addr.add]

theorem kept_new {w1 w2 : World} {row : Option Nat} {c : Array Value} {t : TypeId} {o2 : Obj} (hg : ((w1.alloc (.cells c t)).alloc o2).grownBy w2 row) (hr : ∀ k, row = some k → k < w1.heap.size) (j : Nat) (u : Value) (hj : c[j]? = some u) : w2.cell? ⟨w1.heap.size, j, none⟩ = some u := by
  have e : w2.heap[w1.heap.size]? = some (.cells c t (0, 0)) := by
    rw [hg.block _ (by simp; omega) (fun e => by have := hr _ e.symm; omega), Below.heap_alloc _ _ _ (by simp)]
    exact heap_alloc_new w1 _
  simp [World.cell?, e, hj]

set_option maxRecDepth 100000 in
set_option maxHeartbeats 2000000 in
theorem refRunes_k (s : ByteArray) (hs : s.size ≤ 1048576) (w : World) :
    Calls Tryd.prog 19 #[.string s] w fun e w' => ∃ v, e = .returned v ∧ w'.ownsRow w.heap.size 58 3 v (rs s.data.toList).length (rsCells (rs s.data.toList)) ∧ Below w.heap.size w w' := by
  obtain ⟨i3, hi3, h30, h31, h32⟩ := info_parts infoRefRune3
  have hlen : s.data.toList.length = s.size := by rw [Array.length_toList]; rfl
  go_enter Tryd.func19, Tryd.ntmps19
  go_wp2
  go_loopw [3, 4, 5] (fun v vi _ wr => ∃ (i : Nat) (pre : List (Int × Nat × Nat)), vi = .int .i64 (i : Int) ∧ i ≤ s.size ∧ pre.length ≤ i ∧ rs s.data.toList = pre ++ rsT i (ru (s.data.toList.drop i)) ∧ wr.ownsRow w.heap.size 58 3 v pre.length (rsCells pre) ∧ Below w.heap.size w wr)
    (fun _ v _ _ => s.size - (Lib.intOf v).toNat)
  case atStart => exact ⟨0, [], rfl, Nat.zero_le _, Nat.le_refl _, by simp [rs], World.ownsRow_nil _ _ _ _, Below.refl _ _⟩
  case round =>
    obtain ⟨i, pre, rfl, hi, hpi, hrs, hrow, hbel⟩ := hrel
    obtain ⟨ao, cp, rfl⟩ := row_slice hrow
    by_cases hlt : i < s.size
    · have h1 := wd_pos (s.data.toList.drop i)
      have h2 := wd_room s i hlt
      rw [ru_step _ (drop_ne s i hlt), rsT, List.drop_drop] at hrs
      have hone := one_k s hs i hlt wr
      unfold OneK oneV at hone
      generalize rv (s.data.toList.drop i) = r at *
      generalize wd (s.data.toList.drop i) = k at *
      go_wp2_with (first
        | (go_at_call 39; refine hone.mono ?_; clear hone; rintro e w1 ⟨rfl, hb1⟩; have hrow1 := row_below hrow hb1; have hsz1 := hb1.size)
        | (at_builtin; refine wpList_append_own _ rfl _ _ 52 rfl w.heap.size 58 i3 (.agg #[.int .i64 0, .int .i64 0, .int .i64 0]) 3 24 Tryd.underlying52 hi3 h30 h31 h32 rfl (by decide) _ _ _ rfl ((hrow1.alloc _).alloc _) ⟨w1.heap.size + 1, 0, none⟩ 1 1 [.int .i64 r, .int .i64 i, .int .i64 k] rfl rfl (cell_three_at _ _ _ _ _ _ (by simp)) (by simp [Value.oneCell']) (by unfold maxLen; omega) (by omega) (by have := hbel.size; simp; omega) ?_; intro v' w2 hown' hgrow _; obtain ⟨g', cap', rfl⟩ := ownsRow_succ hown'; have hlt' : ∀ q, (Value.slice ao pre.length cp).ownBlock = some q → q < w1.heap.size := fun q e => Nat.lt_of_lt_of_le (hrow.lt q e).2 hsz1; have hc2 := kept_new hgrow hlt' 2 _ rfl))
      go_roundw
      case rel =>
        refine ⟨i + k, pre ++ [(r, i, k)], by simp, h2, by simp; omega, ?_, ?_, ((((hbel.trans (hb1.mono hbel.size)).alloc (Nat.le_trans hbel.size hsz1) _).alloc (by have := hbel.size; simp; omega) _)).grown hgrow (by have := hbel.size; simp; omega) (fun j ej => (row_block hrow j ej).1)⟩
        · rw [hrs]
          simp
        · rw [rsCells_snoc, List.length_append]
          exact hown'
      case measure =>
        simp [Lib.intOf]
        omega
    · have hn : s.data.toList.drop i = [] := drop_end s i hlt
      rw [hn, ru_nil, rsT, List.append_nil] at hrs
      go_wp2
      go_ret
      rw [hrs]
      exact ⟨_, rfl, hrow, hbel⟩
end Go.Proofs.YthpkjehoogodkaaDoor
