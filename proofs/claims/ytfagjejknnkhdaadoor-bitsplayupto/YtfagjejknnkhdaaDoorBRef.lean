/- The document's sets, as lists of truths: what they are in memory, and what Has, All and Words answer. -/
import Derived.Test.YtfagjejknnkhdaaDoorBRel
import Derived.Test.YtfagjejknnkhdaaDoorBSub
namespace Go.Proofs.YtfagjejknnkhdaaDoor
open Go.RowKit

def bools (l : List Bool) : List Value := l.map fun b => Value.bool b
theorem bools_get (l : List Bool) (k : Nat) (h : k < l.length) : (bools l)[k]? = some (.bool l[k]) := by simp [bools, h]
theorem bools_set (l : List Bool) (k : Nat) (b : Bool) : (bools l).set k (.bool b) = bools (l.set k b) := by simp [bools, List.map_set]

/-- A set of the document's: its struct lies in block pb, its truths in block gb. -/
structure RefAt (w : World) (pb gb cap : Nat) (bs : List Bool) : Prop where
  st : w.heap[pb]? = some (.cells #[.bool true, .slice (some ⟨gb, 0, none⟩) bs.length cap] 29 (0, 0))
  row : w.ownsRow 0 4 1 (.slice (some ⟨gb, 0, none⟩) bs.length cap) bs.length (bools bs)
  room : bs.length ≤ 4096
theorem RefAt.lt {w : World} {pb gb cap : Nat} {bs : List Bool} (h : RefAt w pb gb cap bs) : pb < w.heap.size := (Array.getElem?_eq_some_iff.1 h.st).1
theorem RefAt.glt {w : World} {pb gb cap : Nat} {bs : List Bool} (h : RefAt w pb gb cap bs) : gb < w.heap.size := (h.row.lt gb rfl).2
theorem RefAt.cells {w : World} {pb gb cap : Nat} {bs : List Bool} (h : RefAt w pb gb cap bs) : w.cell? ⟨pb, 0, none⟩ = some (.bool true) ∧ w.cell? ⟨pb, 1, none⟩ = some (.slice (some ⟨gb, 0, none⟩) bs.length cap) := by
  simp [World.cell?, h.st]
theorem RefAt.get {w : World} {pb gb cap : Nat} {bs : List Bool} (h : RefAt w pb gb cap bs) (k : Nat) (hk : k < bs.length) : w.cell? ⟨gb, k, none⟩ = some (.bool bs[k]) := by
  rw [h.row.cellAt k (by omega), bools_get bs k hk]
theorem RefAt.kept {w w' : World} {pb gb cap : Nat} {bs : List Bool} {r : Option Nat} (h : RefAt w pb gb cap bs) (hg : w.grownBy w' r) (h1 : r ≠ some pb) (h2 : r ≠ some gb) : RefAt w' pb gb cap bs :=
  ⟨(hg.block pb h.lt (Ne.symm h1)).trans h.st, h.row.kept hg (.inr (Ne.symm h2)), h.room⟩
theorem RefAt.below {w w' : World} {B pb gb cap : Nat} {bs : List Bool} (h : RefAt w pb gb cap bs) (hb : Below B w w') (h1 : pb < B) (h2 : gb < B) : RefAt w' pb gb cap bs := by
  refine ⟨(hb.block pb h1).trans h.st, ⟨h.row.1, ?_⟩, h.room⟩
  rcases h.row.2 with ⟨h, _⟩ | ⟨g', cap', cur, hv, hb', hh, rest⟩
  · cases h
  · have hv' := hv
    simp only [Value.slice.injEq, Option.some.injEq, Addr.mk.injEq, and_true, true_and] at hv'
    obtain ⟨rfl, rfl⟩ := hv'
    exact .inr ⟨_, _, cur, rfl, hb', (hb.block gb h2).trans hh, rest⟩
theorem RefAt.drewN {w : World} {pb gb cap : Nat} {bs : List Bool} (h : RefAt w pb gb cap bs) (m : Nat) : RefAt (w.drewN m) pb gb cap bs := ⟨h.st, h.row, h.room⟩

/-- What Has answers. -/
def rhas (bs : List Bool) (i : Int) : Bool := decide (0 ≤ i ∧ i < (bs.length : Int)) && bs.getD i.toNat false
set_option maxRecDepth 100000 in
theorem refHas_k {w : World} {pb gb cap : Nat} {bs : List Bool} (h : RefAt w pb gb cap bs) (i : Int) :
    Calls Tryd.prog 31 #[.pointer (some ⟨pb, 0, none⟩), .int .i64 i] w fun e w' => e = .returned (.bool (rhas bs i)) ∧ w = w' := by
  obtain ⟨c0, c1⟩ := h.cells
  have HG := hide h.get
  have hr := h.room
  clear h
  by_cases h0 : i < 0
  · have e : rhas bs i = false := by unfold rhas; rw [decide_eq_false (by omega)]; rfl
    rw [e]
    go_enter Tryd.func31, Tryd.ntmps31
    go_wp2
    go_ret
    exact ⟨rfl, rfl⟩
  · by_cases h1 : i < (bs.length : Int)
    · obtain ⟨k, rfl⟩ : ∃ k : Nat, i = (k : Int) := ⟨i.toNat, by omega⟩
      have hk : k < bs.length := by omega
      have e : rhas bs (k : Int) = bs[k] := by unfold rhas; rw [decide_eq_true (by omega)]; simp [hk]
      rw [e]
      have hc := HG.out k hk
      clear HG e
      generalize bs[k] = x at *
      go_enter Tryd.func31, Tryd.ntmps31
      go_wp2
      go_ret
      exact ⟨rfl, rfl⟩
    · have e : rhas bs i = false := by unfold rhas; rw [decide_eq_false (by omega)]; rfl
      rw [e]
      go_enter Tryd.func31, Tryd.ntmps31
      go_wp2
      go_ret
      exact ⟨rfl, rfl⟩

def yesTo (bs : List Bool) (k : Nat) : List Nat := (List.range k).filter fun i => bs.getD i false
theorem yesTo_step (bs : List Bool) (k : Nat) : yesTo bs (k + 1) = if bs.getD k false then yesTo bs k ++ [k] else yesTo bs k := by
  unfold yesTo
  rw [List.range_succ, List.filter_append, List.filter_cons, List.filter_nil]
  cases bs.getD k false with
  | true => rw [if_pos rfl, if_pos rfl]
  | false => rw [if_neg (by decide), if_neg (by decide), List.append_nil]
theorem yesTo_len (bs : List Bool) (k : Nat) : (yesTo bs k).length ≤ k := by
  unfold yesTo
  have := List.length_filter_le (fun i => bs.getD i false) (List.range k)
  rwa [List.length_range] at this
theorem nats_snoc (l : List Nat) (x : Nat) : nats (l ++ [x]) = nats l ++ [.int .i64 (x : Int)] := by simp [nats]

set_option maxRecDepth 100000 in
set_option maxHeartbeats 1000000 in
theorem refAll_k {w : World} {pb gb cap : Nat} {bs : List Bool} (h : RefAt w pb gb cap bs) :
    Calls Tryd.prog 28 #[.pointer (some ⟨pb, 0, none⟩)] w fun e w' => ∃ v, e = .returned v ∧ w'.ownsRow w.heap.size 3 1 v (yes bs).length (nats (yes bs)) ∧ Below w.heap.size w w' := by
  obtain ⟨i0, hi, hz0, hz1, hz2⟩ := info_parts infoInt
  obtain ⟨c0, c1⟩ := h.cells
  have HG := hide h.get
  have hr := h.room
  have hpl := h.lt
  have hgl := h.glt
  clear h
  go_enter Tryd.func28, Tryd.ntmps28
  go_wp2
  go_loopw [3, 4] (fun v i wr => ∃ k : Nat, k ≤ bs.length ∧ i = .int .i64 k ∧ wr.ownsRow w.heap.size 3 1 v (yesTo bs k).length (nats (yesTo bs k)) ∧ Below w.heap.size w wr) (fun _ i _ => bs.length - (intOf i).toNat)
  case atStart => exact ⟨0, Nat.zero_le _, rfl, World.ownsRow_nil _ _ _ _, Below.refl _ _⟩
  case round =>
    obtain ⟨k, hk, rfl, hrow, hbel⟩ := hrel
    have d1 := (hbel.cell (p := ⟨pb, 1, none⟩) hpl).trans c1
    clear c0 c1
    by_cases hlt : k < bs.length
    · have d2 := (hbel.cell (p := ⟨gb, k, none⟩) hgl).trans (HG.out k hlt)
      have hst := yesTo_step bs k
      have hyl := yesTo_len bs k
      have hgd : bs.getD k false = bs[k] := by simp [hlt]
      rw [hgd] at hst
      have HS := hide hst
      have HR := hide hrow
      have HB := hide hbel
      have hsz := hbel.size
      clear hst hgd hrow hbel HG
      cases hb : bs[k] with
      | false =>
        rw [hb] at d2
        have HS' := HS.out
        rw [hb, if_neg (by decide)] at HS'
        go_wp2
        go_roundw
        case rel => exact ⟨k + 1, by omega, by go_num, by rw [HS']; exact HR.out, HB.out⟩
        case measure => simp [intOf]; omega
      | true =>
        rw [hb] at d2
        have HS' := HS.out
        rw [hb, if_pos rfl] at HS'
        go_wp2_with (at_builtin; refine wpList_append_own _ rfl _ _ 55 rfl w.heap.size 3 i0 (.int .i64 0) 1 8 Tryd.underlying55 hi hz0 hz1 hz2 rfl (by decide) _ _ _ rfl (HR.out.alloc _) ⟨wr.heap.size, 0, none⟩ 1 1 [.int .i64 (k : Int)] rfl rfl (cell_one_new _ _ _) (by simp [Value.oneCell']) (by unfold maxLen; omega) (by omega) (by simp; omega) ?_; intro v' w1 hown hgrow _; have R := hide (show w1.ownsRow w.heap.size 3 1 v' (yesTo bs (k + 1)).length (nats (yesTo bs (k + 1))) from by rw [HS', nats_snoc, List.length_append]; exact hown); have RB := hide (show Below w.heap.size w w1 from ((HB.out.alloc HB.out.size _).grown hgrow (by have := HB.out.size; simp; omega) (fun r e => (HR.out.lt r e).1))); clear hown hgrow)
        go_roundw
        case rel => exact ⟨k + 1, by omega, by go_num, R.out, RB.out⟩
        case measure => simp [intOf]; omega
    · have e : k = bs.length := by omega
      subst e
      have R := hide (And.intro hrow hbel)
      clear hrow hbel
      go_wp2
      go_ret
      exact ⟨_, rfl, R.out.1, R.out.2⟩

/-- What the words say when k truths are laid. -/
structure RelTo (k : Nat) (ws : List Nat) (bs : List Bool) : Prop where
  len : ws.length = (bs.length + 63) / 64
  fit : ∀ x ∈ ws, x < 18446744073709551616
  bit : ∀ i, i < 64 * ws.length → hasW ws i = (decide (i < k) && bs.getD i false)
theorem RelTo.done {ws : List Nat} {bs : List Bool} (h : RelTo bs.length ws bs) : Rel ws bs := ⟨h.len, h.fit, fun i hi => by
  rw [h.bit i hi]
  by_cases e : i < bs.length
  · simp [e]
  · simp [e]⟩
theorem RelTo.zero (bs : List Bool) : RelTo 0 (List.replicate ((bs.length + 63) / 64) 0) bs := by
  have := Rel.zero bs.length
  refine ⟨by simp, this.fit, fun i hi => ?_⟩
  rw [this.bit i hi]
  rw [List.getD_eq_getElem?_getD, List.getElem?_replicate]
  simp
  split <;> rfl
theorem RelTo.next {ws : List Nat} {bs : List Bool} {k : Nat} (h : RelTo k ws bs) (hk : k < bs.length) : RelTo (k + 1) (if bs.getD k false then putW ws k else ws) bs := by
  have hk' : k / 64 < ws.length := by have := h.len; omega
  cases hb : bs.getD k false with
  | true =>
    rw [if_pos rfl]
    refine ⟨by rw [putW_len]; exact h.len, putW_fit h.fit k, fun i hi => ?_⟩
    rw [putW_len] at hi
    rw [hasW_put hk', h.bit i hi]
    by_cases e : i = k
    · subst e
      rw [hb]
      simp
    · have : (i < k + 1) = (i < k) := by simp; omega
      simp [e, this]
  | false =>
    rw [if_neg (by decide)]
    refine ⟨h.len, h.fit, fun i hi => ?_⟩
    rw [h.bit i hi]
    by_cases e : i = k
    · subst e
      rw [hb]
      simp
    · have : (i < k + 1) = (i < k) := by simp; omega
      simp [this]

set_option maxRecDepth 100000 in
set_option maxHeartbeats 1000000 in
theorem refWords_k {w : World} {pb gb cap : Nat} {bs : List Bool} (h : RefAt w pb gb cap bs) :
    Calls Tryd.prog 26 #[.pointer (some ⟨pb, 0, none⟩)] w fun e w' => ∃ ws, Rel ws bs ∧ e = .returned (.slice (some ⟨w.heap.size, 0, none⟩) ws.length ws.length) ∧ w'.ownsRow w.heap.size 56 1 (.slice (some ⟨w.heap.size, 0, none⟩) ws.length ws.length) ws.length (u64s ws) ∧ Below w.heap.size w w' := by
  obtain ⟨i0, hi, hz0, hz1, hz2⟩ := info_parts infoWord
  obtain ⟨c0, c1⟩ := h.cells
  have HG := hide h.get
  have hr := h.room
  have hpl := h.lt
  have hgl := h.glt
  clear h
  obtain ⟨N, hN⟩ : ∃ N, (bs.length + 63) / 64 = N := ⟨_, rfl⟩
  have hmk := fun w => run_make (P := Tryd.prog) w 43 56 i0 (.int .u64 0) Tryd.underlying43 hi hz0 .i64 .i64 (N : Int) (N : Int) (by omega) (by omega) (by rw [hz2]; omega) (by omega)
  rw [hz1] at hmk
  have hq1 : ((bs.length : Int) + 63) / 64 = (N : Int) := by omega
  go_enter Tryd.func26, Tryd.ntmps26
  go_wp2
  clear hq1
  go_loopw [4] (fun i wr => ∃ (k : Nat) (ws : List Nat), k ≤ bs.length ∧ i = .int .i64 k ∧ ws.length = N ∧ RelTo k ws bs ∧ wr.ownsRow w.heap.size 56 1 (.slice (some ⟨w.heap.size, 0, none⟩) N N) N (u64s ws) ∧ Below w.heap.size w wr) (fun i _ => bs.length - (intOf i).toNat)
  case atStart =>
    refine ⟨0, List.replicate N 0, Nat.zero_le _, rfl, by simp, by rw [← hN]; exact RelTo.zero bs, ?_, (Below.refl _ _).alloc (Nat.le_refl _) _⟩
    have h1 := World.ownsRow_lit (base := w.heap.size) (e := 56) (size := 1) w (madeCells #[.int .u64 0] N) N (Nat.le_refl _) (by unfold maxLen; omega) (by simp [madeCells])
    rw [made_zero] at h1
    exact h1
  case round =>
    obtain ⟨k, ws, hk, rfl, hwl, hrel, hrow, hbel⟩ := hrel
    have d1 := (hbel.cell (p := ⟨pb, 1, none⟩) hpl).trans c1
    clear c0 c1 hmk
    by_cases hlt : k < bs.length
    · have d2 := (hbel.cell (p := ⟨gb, k, none⟩) hgl).trans (HG.out k hlt)
      have hgd : bs.getD k false = bs[k] := by simp [hlt]
      have hnx := hrel.next hlt
      rw [hgd] at hnx
      have hkq : k / 64 < ws.length := by omega
      cases hb : bs[k] with
      | false =>
        rw [hb] at d2
        rw [hb, if_neg (by decide)] at hnx
        have R := hide (And.intro hnx (And.intro hrow hbel))
        clear hnx hrow hbel hrel HG hgd
        go_wp2
        go_roundw
        case rel => exact ⟨k + 1, ws, by omega, by go_num, hwl, R.out.1, R.out.2.1, R.out.2.2⟩
        case measure => simp [intOf]; omega
      | true =>
        rw [hb] at d2
        rw [hb, if_pos rfl] at hnx
        have hc := hrow.cellAt (k / 64) (by omega)
        rw [u64s_get ws _ hkq] at hc
        have hf := hrow.frozenAt (k / 64)
        have hx := hrel.fit _ (List.getElem_mem hkq)
        have hst := hrow.stored (k / 64) (.int .u64 ((ws[k / 64] ||| 2 ^ (k % 64) : Nat) : Int))
        have hpw : putW ws k = ws.set (k / 64) (ws[k / 64] ||| 2 ^ (k % 64)) := by unfold putW; simp [hkq]
        rw [u64s_set, ← hpw] at hst
        have hor : bits .or .u64 ((ws[k / 64] : Nat) : Int) ((2 : Int) ^ (k % 64)) = ((ws[k / 64] ||| 2 ^ (k % 64) : Nat) : Int) := by
          rw [← u64_or_nat ws[k / 64] (2 ^ (k % 64)) hx (pow_lt64 k)]
          simp
        have R := hide (And.intro hnx (And.intro hst.1 (hbel.setCell (p := ⟨w.heap.size, k / 64, none⟩) (Nat.le_refl _) (.int .u64 ((ws[k / 64] ||| 2 ^ (k % 64) : Nat) : Int)))))
        have hp64 := pow_lt64 k
        have hsh : IntKind.u64.wrap ((2 : Int) ^ (k % 64)) = ((2 ^ (k % 64) : Nat) : Int) := by
          rw [IntKind.wrap_u64]
          have : ((2 : Int) ^ (k % 64)) = ((2 ^ (k % 64) : Nat) : Int) := by simp
          rw [this]
          generalize (2 : Nat) ^ (k % 64) = x at *
          omega
        clear hnx hst hrow hbel hrel HG hgd hpw
        generalize hxx : ws[k / 64] = x at *
        generalize hqq : k / 64 = q at *
        have hdv : ((k : Int) / 64) = (q : Int) := by omega
        have hwq : IntKind.i64.wrap (q : Int) = (q : Int) := by rw [IntKind.wrap_i64]; omega
        have p0 : (0 : Int) ≤ (q : Int) := by omega
        have p1 : (q : Int) < (N : Int) := by omega
        clear hxx hqq
        go_wp2
        go_roundw
        case rel => exact ⟨k + 1, putW ws k, by omega, by go_num, by rw [putW_len]; exact hwl, R.out.1, R.out.2.1, R.out.2.2⟩
        case measure => simp [intOf]; omega
    · have e : k = bs.length := by omega
      subst e
      have R := hide (And.intro hrel.done (And.intro hrow hbel))
      clear hrow hbel hrel
      go_wp2
      go_ret
      subst hwl
      exact ⟨ws, R.out.1, rfl, R.out.2.1, R.out.2.2⟩
end Go.Proofs.YtfagjejknnkhdaaDoor
