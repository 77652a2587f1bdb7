/- What a set's All goes through: the numbers that it had when the ranging began. -/
import Derived.Test.YtfagjejknnkhdaaDoorBClone
import Derived.Test.YtfagjejknnkhdaaDoorBCount
import Derived.Test.YtfagjejknnkhdaaDoorBElems
import Derived.Test.YtfagjejknnkhdaaDoorBRange
namespace Go.Proofs.YtfagjejknnkhdaaDoor
open Go.RowKit
attribute [local go_sem] Oper.semAt_some

def natV (x : Nat) (S : Blocks) (vs : Array Value) (W : World) : Prop := vs = #[.int .i64 (x : Int)] ∧ ∀ k, S k → k < W.heap.size
/-- The blocks that the iterator must find again: the set's variable, and the library's table. -/
def boxTab (sb : Nat) : Blocks := fun k => k = sb ∨ k = 0

theorem SetAt.same {w W : World} {sb g cap n : Nat} {ws : List Nat} (h : SetAt w sb g cap n ws) (hl : ∀ k, k < w.heap.size → W.heap[k]? = w.heap[k]?) : SetAt W sb g cap n ws := by
  refine ⟨(hl sb h.lt).trans h.st, ⟨h.row.1, ?_⟩, h.len, h.room, h.fit⟩
  have hg := h.glt
  rcases h.row.2 with ⟨h, _⟩ | ⟨g', cap', cur, hv, hb', hh, rest⟩
  · cases h
  · have hv' := hv
    simp only [Value.slice.injEq, Option.some.injEq, Addr.mk.injEq, and_true, true_and] at hv'
    obtain ⟨rfl, rfl⟩ := hv'
    exact .inr ⟨_, _, cur, rfl, hb', (hl g hg).trans hh, rest⟩
theorem Tab.same {w W : World} (h : Tab w) (hl : ∀ k, k < w.heap.size → W.heap[k]? = w.heap[k]?) : Tab W := fun j hj => (World.cell?_of_block (hl _ h.lt)).trans (h j hj)
theorem Tab.keptP {B : Nat} {sb : Nat} {S : Blocks} {W W' : World} (h : Tab W) (hk : KeptP B (boxTab sb) S W W') : Tab W' := fun j hj => by
  have h1 := h j hj
  have hlt := h.lt
  have e : W.heap[0]? = some W.heap[0] := Array.getElem?_eq_getElem hlt
  have := hk.box _ _ (.inr rfl) e
  exact (World.cell?_of_block (this.trans e.symm)).trans h1
theorem row_keptP {B : Nat} {K S : Blocks} {W W' : World} {base : Nat} {e : TypeId} {size g n cap : Nat} {xs : List Value} (h : W.ownsRow base e size (.slice (some ⟨g, 0, none⟩) n cap) n xs) (hk : KeptP B K S W W') (hg : S g) : W'.ownsRow base e size (.slice (some ⟨g, 0, none⟩) n cap) n xs := by
  refine ⟨h.1, ?_⟩
  rcases h.2 with ⟨h, _⟩ | ⟨g', cap', cur, hv, hb', hh, rest⟩
  · cases h
  · have hv' := hv
    simp only [Value.slice.injEq, Option.some.injEq, Addr.mk.injEq, and_true, true_and] at hv'
    obtain ⟨rfl, rfl⟩ := hv'
    exact .inr ⟨_, _, cur, rfl, hb', hk.own _ _ hg hh, rest⟩

set_option maxRecDepth 100000 in
set_option maxHeartbeats 2000000 in
theorem all_seq (n : Nat) (sb tb g cap m : Nat) (ws : List Nat) (w : World) (hsb : Boxed w sb 23 (.pointer (some ⟨tb, 0, none⟩))) (hset : SetAt w tb g cap m ws) (hT : Tab w) :
    SeqP n Tryd.prog 38 #[.pointer (some ⟨sb, 0, none⟩)] natV (boxTab sb) (elems ws) w := fun l J Jx W hWs hWlow hJ hJx hY h0 => by
  have hsbW : Boxed W sb 23 (.pointer (some ⟨tb, 0, none⟩)) := (hWlow sb hsb.lt).trans hsb
  have hsetW := hset.same hWlow
  have hTW := hT.same hWlow
  have hlen : ws.length ≤ 64 := by have := hset.len; have := hset.room; omega
  have HX := hide hset.wlt
  have HWo := hide (words_k hsetW)
  have hc := hsbW.cell
  clear hsetW hset hT hsb
  have HWs := hide hWs
  clear hWs hWlow
  refine callsIn_of_wp Tryd.func38 rfl trivial ?_ rfl
  simp only [Tryd.ntmps38, List.size_toArray, List.length_cons, List.length_nil, Nat.reduceAdd, Nat.reduceSub, Array.replicate_succ, Array.replicate_zero, List.push_toArray, List.append_toArray, List.nil_append, List.cons_append]
  gi_wp2_with (refine ⟨trivial, (fun h => by cases h), ?_⟩; gi_at_call 14; refine (callsIn_wide.2 HWo.out).mono ?_; rintro e w1 ⟨g', cap', rfl, A1, A2⟩; have B1 := hide A1; have B2 := hide A2; clear A1 A2)
  have hg' : W.heap.size ≤ g' := (B1.out.lt g' rfl).1
  have hJ1 : J [] (fun k => k = g') w1 := hJ.below (hJ.claim _ _ _ _ h0 (fun k hk => .inr (by rw [hk]; exact hg'))) B2.out
  have hT1 : Tab w1 := hTW.below B2.out hTW.lt
  clear h0
  gi_loopw [3, 4, 8] (fun _ _ i wr => ∃ (k : Nat) (pre : List Nat), k ≤ ws.length ∧ i = .int .i64 k ∧ wr.ownsRow W.heap.size 56 1 (.slice (some ⟨g', 0, none⟩) ws.length cap') ws.length (u64s ws) ∧ Tab wr ∧ elems ws = pre ++ elemsFrom k (ws.drop k) ∧ J pre (fun k => k = g') wr)
    (fun _ _ i _ => ws.length - (intOf i).toNat)
  case atStart => exact ⟨0, [], Nat.zero_le _, rfl, B1.out, hT1, by rw [List.drop_zero]; rfl, hJ1⟩
  case round =>
    obtain ⟨k, pre, hk, rfl, hrow, hTr, hels, hJr⟩ := hrel
    clear hc hT1 hJ1 HWo hsbW hTW
    by_cases hlt : k < ws.length
    · have hx := HX.out k hlt
      have hcell : wr.cell? ⟨g', k, none⟩ = some (.int .u64 (ws[k] : Int)) := by rw [hrow.cellAt k (by omega), u64s_get ws k hlt]
      rw [elemsFrom_drop k ws k hlt] at hels
      generalize ws[k] = x at *
      gi_wp2
      gi_loopw [4] (fun v wr => ∃ (y : Nat) (pre : List Nat), y < 18446744073709551616 ∧ v = .int .u64 y ∧ wr.ownsRow W.heap.size 56 1 (.slice (some ⟨g', 0, none⟩) ws.length cap') ws.length (u64s ws) ∧ Tab wr ∧ elems ws = pre ++ ((wbits y).map (fun i => k * 64 + i) ++ elemsFrom (k + 1) (ws.drop (k + 1))) ∧ J pre (fun k => k = g') wr)
        (fun v _ => (intOf v).toNat)
      case atStart => exact ⟨x, pre, hx, rfl, hrow, hTr, hels, hJr⟩
      case round =>
        clear hx hcell hrow hTr hels hJr
        obtain ⟨y, pre, hy, rfl, hrow, hTr, hels, hJr⟩ := hrel
        by_cases hy0 : y = 0
        · subst hy0
          rw [wbits_zero, List.map_nil, List.nil_append] at hels
          have R := hide (And.intro hrow (And.intro hTr (And.intro hels hJr)))
          clear hrow hTr hels hJr
          gi_wp2
          go_roundw
          case rel => exact ⟨k + 1, _, by omega, by go_num, R.out.1, R.out.2.1, R.out.2.2.1, R.out.2.2.2⟩
          case measure => simp [intOf]; omega
        · have hw := wbits_low y hy hy0
          rw [hw, List.map_cons, List.cons_append] at hels
          have hlt2 := and_pred_lt y hy0
          have hc := (low_one y hy hy0).1
          have HZ := hide (tz_k y hy hy0 wr hTr)
          have hne : ((y : Int) != 0) = true := by simp; omega
          have hand := u64_and_nat y (y - 1) hy (by omega)
          have hsub : IntKind.u64.wrap ((y : Int) - 1) = ((y - 1 : Nat) : Int) := by rw [IntKind.wrap_u64]; omega
          generalize Lib.ctz 64 y = c at *
          obtain ⟨fn, tmps, assign, body, hyy, hR⟩ := hY pre (k * 64 + c) _ _ wr hJr ⟨_, hels⟩ ⟨rfl, fun k hk => by rw [hk]; exact (hrow.lt g' rfl).2⟩
          have hmul : IntKind.i64.wrap ((k : Int) * 64) = ((k * 64 : Nat) : Int) := by rw [IntKind.wrap_i64]; omega
          have hadd : IntKind.i64.wrap (((k * 64 : Nat) : Int) + (c : Int)) = ((k * 64 + c : Nat) : Int) := by rw [IntKind.wrap_i64]; omega
          have H1 := hide hels
          have H2 := hide hrow
          have H3 := hide hTr
          clear hels hrow hTr hw hJr
          generalize k * 64 + c = z at *
          generalize hz1 : k * 64 = z1 at *
          generalize hz2 : y &&& (y - 1) = y2 at *
          generalize hz3 : y - 1 = y1 at *
          clear hz1 hz2 hz3
          gi_wp2_with (refine ⟨trivial, (fun h => by cases h), ?_⟩; gi_at_call 39; refine (callsIn_wide.2 HZ.out).mono ?_; rintro e w2 ⟨rfl, rfl⟩)
          refine ⟨(fun h => by cases h), hR.mono ?_⟩
          rintro e W4 (⟨rfl, hJ4, hk4⟩ | ⟨rfl, hJx4⟩)
          · have R1 := hide (row_keptP H2.out hk4 rfl)
            have R2 := hide (H3.out.keptP hk4)
            have R3 := hide hJ4
            clear hJ4 hk4
            gi_wp2
            go_roundw
            case rel => exact ⟨y2, _, by omega, rfl, R1.out, R2.out, by rw [H1.out]; simp, R3.out⟩
            case measure => simp [intOf]; omega
          · gi_wp2
            refine bodyPost_ret (results_none rfl _ _ _) rfl ?_
            exact ⟨⟨_, rfl⟩, .inr ⟨_, _, _, _, H1.out, hJx4⟩⟩
    · have e : k = ws.length := by omega
      subst e
      rw [List.drop_length, elemsFrom, List.append_nil] at hels
      gi_wp2
      go_end0
      exact ⟨⟨_, rfl⟩, .inl ⟨_, by rw [hels]; exact hJr⟩⟩
end Go.Proofs.YtfagjejknnkhdaaDoor
