/- What the statements' own functions answer: same, plain, heads. -/
import Derived.Test.YthpkjehoogodkaaDoorZKHm
namespace Go.Proofs.YthpkjehoogodkaaDoor
open Go.RowKit

/-- A slice of tokens, whatever they are. -/
def RawAt (w : World) (B : Nat) (sl : Value) (l : List Tq) : Prop := ∃ a c, sl = .slice a l.length c ∧ l.length ≤ 4294967298 ∧ ∀ j (h : j < l.length), ∃ b off, a = some ⟨b, off, none⟩ ∧ b < B ∧
  (∀ (i : Nat) (v : Value), (tcells l[j].k l[j].o l[j].l l[j].c l[j].t l[j].i)[i]? = some v → w.cell? ⟨b, off + j * 6 + i, none⟩ = some v)
theorem RawAt.kept {w w' : World} {B : Nat} {sl : Value} {l : List Tq} (h : RawAt w B sl l) (hk : ∀ b o, b < B → w'.cell? ⟨b, o, none⟩ = w.cell? ⟨b, o, none⟩) : RawAt w' B sl l := by
  obtain ⟨a, c, e, hl, hc⟩ := h
  refine ⟨a, c, e, hl, fun j hj => ?_⟩
  obtain ⟨b, off, e, hb, h0⟩ := hc j hj
  exact ⟨b, off, e, hb, fun i v hv => (hk _ _ hb).trans (h0 i v hv)⟩
theorem RawAt.below {w w' : World} {B : Nat} {sl : Value} {l : List Tq} (h : RawAt w B sl l) (hb : Below B w w') : RawAt w' B sl l :=
  h.kept fun b o hB => hb.cell (p := ⟨b, o, none⟩) hB
theorem RawAt.up {w : World} {B B' : Nat} {sl : Value} {l : List Tq} (h : RawAt w B sl l) (hB : B ≤ B') : RawAt w B' sl l := by
  obtain ⟨a, c, e, hl, hc⟩ := h
  refine ⟨a, c, e, hl, fun j hj => ?_⟩
  obtain ⟨b, off, e, hb, h0⟩ := hc j hj
  exact ⟨b, off, e, by omega, h0⟩
theorem RawAt.len {w : World} {B : Nat} {sl : Value} {l : List Tq} (h : RawAt w B sl l) : ∃ a c, sl = .slice a l.length c ∧ l.length ≤ 4294967298 := by
  obtain ⟨a, c, e, hl, _⟩ := h
  exact ⟨a, c, e, hl⟩
theorem RawAt.item {w : World} {B : Nat} {a : Option Addr} {m c : Nat} {l : List Tq} (h : RawAt w B (.slice a m c) l) (j : Nat) (hj : j < l.length) : ∃ b off, a = some ⟨b, off, none⟩ ∧ b < B ∧
    w.cell? ⟨b, off + j * 6, none⟩ = some (.int .i64 l[j].k) ∧ w.cell? ⟨b, off + j * 6 + 1, none⟩ = some (.int .i64 l[j].o) ∧ w.cell? ⟨b, off + j * 6 + 2, none⟩ = some (.int .i64 l[j].l) ∧ w.cell? ⟨b, off + j * 6 + 3, none⟩ = some (.int .i64 l[j].c) ∧
    w.cell? ⟨b, off + j * 6 + 4, none⟩ = some (.string l[j].t) ∧ w.cell? ⟨b, off + j * 6 + 5, none⟩ = some (.int .i64 l[j].i) := by
  obtain ⟨a', c', e, _, hc⟩ := h
  cases e
  obtain ⟨b, off, e, hb, h0⟩ := hc j hj
  exact ⟨b, off, e, hb, h0 0 _ rfl, h0 1 _ rfl, h0 2 _ rfl, h0 3 _ rfl, h0 4 _ rfl, h0 5 _ rfl⟩
theorem TqAt.raw {w : World} {B : Nat} {sl : Value} {l : List Tq} (h : TqAt w B sl l) : RawAt w B sl l := by
  obtain ⟨a, c, e, hl, hc⟩ := h
  refine ⟨a, c, e, by omega, fun j hj => ?_⟩
  obtain ⟨b, off, e, hb, h0, _⟩ := hc j hj
  exact ⟨b, off, e, hb, h0⟩
/-- Tokens, cell by cell. -/
def tqRow (l : List Tq) : List Value := l.flatMap fun x => [.int .i64 x.k, .int .i64 x.o, .int .i64 x.l, .int .i64 x.c, .string x.t, .int .i64 x.i]
theorem tqRow_snoc (l : List Tq) (x : Tq) : tqRow (l ++ [x]) = tqRow l ++ [.int .i64 x.k, .int .i64 x.o, .int .i64 x.l, .int .i64 x.c, .string x.t, .int .i64 x.i] := by simp [tqRow]
theorem tqRow_at : ∀ (l : List Tq) (k : Nat) (h : k < l.length) (i : Nat) (v : Value), (tcells l[k].k l[k].o l[k].l l[k].c l[k].t l[k].i)[i]? = some v → (tqRow l)[k * 6 + i]? = some v
  | [], k, h, _, _, _ => absurd h (by simp)
  | x :: r, 0, _, i, v, hv => by
    have hi : i < 6 := by
      by_cases q : i < 6
      · exact q
      · rw [Array.getElem?_eq_none (by simp; omega)] at hv
        cases hv
    have e : tqRow (x :: r) = [.int .i64 x.k, .int .i64 x.o, .int .i64 x.l, .int .i64 x.c, .string x.t, .int .i64 x.i] ++ tqRow r := rfl
    rw [e, Nat.zero_mul, Nat.zero_add, List.getElem?_append_left (by simpa using hi)]
    simpa using hv
  | x :: r, k + 1, h, i, v, hv => by
    have := tqRow_at r k (by simpa using h) i v hv
    have e : tqRow (x :: r) = [.int .i64 x.k, .int .i64 x.o, .int .i64 x.l, .int .i64 x.c, .string x.t, .int .i64 x.i] ++ tqRow r := rfl
    have e1 : (k + 1) * 6 + i = (k * 6 + i) + 6 := by omega
    rw [e, e1, List.getElem?_append_right (by simp)]
    simpa using this
/-- A row that the call made is a slice of tokens. -/
theorem raw_row {w : World} {B : Nat} {v : Value} {l : List Tq} (h : w.ownsRow B 35 6 v l.length (tqRow l)) (hl : l.length ≤ 4294967298) : RawAt w w.heap.size v l := by
  obtain ⟨a, c, rfl⟩ := row_slice h
  refine ⟨a, c, rfl, hl, fun j hj => ?_⟩
  obtain ⟨M, hM⟩ : ∃ M, l.length = M + 1 := ⟨l.length - 1, by omega⟩
  have h2 := h
  rw [hM] at h2
  obtain ⟨g1, c1, e⟩ := ownsRow_succ h2
  cases e
  refine ⟨g1, 0, rfl, (h.lt g1 rfl).2, fun i v hv => ?_⟩
  have := rowCell h (j * 6 + i) v (tqRow_at l j hj i v hv)
  rw [Nat.zero_add]
  exact this
/-- Tokens as Scan gives them. -/
def tqs (L : List UInt8) (ts : List (Tkn × Nat)) : List Tq := ts.map fun x => ⟨x.1.kind, x.2, (lc L x.2).1, (lc L x.2).2, str x.1.text, x.1.int⟩
theorem tqs_row (L : List UInt8) : ∀ ts : List (Tkn × Nat), tkRow L ts = tqRow (tqs L ts)
  | [] => rfl
  | x :: r => by
    have := tqs_row L r
    unfold tkRow tqRow tqs at this ⊢
    rw [List.flatMap_cons, List.map_cons, List.flatMap_cons, this]
theorem tqs_len (L : List UInt8) (ts : List (Tkn × Nat)) : (tqs L ts).length = ts.length := by simp [tqs]
theorem scF_len : ∀ (n : Nat) (L : List UInt8) (k : Nat), (scF n L k).1.length ≤ n + 1
  | 0, _, _ => by simp [scF]
  | n + 1, L, k => by
    rw [scF]
    split
    · simp
    · split
      · have := scF_len n L (k + (cutC (L.drop k)).size)
        dsimp only
        split
        · omega
        · rw [List.length_cons]; omega
      · simp
theorem sc_len (L : List UInt8) : (sc L 0).1.length ≤ L.length + 1 := by
  have := scF_len (L.length - 0) L 0
  unfold sc
  omega

set_option maxRecDepth 100000 in
set_option maxHeartbeats 4000000 in
/-- The same tokens are the same. -/
theorem same_yes (l : List Tq) (sa sb : Value) (w : World) (ha : RawAt w w.heap.size sa l) (hb : RawAt w w.heap.size sb l) :
    Calls Tryd.prog 9 #[sa, sb] w fun e w' => e = .returned (.bool true) ∧ Below w.heap.size w w' := by
  have HA := hide ha
  have HB := hide hb
  obtain ⟨a, c, rfl, hlen⟩ := ha.len
  obtain ⟨a2, c2, rfl, _⟩ := hb.len
  clear ha hb
  go_enter Tryd.func9, Tryd.ntmps9
  go_wp2
  go_loopw [5] (fun v wr => ∃ j : Nat, v = .int .i64 (j : Int) ∧ j ≤ l.length ∧ Below w.heap.size w wr) (fun v _ => l.length - (Lib.intOf v).toNat)
  case atStart => exact ⟨0, rfl, Nat.zero_le _, Below.refl _ _⟩
  case round =>
    obtain ⟨j, rfl, hj, hbel⟩ := hrel
    by_cases hlt : j < l.length
    · obtain ⟨b, off, rfl, hb0, p0, p1, p2, p3, p4, p5⟩ := (HA.out.below hbel).item j hlt
      obtain ⟨b', off', rfl, hb0', q0, q1, q2, q3, q4, q5⟩ := (HB.out.below hbel).item j hlt
      generalize l[j] = x at *
      obtain ⟨k, o, ln, cl, t, i⟩ := x
      dsimp only at *
      have HBEL := hide hbel
      have hne : ∀ w, (binOp BinOp.neq 35 (.agg (tcells k o ln cl t i)) (.agg (tcells k o ln cl t i))).run Tryd.prog w = .ok (.bool false) w := fun w => by rw [tokNe]; simp
      clear hb0 hb0' hbel
      go_wp2
      go_quiet (fail)
      go_wp2
      go_roundw
      case rel => exact ⟨j + 1, by simp, by omega, HBEL.out.trans ((below_drewN wr _).mono HBEL.out.size)⟩
      case measure =>
        simp [Lib.intOf]
        omega
    · have hj2 : j = l.length := by omega
      subst hj2
      go_wp2
      go_ret
      exact ⟨rfl, hbel⟩

def Tq.strip (x : Tq) : Tq := ⟨x.k, 0, 0, 0, x.t, x.i⟩
set_option maxRecDepth 100000 in
set_option maxHeartbeats 4000000 in
/-- Tokens without their places, in a row of the call's own. -/
theorem plain_k (l : List Tq) (sl : Value) (w : World) (hi : RawAt w w.heap.size sl l) :
    Calls Tryd.prog 15 #[sl] w fun e w' => ∃ v, e = .returned v ∧ w'.ownsRow w.heap.size 35 6 v (l.map Tq.strip).length (tqRow (l.map Tq.strip)) ∧ Below w.heap.size w w' := by
  obtain ⟨i6, hi6, h60, h61, h62⟩ := info_parts infoTok
  have HI := hide hi
  obtain ⟨a, c, rfl, hlen⟩ := hi.len
  clear hi
  go_enter Tryd.func15, Tryd.ntmps15
  go_wp2
  go_loopw [3, 4] (fun v vi wr => ∃ j : Nat, vi = .int .i64 (j : Int) ∧ j ≤ l.length ∧ wr.ownsRow w.heap.size 35 6 v j (tqRow ((l.take j).map Tq.strip)) ∧ Below w.heap.size w wr) (fun _ v _ => l.length - (Lib.intOf v).toNat)
  case atStart => exact ⟨0, rfl, Nat.zero_le _, World.ownsRow_nil _ _ _ _, Below.refl _ _⟩
  case round =>
    obtain ⟨j, rfl, hj, hrow, hbel⟩ := hrel
    by_cases hlt : j < l.length
    · obtain ⟨b, off, rfl, hb0, p0, p1, p2, p3, p4, p5⟩ := (HI.out.below hbel).item j hlt
      have hrow2 : tqRow ((l.take (j + 1)).map Tq.strip) = tqRow ((l.take j).map Tq.strip) ++ [.int .i64 l[j].k, .int .i64 0, .int .i64 0, .int .i64 0, .string l[j].t, .int .i64 l[j].i] := by
        rw [List.take_succ_eq_append_getElem hlt, List.map_append, List.map_cons, List.map_nil, tqRow_snoc]
        rfl
      obtain ⟨ao, cp, rfl⟩ := row_slice hrow
      generalize tqRow ((l.take j).map Tq.strip) = xs at *
      generalize l[j] = x at *
      obtain ⟨k, o, ln, cl, t, i⟩ := x
      dsimp only at *
      have HR2 := hide hrow2
      have HB := hide hbel
      have hsz := hbel.size
      clear hrow2 hbel
      obtain ⟨W, hW⟩ : ∃ W, wr.alloc (.cells (tcells k 0 0 0 t i) 35) = W := ⟨_, rfl⟩
      have e1 : W.heap[wr.heap.size]? = some (.cells (tcells k 0 0 0 t i) 35 (0, 0)) := by rw [← hW]; exact World.alloc_heap_new wr _
      have bW : Below wr.heap.size wr W := by rw [← hW]; exact kalloc (Below.refl _ _) _
      have rW := row_below hrow bW
      have zW : wr.heap.size < W.heap.size := (Array.getElem?_eq_some_iff.1 e1).1
      have x0 := kcells_at e1 0 _ rfl
      have x1 := kcells_at e1 1 _ rfl
      have x2 := kcells_at e1 2 _ rfl
      have x3 := kcells_at e1 3 _ rfl
      have x4 := kcells_at e1 4 _ rfl
      have x5 := kcells_at e1 5 _ rfl
      have HW := hide bW
      have HRW := hide rW
      clear e1 bW hrow rW
      go_wp2_with (at_builtin; refine wpList_append_own _ rfl _ _ 22 rfl w.heap.size 35 i6 (.agg ztok) 6 56 Tryd.underlying22 hi6 h60 h61 h62 rfl (by decide) _ _ _ rfl (HRW.out.alloc _) ⟨W.heap.size, 0, none⟩ 1 1 [.int .i64 k, .int .i64 0, .int .i64 0, .int .i64 0, .string t, .int .i64 i] rfl rfl (cell_six_at _ _ _ _ _ _ _ _ _ rfl) (by simp [Value.oneCell']) (by unfold maxLen; omega) (by omega) (by (simp; omega)) ?_; intro v' w6 hown' hgrow _; obtain ⟨g', cap', rfl⟩ := ownsRow_succ hown'; have HO := hide hown'; have HG := hide hgrow; clear hown' hgrow)
      go_roundw
      case rel =>
        refine ⟨j + 1, by simp, by omega, ?_, ?_⟩
        · rw [HR2.out]
          exact HO.out
        · exact (kalloc (ktrans HB.out HW.out) _).grown HG.out (by simp; omega) (fun q eq => (row_block HRW.out q eq).1)
      case measure =>
        simp [Lib.intOf]
        omega
    · have hj2 : j = l.length := by omega
      subst hj2
      rw [List.take_length] at hrow
      have HR := hide hrow
      clear hrow
      go_wp2
      go_ret
      refine ⟨_, rfl, ?_, hbel⟩
      rw [List.length_map]
      exact HR.out
end Go.Proofs.YthpkjehoogodkaaDoor
