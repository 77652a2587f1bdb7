/- The parser's numbers and names, where they fail, too. -/
import Derived.Test.YthmhcpghfbifiaaGreatDoorGPars
import Derived.Test.YthmhcpghfbifiaaGreatDoorGE2
import Derived.Test.YthmhcpghfbifiaaGreatDoorGE7
import Derived.Test.YthmhcpghfbifiaaGreatDoorGE9
import Derived.Test.YthmhcpghfbifiaaGreatDoorGSetM
import Derived.Test.YthmhcpghfbifiaaGreatDoorGE3
namespace Go.Proofs.YthmhcpghfbifiaaGreatDoor
open Go.RowKit

theorem setCell_selfV {w : World} {a : Addr} {v : Value} (h : w.cell? a = some v) : w.setCell a v = w := by
  have hh : (w.setCell a v).heap = w.heap := by
    apply Array.ext_getElem?
    intro i
    by_cases hi : a.block = i
    · subst hi
      unfold World.cell? at h
      split at h
      · rename_i c e f hb
        have hs : a.spot.isSome = false := by
          cases hs : a.spot.isSome with
          | false => rfl
          | true => simp [hs] at h
        simp [hs] at h
        simp only [World.setCell, Array.getElem?_modify, if_true, hb, Option.map_some, hs]
        have e2 : c.setIfInBounds a.off v = c := by
          apply Array.ext_getElem?
          intro j
          rw [Array.getElem?_setIfInBounds]
          by_cases hj : a.off = j
          · subst hj
            rw [if_pos rfl, h, if_pos (Array.getElem?_eq_some_iff.1 h).1]
          · rw [if_neg hj]
        simp [e2]
      · simp at h
    · simp [World.setCell, Array.getElem?_modify, hi]
  show ({ w with heap := (w.setCell a v).heap } : World) = w
  rw [hh]
set_option maxRecDepth 100000 in
set_option maxHeartbeats 1000000 in
theorem num_no (w : World) (pb : Nat) (s : List UInt8) (t0 t : Tk) (q : Nat) (x : ByteArray) (hx : x.size ≤ 1048576) (hP : ParAt w pb s t0 q) (hs : s.length ≤ 1048576) (hT : Tabs w) (he : ¬ numE x.data.toList = 0) :
    Calls Tryz.prog 125 #[.pointer (some ⟨pb, 0, none⟩), .agg (tcells t), .string x] w fun e w' => e = gaveIn s 22 t.off ∧ Below w.heap.size w w' := by
  have hpb := hP.lt
  obtain ⟨W, hW⟩ : ∃ W, w.alloc (.cells (tcells t) 148) = W := ⟨_, rfl⟩
  have bW : Below w.heap.size w W := by rw [← hW]; exact alloc_v (Below.refl _ _) _
  have e1 : W.heap[w.heap.size]? = some (.cells (tcells t) 148 (0, 0)) := by rw [← hW]; exact World.alloc_heap_new w _
  have l1 : w.heap.size < W.heap.size := (Array.getElem?_eq_some_iff.1 e1).1
  have HN := hide (number_k x (by omega) W (hT.below bW))
  have HG := hide (fun (U : World) (b : Below W.heap.size W U) => giveUp_k U pb s t0 t q 22 (hP.grownL (trans_v bW b) hpb) hs)
  have HE1 := hide e1
  have hnb : (numE x.data.toList != 0) = true := by simpa using he
  generalize numV x.data.toList = z at *
  generalize numE x.data.toList = ee at *
  clear hT he hP e1
  go_enter Tryz.func125, Tryz.ntmps125
  go_wp2_with (first
    | (go_at_call 152; refine HN.out.mono ?_; clear HN; rintro e w2 ⟨rfl, b2⟩; have e2 := (b2.block _ l1).trans HE1.out; have y0 := cells_at e2 0 _ rfl; have y1 := cells_at e2 1 _ rfl; have y2 := cells_at e2 2 _ rfl; have HG2 := hide (HG.out _ b2); have B2 := hide b2; clear b2 e2)
    | (go_at_call 117; refine HG2.out.mono ?_; clear HG2; rintro e w3 ⟨rfl, b3⟩; have B3 := hide b3; clear b3))
  exact ⟨rfl, rfl, trans_v bW (trans_v B2.out B3.out)⟩
set_option maxRecDepth 100000 in
set_option maxHeartbeats 2000000 in
theorem parName_k (w : World) (pb : Nat) (s : List UInt8) (t0 t : Tk) (q : Nat) (hx : t.text.size ≤ 1048576) (hP : ParAt w pb s t0 q) (hs : s.length ≤ 1048576) (hT : Tabs w) :
    Calls Tryz.prog 122 #[.pointer (some ⟨pb, 0, none⟩), .agg (tcells t)] w fun e w' => (match nameM t with | .ok v => e = .returned (.agg (vcells v (.slice none 0 0))) | .error (c, o) => e = gaveIn s c o) ∧ Below w.heap.size w w' := by
  have hpb := hP.lt
  obtain ⟨tk, to, tt⟩ := t
  obtain ⟨W, hW⟩ : ∃ W, (w.alloc (.cells (tcells ⟨tk, to, tt⟩) 148)).alloc (.cells zcells 46) = W := ⟨_, rfl⟩
  have bW : Below w.heap.size w W := by rw [← hW]; exact alloc_v (alloc_v (Below.refl _ _) _) _
  have e1 : W.heap[w.heap.size]? = some (.cells (tcells ⟨tk, to, tt⟩) 148 (0, 0)) := by rw [← hW]; exact (Below.heap_alloc _ _ _ (by simp)).trans (World.alloc_heap_new w _)
  have e2 : W.heap[w.heap.size + 1]? = some (.cells zcells 46 (0, 0)) := by
    rw [← hW]
    have := World.alloc_heap_new (w.alloc (.cells (tcells ⟨tk, to, tt⟩) 148)) (.cells zcells 46)
    rwa [World.size_alloc] at this
  have l2 : w.heap.size + 1 < W.heap.size := (Array.getElem?_eq_some_iff.1 e2).1
  have x0 := cells_at e1 0 _ rfl
  have x1 := cells_at e1 1 _ rfl
  have x2 := cells_at e1 2 _ rfl
  have HBO := hide (fun b => bool_k b W)
  have HSY := hide (symbol_k tt (by simp only at hx; omega) W (hT.below bW))
  have HG := hide (fun (U : World) (b : Below W.heap.size W U) => giveUp_k U pb s t0 ⟨tk, to, tt⟩ q 21 (hP.grownL (trans_v bW b) hpb) hs)
  have HE := hide (And.intro e1 e2)
  clear hT hP e1 e2 hx
  unfold nameM
  simp only
  by_cases h1 : tt.toList = [116, 114, 117, 101]
  · rw [if_pos h1]
    have hq1 : (tt.toList == [116, 114, 117, 101]) = true := by simpa using h1
    clear h1 HSY HG
    go_enter Tryz.func122, Tryz.ntmps122
    go_wp2_with (go_at_call 149; refine (HBO.out true).mono ?_; clear HBO; rintro e w2 ⟨rfl, b2⟩; have f2 := (b2.block _ l2).trans HE.out.2; have r0 := cells_at f2 0 _ rfl; have rz0 := frozen_at f2 0; have r1 := cells_at f2 1 _ rfl; have rz1 := frozen_at f2 1; have r2 := cells_at f2 2 _ rfl; have rz2 := frozen_at f2 2; have r3 := cells_at f2 3 _ rfl; have rz3 := frozen_at f2 3; have r4 := cells_at f2 4 _ rfl; have rz4 := frozen_at f2 4; have F2 := hide f2; have B2 := hide b2; clear b2 f2)
    have G := stored w w2 1 1 0 ⟨#[]⟩ (.slice none 0 0) zcells (w.heap.size + 1) (by omega) (trans_v bW B2.out) rfl F2.out
    refine bodyPost_ret (results_cell_row rfl _ _ (w.heap.size + 1) _ _ _ _ rfl G.1 Tryz.underlying46 rfl infoVal5) rfl ?_
    exact ⟨rfl, G.2⟩
  rw [if_neg h1]
  have hq1 : (tt.toList == [116, 114, 117, 101]) = false := by simpa using h1
  clear h1
  by_cases h2 : tt.toList = [102, 97, 108, 115, 101]
  · rw [if_pos h2]
    have hq2 : (tt.toList == [102, 97, 108, 115, 101]) = true := by simpa using h2
    clear h2 HSY HG
    go_enter Tryz.func122, Tryz.ntmps122
    go_wp2_with (go_at_call 149; refine (HBO.out false).mono ?_; clear HBO; rintro e w2 ⟨rfl, b2⟩; have f2 := (b2.block _ l2).trans HE.out.2; have r0 := cells_at f2 0 _ rfl; have rz0 := frozen_at f2 0; have r1 := cells_at f2 1 _ rfl; have rz1 := frozen_at f2 1; have r2 := cells_at f2 2 _ rfl; have rz2 := frozen_at f2 2; have r3 := cells_at f2 3 _ rfl; have rz3 := frozen_at f2 3; have r4 := cells_at f2 4 _ rfl; have rz4 := frozen_at f2 4; have F2 := hide f2; have B2 := hide b2; clear b2 f2)
    have G := stored w w2 1 0 0 ⟨#[]⟩ (.slice none 0 0) zcells (w.heap.size + 1) (by omega) (trans_v bW B2.out) rfl F2.out
    refine bodyPost_ret (results_cell_row rfl _ _ (w.heap.size + 1) _ _ _ _ rfl G.1 Tryz.underlying46 rfl infoVal5) rfl ?_
    exact ⟨rfl, G.2⟩
  rw [if_neg h2]
  have hq2 : (tt.toList == [102, 97, 108, 115, 101]) = false := by simpa using h2
  clear h2 HBO
  cases hsy : symB tt with
  | false =>
    have hk := HSY.out
    rw [hsy] at hk
    have HSY : Hid (Calls Tryz.prog 150 #[.string tt] W fun e w' => e = .returned (.tuple #[.agg #[.int .i64 0, .int .i64 0, .int .i64 0, .string ⟨#[]⟩, .slice none 0 0], .int .i64 40]) ∧ Below W.heap.size W w') := hide hk
    clear hk
    go_enter Tryz.func122, Tryz.ntmps122
    go_wp2_with (first
      | (go_at_call 150; refine HSY.out.mono ?_; clear HSY; rintro e w2 ⟨rfl, b2⟩; have f2 := (b2.block w.heap.size (by omega)).trans HE.out.1; have b3 : Below w2.heap.size w2 (w2.alloc (.cells #[.int .i64 0, .int .i64 0, .int .i64 0, .string ⟨#[]⟩, .slice none 0 0] 46)) := alloc_v (Below.refl _ _) _; have f3 := (b3.block _ (Nat.lt_of_lt_of_le (by omega) b2.size)).trans f2; have y0 := cells_at f3 0 _ rfl; have y1 := cells_at f3 1 _ rfl; have y2 := cells_at f3 2 _ rfl; have HG3 := hide (HG.out _ (trans_v b2 b3)); have B3 := hide (trans_v b2 b3); clear b2 b3 f2 f3)
      | (go_at_call 117; refine HG3.out.mono ?_; clear HG3; rintro e w4 ⟨rfl, b4⟩; have B4 := hide b4; clear b4))
    exact ⟨rfl, rfl, trans_v bW (trans_v B3.out B4.out)⟩
  | true =>
    have hk := HSY.out
    rw [hsy] at hk
    have HSY : Hid (Calls Tryz.prog 150 #[.string tt] W fun e w' => e = .returned (.tuple #[.agg #[.int .i64 4, .int .i64 0, .int .i64 0, .string tt, .slice none 0 0], .int .i64 0]) ∧ Below W.heap.size W w') := hide hk
    clear hk
    go_enter Tryz.func122, Tryz.ntmps122
    go_wp2_with (go_at_call 150; refine HSY.out.mono ?_; clear HSY; rintro e w2 ⟨rfl, b2⟩; have f2 := (b2.block _ l2).trans HE.out.2; obtain ⟨w3, hw3⟩ : ∃ w3, w2.alloc (.cells #[.int .i64 4, .int .i64 0, .int .i64 0, .string tt, .slice none 0 0] 46) = w3 := ⟨_, rfl⟩; have b3 : Below w2.heap.size w2 w3 := (by rw [← hw3]; exact alloc_v (Below.refl _ _) _); have e3 : w3.heap[w2.heap.size]? = some (.cells #[.int .i64 4, .int .i64 0, .int .i64 0, .string tt, .slice none 0 0] 46 (0, 0)) := (by rw [← hw3]; exact World.alloc_heap_new w2 _); have y0 := cells_at e3 0 _ rfl; have y1 := cells_at e3 1 _ rfl; have y2 := cells_at e3 2 _ rfl; have y3 := cells_at e3 3 _ rfl; have y4 := cells_at e3 4 _ rfl; have yz4 := frozen_at e3 4; have hz4 : w3.setCell ⟨w2.heap.size, 4, none⟩ (.slice none 0 0) = w3 := setCell_selfV y4; have f3 := (b3.block _ (Nat.lt_of_lt_of_le l2 b2.size)).trans f2; have r0 := cells_at f3 0 _ rfl; have rz0 := frozen_at f3 0; have r1 := cells_at f3 1 _ rfl; have rz1 := frozen_at f3 1; have r2 := cells_at f3 2 _ rfl; have rz2 := frozen_at f3 2; have r3 := cells_at f3 3 _ rfl; have rz3 := frozen_at f3 3; have r4 := cells_at f3 4 _ rfl; have rz4 := frozen_at f3 4; have ne : w2.heap.size ≠ w.heap.size + 1 := (by have := b2.size; omega); have F3 := hide f3; have B3 := hide (trans_v b2 b3); clear b2 b3 f2 f3 e3)
    have G := stored w w3 4 0 0 tt (.slice none 0 0) zcells (w.heap.size + 1) (by omega) (trans_v bW B3.out) rfl F3.out
    refine bodyPost_ret (results_cell_row rfl _ _ (w.heap.size + 1) _ _ _ _ rfl G.1 Tryz.underlying46 rfl infoVal5) rfl ?_
    exact ⟨rfl, G.2⟩
end Go.Proofs.YthmhcpghfbifiaaGreatDoor

/- What the way down gives: right parts, tokens of the text; distinct, and where all lies. -/
namespace Go.Proofs.YthmhcpghfbifiaaGreatDoor
open Go.RowKit

theorem ItemsIn.evs {w : World} {S : Nat → Prop} {B n : Nat} (hS : ∀ b, S b → b < B) {a : Option Addr} {len c : Nat} {its : List Vl} (h : ItemsIn w S (n + 1) (.slice a len c) its) : ∃ l : List (Ev w B n), l.map Ev.v = its ∧ (∀ j (hj : j < l.length), ∃ b off, a = some ⟨b, off, none⟩ ∧ b < B ∧ ∀ i, i < 5 → w.cell? ⟨b, off + j * 5 + i, none⟩ = l[j].cells[i]?) ∧ ∀ x ∈ l, ItemsIn w S n x.sl x.v.items := by
  obtain ⟨a', c', e, _, hc⟩ := h
  cases e
  obtain ⟨l, h1, h2⟩ := list_of (P := fun j (x : Ev w B n) => (∃ h : j < its.length, x.v = its[j]) ∧ (∃ b off, a = some ⟨b, off, none⟩ ∧ b < B ∧ ∀ i, i < 5 → w.cell? ⟨b, off + j * 5 + i, none⟩ = x.cells[i]?) ∧ ItemsIn w S n x.sl x.v.items) its.length fun j hj => by
    obtain ⟨b, off, s', e, hb, p0, p1, p2, p3, p4, p5, p6⟩ := hc j hj
    refine ⟨⟨its[j], s', p5.at hS, p6⟩, ⟨hj, rfl⟩, ⟨b, off, e, hS b hb, fun i hi => ?_⟩, p5⟩
    match i, hi with
    | 0, _ => exact p0
    | 1, _ => exact p1
    | 2, _ => exact p2
    | 3, _ => exact p3
    | 4, _ => exact p4
  refine ⟨l, ?_, fun j hj => (h2 j hj).2.1, fun x hx => ?_⟩
  · apply List.ext_getElem
    · simp [h1]
    · intro j k1 k2
      obtain ⟨_, e⟩ := (h2 j (by simpa using k1)).1
      simpa using e
  · obtain ⟨j, hj, rfl⟩ := List.getElem_of_mem hx
    exact (h2 j hj).2.2
/-- A row of elements: items, and where they lie. -/
theorem items_of_rowS {w0 w : World} {B n blk cap : Nat} {S : Nat → Prop} (l : List (Ev w0 B n)) (hS : ∀ x ∈ l, ItemsIn w S n x.sl x.v.items) (hr : RowV w blk 0 (l.map Ev.cells)) (hblk : S blk) (hl : l.length ≤ maxLen) :
    ItemsIn w S (n + 1) (.slice (some ⟨blk, 0, none⟩) l.length cap) (l.map Ev.v) := by
  refine ⟨_, cap, by rw [List.length_map], by simpa using hl, fun j hj => ?_⟩
  have hj' : j < l.length := by simpa using hj
  obtain ⟨p0, p1, p2, p3, p4⟩ := hr.one j hj'
  rw [List.getElem_map]
  exact ⟨blk, 0, l[j].sl, rfl, hblk, p0, p1, p2, p3, p4, hS _ (List.getElem_mem hj'), l[j].ok⟩
set_option maxRecDepth 100000 in
theorem distinct_newS (w : World) (B n : Nat) (S : Nat → Prop) (ad : Addr) (c : Nat) (l : List (Ev w B (n + 1))) (h0 : 0 < l.length) (hl : l.length ≤ 1000000000) (hB : B ≤ w.heap.size) (hS : ∀ b, S b → b < B) (hin : ∀ x ∈ l, ItemsIn w S (n + 1) x.sl x.v.items) (hc : ∀ j (hj : j < l.length), ad.spot = none ∧ ad.block < B ∧ ∀ i, i < 5 → w.cell? ⟨ad.block, ad.off + j * 5 + i, none⟩ = l[j].cells[i]?) :
    Calls Tryz.prog 121 #[.slice (some ad) l.length c] w fun e w' => ∃ its g c, its.Perm (l.map Ev.v) ∧ its.Pairwise (fun x y => ordV x y ≤ 0) ∧ e = .returned (.slice (some ⟨g, 0, none⟩) (dd likeV its).length c) ∧ w.heap.size ≤ g ∧ g < w'.heap.size ∧ ItemsIn w' (fun b => S b ∨ b = g) (n + 2) (.slice (some ⟨g, 0, none⟩) (dd likeV its).length c) (dd likeV its) ∧ Below w.heap.size w w' := by
  have H1 := hide (cloneV_k w B (n + 1) ad c l h0 hl hB hc)
  have H2 := hide (fun (w1 : World) (g cap : Nat) (hg : w.heap.size ≤ g) (hg1 : g < w1.heap.size) (hb : Below w.heap.size w w1) (hr : RowV w1 g 0 (l.map Ev.cells)) =>
    sort_k (cap := cap) (l.map (Ev.lift (w1 := w1) fun b o hb' => hb.cell (p := ⟨b, o, none⟩) (Nat.lt_of_lt_of_le hb' hB))) (Nat.le_trans hB hg) hg1 (by rw [List.length_map]; omega) (show RowV w1 g 0 _ from by rw [List.map_map]; exact hr))
  simp only [List.length_map] at H2
  have HIN := hide (And.intro hS hin)
  clear hc hS hin
  go_enter Tryz.func121, Tryz.ntmps121
  go_wp2_with (first
    | (go_at_call 145; refine H1.out.mono ?_; clear H1; rintro e w1 ⟨g, cap, rfl, hg, hg1, hcap, hrow, hb1⟩)
    | (go_at_call 146; refine (H2.out w1 g cap hg hg1 hb1 hrow).mono ?_; clear H2; rintro e w2 ⟨rfl, l2, hp, hs, hr2, hg2⟩; have H3 := hide (compact_k (cap := cap) l2 (fun b o hb => World.cell?_of_block (hg2.block b (by have := hb1.size; omega) (by intro e; cases e; omega))) (Nat.le_trans hB hg) (by have := hg2.size; omega) (by have := hp.length_eq; rw [List.length_map] at this; omega) (by have := hp.length_eq; rw [List.length_map] at this; omega) hr2); rw [show l2.length = l.length by have := hp.length_eq; rwa [List.length_map] at this] at H3)
    | (go_at_call 147; refine H3.out.mono ?_; clear H3; rintro e w3 ⟨⟨c3, rfl⟩, hr3, hg3⟩))
  go_ret
  have hlen : l2.length = l.length := by have := hp.length_eq; rwa [List.length_map] at this
  have hb2 : Below w.heap.size w w2 := ⟨hg2.os.trans hb1.os, hg2.tape.trans hb1.tape, hg2.output.trans hb1.output, Nat.le_trans hb1.size hg2.size, fun k hk => (hg2.block k (Nat.lt_of_lt_of_le hk hb1.size) (by intro e; cases e; omega)).trans (hb1.block k hk)⟩
  have hb3 : Below w.heap.size w w3 := ⟨hg3.os.trans hb2.os, hg3.tape.trans hb2.tape, hg3.output.trans hb2.output, Nat.le_trans hb2.size hg3.size, fun k hk => (hg3.block k (Nat.lt_of_lt_of_le hk hb2.size) (by intro e; cases e; omega)).trans (hb2.block k hk)⟩
  have hz := hb2.size
  have hz3 := hg3.size
  have hdl : (dd likeV (l2.map Ev.v)).length = (dd Ev.like l2).length := by rw [dd_map Ev.v (eq := Ev.like) (fun _ _ => rfl), List.length_map]
  refine ⟨l2.map Ev.v, g, c3, ?_, ?_, by rw [hdl]; rfl, hg, by have := hg2.size; omega, ?_, hb3⟩
  · have := hp.map Ev.v
    rwa [List.map_map] at this
  · rw [List.pairwise_map]; exact hs
  · rw [hdl, dd_map Ev.v (eq := Ev.like) (fun _ _ => rfl)]
    refine items_of_rowS (dd Ev.like l2) (fun x hx => ?_) hr3 (.inr rfl) (by have := dd_len Ev.like l2; unfold maxLen; omega)
    obtain ⟨y, hy, rfl⟩ := List.mem_map.1 ((hp.mem_iff).1 (dd_sub _ _ x hx))
    exact (HIN.out.2 y hy).kept (fun b o hb => hb3.cell (p := ⟨b, o, none⟩) (Nat.lt_of_lt_of_le (HIN.out.1 b hb) hB)) (fun b hb => .inl hb)
/-- distinct, by the items; none, too. -/
theorem distinct_in (w : World) (B n : Nat) (S : Nat → Prop) (sl : Value) (its : List Vl) (hS : ∀ b, S b → b < B) (hi : ItemsIn w S (n + 1) sl its) (h0 : its ≠ [] → 0 < n) (hl : its.length ≤ 1000000000) (hB : B ≤ w.heap.size) :
    Calls Tryz.prog 121 #[sl] w fun e w' => ∃ s', e = .returned s' ∧ ItemsIn w' (fun b => S b ∨ (w.heap.size ≤ b ∧ b < w'.heap.size)) (n + 1) s' (setV its) ∧ Below w.heap.size w w' := by
  obtain ⟨a, c, rfl, _⟩ := hi.len
  by_cases hn : its = []
  · subst hn
    refine (distinct_nil a c w).mono ?_
    rintro e w' ⟨a', c', rfl, b⟩
    exact ⟨_, rfl, ⟨a', c', rfl, by unfold maxLen; simp [setV, srt, dd], fun j h => by simp [setV, srt, dd] at h⟩, b⟩
  obtain ⟨n, rfl⟩ : ∃ m, n = m + 1 := ⟨n - 1, by have := h0 hn; omega⟩
  obtain ⟨l, h1, h2, h3⟩ := hi.evs hS
  have hlen : its.length = l.length := by rw [← h1, List.length_map]
  have hpos : 0 < l.length := by
    rw [← hlen]
    exact List.length_pos_iff.2 hn
  obtain ⟨b, off, rfl, _, _⟩ := h2 0 hpos
  have := distinct_newS w B n S ⟨b, off, none⟩ c l hpos (by omega) hB hS h3 fun j hj => by
    obtain ⟨b', off', e, hb, hc⟩ := h2 j hj
    cases e
    exact ⟨rfl, hb, hc⟩
  rw [h1, ← hlen] at this
  refine this.mono ?_
  rintro e w' ⟨s, g, c', hp, hs, he, hg, hg', k, hb⟩
  obtain rfl := srt_only hp hs
  exact ⟨_, he, k.kept (fun _ _ _ => rfl) (fun b hb => hb.imp id fun h => by subst h; exact ⟨hg, hg'⟩), hb⟩
/-- What a way down gives. -/
def Fit (s : List UInt8) (n q : Nat) (v : Vl) (t' : Tk) (q' : Nat) : Prop := AtTok s t' ∧ q < q' ∧ q' ≤ 4096 ∧ v.ok ∧ formV v = true ∧ deepLe n v ∧ v.size + q ≤ q'
theorem ddGo_sum (eq : Vl → Vl → Bool) : ∀ (l : List Vl) (p : Vl), ((ddGo eq p l).map Vl.size).sum ≤ (l.map Vl.size).sum
  | [], _ => by simp [ddGo]
  | a :: l, p => by
    have h := ddGo_sum eq l a
    rw [ddGo]
    split
    · simp only [List.map_cons, List.sum_cons]; omega
    · simp only [List.map_cons, List.sum_cons]; omega
theorem perm_sum {l r : List Vl} (h : l.Perm r) : (l.map Vl.size).sum = (r.map Vl.size).sum := (h.map Vl.size).sum_nat
theorem setV_sum (l : List Vl) : ((setV l).map Vl.size).sum ≤ (l.map Vl.size).sum := by
  have h := perm_sum (srt_perm l)
  unfold setV
  rw [← h]
  cases srt l with
  | nil => simp [dd]
  | cons a r =>
    have := ddGo_sum likeV r a
    simp only [dd, List.map_cons, List.sum_cons]
    omega
theorem more_fit {s : List UInt8} {g : Tk → Nat → Except (Int × Nat) (Vl × Tk × Nat)} {n : Nat} (hg : ∀ t q v t' q', AtTok s t → q ≤ 4096 → g t q = .ok (v, t', q') → Fit s n q v t' q') (c : Int) :
    ∀ (f : Nat) (its : List Vl) (t : Tk) (q : Nat) (l : List Vl) (t' : Tk) (q' : Nat), AtTok s t → q ≤ 4096 → moreM s g c f its t q = .ok (l, t', q') →
    AtTok s t' ∧ q < q' ∧ q' ≤ 4096 ∧ (∀ x ∈ l, x ∈ its ∨ (x.ok ∧ formV x = true ∧ deepLe n x)) ∧ (l.map Vl.size).sum + q ≤ (its.map Vl.size).sum + q' ∧ l ≠ [] := by
  intro f
  induction f with
  | zero => intro its t q l t' q' _ _ h; simp [moreM] at h
  | succ f ih =>
    intro its t q l t' q' ht hq h
    simp only [moreM] at h
    cases e : g t q with
    | error x => rw [e] at h; cases h
    | ok r =>
    obtain ⟨v, t1, q1⟩ := r
    rw [e] at h
    simp only at h
    obtain ⟨a1, a2, a3, a4, a5, a6, a7⟩ := hg t q v t1 q1 ht hq e
    have hs : ((its ++ [v]).map Vl.size).sum = (its.map Vl.size).sum + v.size := by simp
    split at h
    · simp only [Except.ok.injEq, Prod.mk.injEq] at h
      obtain ⟨rfl, rfl, rfl⟩ := h
      refine ⟨a1.step, a2, a3, fun x hx => ?_, by omega, by simp⟩
      rcases List.mem_append.1 hx with hx | hx
      · exact .inl hx
      · obtain rfl := List.mem_singleton.1 hx
        exact .inr ⟨a4, a5, a6⟩
    · split at h
      · obtain ⟨b1, b2, b3, b4, b5, b6⟩ := ih _ _ _ _ _ _ a1.step a3 h
        refine ⟨b1, by omega, b3, fun x hx => ?_, by omega, b6⟩
        rcases b4 x hx with hx | hx
        · rcases List.mem_append.1 hx with hx | hx
          · exact .inl hx
          · obtain rfl := List.mem_singleton.1 hx
            exact .inr ⟨a4, a5, a6⟩
        · exact .inr hx
      · cases h
/-- What rows of items give. -/
def FitL (s : List UInt8) (n q : Nat) (l : List Vl) (t' : Tk) (q' : Nat) : Prop := AtTok s t' ∧ q ≤ q' ∧ q' ≤ 4096 ∧ (∀ x ∈ l, x.ok ∧ formV x = true ∧ deepLe n x) ∧ (l.map Vl.size).sum + q ≤ q'
theorem items_fit {s : List UInt8} {g : Tk → Nat → Except (Int × Nat) (Vl × Tk × Nat)} {n : Nat} (hg : ∀ t q v t' q', AtTok s t → q ≤ 4096 → g t q = .ok (v, t', q') → Fit s n q v t' q') (c : Int) (t : Tk) (q : Nat) (l : List Vl) (t' : Tk) (q' : Nat) (ht : AtTok s t) (hq : q ≤ 4096) (h : itemsM s g c t q = .ok (l, t', q')) : FitL s n q l t' q' := by
  unfold itemsM at h
  split at h
  · simp only [Except.ok.injEq, Prod.mk.injEq] at h
    obtain ⟨rfl, rfl, rfl⟩ := h
    exact ⟨ht.step, Nat.le_refl _, hq, fun x hx => (by cases hx), by simp⟩
  · obtain ⟨b1, b2, b3, b4, b5, _⟩ := more_fit hg c _ _ _ _ _ _ _ ht hq h
    exact ⟨b1, by omega, b3, fun x hx => (b4 x hx).resolve_left (by simp), by simpa using b5⟩
theorem tuple_fit {s : List UInt8} {g : Tk → Nat → Except (Int × Nat) (Vl × Tk × Nat)} {n : Nat} (hg : ∀ t q v t' q', AtTok s t → q ≤ 4096 → g t q = .ok (v, t', q') → Fit s n q v t' q') (t : Tk) (q : Nat) (l : List Vl) (t' : Tk) (q' : Nat) (ht : AtTok s t) (hq : q ≤ 4096) (h : tupleM s g t q = .ok (l, t', q')) : FitL s n q l t' q' := by
  unfold tupleM at h
  split at h
  · simp only [Except.ok.injEq, Prod.mk.injEq] at h
    obtain ⟨rfl, rfl, rfl⟩ := h
    exact ⟨ht.step, Nat.le_refl _, hq, fun x hx => (by cases hx), by simp⟩
  · cases e : g t q with
    | error x => rw [e] at h; cases h
    | ok r =>
    obtain ⟨v, t1, q1⟩ := r
    rw [e] at h
    simp only at h
    obtain ⟨a1, a2, a3, a4, a5, a6, a7⟩ := hg t q v t1 q1 ht hq e
    split at h
    · split at h
      · simp only [Except.ok.injEq, Prod.mk.injEq] at h
        obtain ⟨rfl, rfl, rfl⟩ := h
        refine ⟨a1.step.step, by omega, a3, fun x hx => ?_, by simp; omega⟩
        obtain rfl := List.mem_singleton.1 hx
        exact ⟨a4, a5, a6⟩
      · obtain ⟨b1, b2, b3, b4, b5, _⟩ := more_fit hg 41 _ _ _ _ _ _ _ a1.step a3 h
        refine ⟨b1, by omega, b3, fun x hx => ?_, by simp at b5; omega⟩
        rcases b4 x hx with hx | hx
        · obtain rfl := List.mem_singleton.1 hx
          exact ⟨a4, a5, a6⟩
        · exact hx
    · cases h
theorem rises_riseBV {l : List Vl} (h : Rises l) : riseB l = true := (riseB_iff l).2 fun j hj => List.pairwise_iff_getElem.1 h j (j + 1) (by omega) hj (by omega)
theorem form_row {k : Int} {l : List Vl} (hk : k = 5 ∨ k = 6 ∨ (k = 7 ∧ Rises l)) (h : ∀ x ∈ l, formV x = true) : formV ⟨k, 0, 0, ⟨#[]⟩, l⟩ = true := by
  have ha : l.all formV = true := List.all_eq_true.2 h
  have ht : (⟨#[]⟩ : ByteArray).toList = [] := by simp
  rw [formV_eq]
  rcases hk with rfl | rfl | ⟨rfl, hr⟩
  · simp [usedB, goodB, ha, ht]
  · simp [usedB, goodB, ha, ht]
  · simp [usedB, goodB, ha, ht, rises_riseBV hr]
theorem name_fit {t : Tk} {v : Vl} (ht : t.text.size ≤ 1048576) (h : nameM t = .ok v) : v.ok ∧ formV v = true ∧ v.items = [] := by
  have e0 : (⟨#[]⟩ : ByteArray).size ≤ 1048576 := by decide
  have ht0 : (⟨#[]⟩ : ByteArray).toList = [] := by simp
  unfold nameM at h
  split at h
  · obtain rfl := Except.ok.inj h
    exact ⟨ok_mk e0 (by decide) (by decide), by rw [formV_eq]; simp [usedB, goodB, ht0], rfl⟩
  · split at h
    · obtain rfl := Except.ok.inj h
      exact ⟨ok_mk e0 (by decide) (by decide), by rw [formV_eq]; simp [usedB, goodB, ht0], rfl⟩
    · split at h
      · rename_i hs
        obtain rfl := Except.ok.inj h
        exact ⟨ok_mk ht (by decide) (by decide), by rw [formV_eq]; simp [usedB, goodB, hs], rfl⟩
      · cases h
theorem gauss_fit {t : Tk} {v : Vl} (h : gaussM t = .ok v) : v.ok ∧ formV v = true ∧ v.items = [] := by
  have e0 : (⟨#[]⟩ : ByteArray).size ≤ 1048576 := by decide
  have ht0 : (⟨#[]⟩ : ByteArray).toList = [] := by simp
  have fin : ∀ a b : Int, gaussB a b = true → (⟨3, a, b, ⟨#[]⟩, []⟩ : Vl).ok ∧ formV ⟨3, a, b, ⟨#[]⟩, []⟩ = true := fun a b hb => by
    have hb' := hb
    simp only [gaussB, Bool.and_eq_true, decide_eq_true_eq] at hb'
    refine ⟨ok_mk e0 (by omega) (by omega), ?_⟩
    rw [formV_eq]
    simp [usedB, goodB, ht0]
    omega
  unfold gaussM at h
  simp only at h
  split at h
  · cases h
  split at h
  · cases h
  split at h
  · split at h
    · cases h
    split at h
    · rename_i hb
      obtain rfl := Except.ok.inj h
      exact ⟨(fin _ _ hb).1, (fin _ _ hb).2, rfl⟩
    · cases h
  · split at h
    · rename_i hb
      obtain rfl := Except.ok.inj h
      exact ⟨(fin _ _ hb).1, (fin _ _ hb).2, rfl⟩
    · cases h
theorem deep_leaf {n : Nat} {v : Vl} (h : v.items = []) : deepLe (n + 1) v := by
  intro x hx
  rw [h] at hx
  cases hx
theorem valM_fit (s : List UInt8) (hs : s.length ≤ 1048576) : ∀ (n : Nat) (t : Tk) (q : Nat) (v : Vl) (t' : Tk) (q' : Nat), AtTok s t → q ≤ 4096 → valM s n t q = .ok (v, t', q') → Fit s n q v t' q' := by
  intro n
  induction n with
  | zero =>
    intro t q v t' q' _ _ h
    simp only [valM] at h
    split at h <;> cases h
  | succ n ih =>
    intro t q v t' q' ht hq h
    have hx : t.text.size ≤ 1048576 := by have := ht.room; omega
    have e0 : (⟨#[]⟩ : ByteArray).size ≤ 1048576 := by decide
    simp only [valM] at h
    split at h
    rotate_left
    · cases h
    split at h
    · cases h
    rename_i hq1
    have row : ∀ (k : Int) (l : List Vl) (p : Tk × Nat), (k = 5 ∨ k = 6 ∨ (k = 7 ∧ Rises l)) → FitL s n (q + 1) l p.1 p.2 → Fit s (n + 1) q ⟨k, 0, 0, ⟨#[]⟩, l⟩ p.1 p.2 := fun k l p hk hf => by
      obtain ⟨f1, f2, f3, f4, f5⟩ := hf
      refine ⟨f1, by omega, f3, ok_mk e0 (by decide) (by decide), form_row hk fun x hx => (f4 x hx).2.1, fun x hx => (f4 x hx).2.2, ?_⟩
      rw [Vl.size_eq]
      simp only
      omega
    have leaf : ∀ v : Vl, (v.ok ∧ formV v = true ∧ v.items = []) → Fit s (n + 1) q v (stepM s t) (q + 1) := fun v hv => by
      refine ⟨ht.step, by omega, by omega, hv.1, hv.2.1, deep_leaf hv.2.2, ?_⟩
      rw [Vl.size_eq, hv.2.2]
      simp
      omega
    split at h
    · cases e : tupleM s (valM s n) (stepM s t) (q + 1) with
      | error x => rw [e] at h; cases h
      | ok r =>
      obtain ⟨l, p⟩ := r
      rw [e] at h
      simp only [Except.ok.injEq, Prod.mk.injEq] at h
      obtain ⟨rfl, rfl⟩ := h
      exact row 5 l (t', q') (.inl rfl) (tuple_fit ih _ _ _ _ _ ht.step (by omega) e)
    split at h
    · cases e : itemsM s (valM s n) 93 (stepM s t) (q + 1) with
      | error x => rw [e] at h; cases h
      | ok r =>
      obtain ⟨l, p⟩ := r
      rw [e] at h
      simp only [Except.ok.injEq, Prod.mk.injEq] at h
      obtain ⟨rfl, rfl⟩ := h
      exact row 6 l (t', q') (.inr (.inl rfl)) (items_fit ih _ _ _ _ _ _ ht.step (by omega) e)
    split at h
    · cases e : itemsM s (valM s n) 125 (stepM s t) (q + 1) with
      | error x => rw [e] at h; cases h
      | ok r =>
      obtain ⟨l, p⟩ := r
      rw [e] at h
      simp only [Except.ok.injEq, Prod.mk.injEq] at h
      obtain ⟨rfl, rfl⟩ := h
      obtain ⟨f1, f2, f3, f4, f5⟩ := items_fit ih _ _ _ _ _ _ ht.step (by omega) e
      exact row 7 (setV l) (t', q') (.inr (.inr ⟨rfl, setV_rises l⟩)) ⟨f1, f2, f3, fun x hx => f4 x ((setV_mem l x).1 hx), by have := setV_sum l; omega⟩
    split at h
    · cases e : nameM t with
      | error x => rw [e] at h; cases h
      | ok r =>
      rw [e] at h
      simp only [Except.ok.injEq, Prod.mk.injEq] at h
      obtain ⟨rfl, rfl, rfl⟩ := h
      exact leaf _ (name_fit hx e)
    split at h
    · cases e : gaussM t with
      | error x => rw [e] at h; cases h
      | ok r =>
      rw [e] at h
      simp only [Except.ok.injEq, Prod.mk.injEq] at h
      obtain ⟨rfl, rfl, rfl⟩ := h
      exact leaf _ (gauss_fit e)
    split at h
    · cases h
    simp only [Except.ok.injEq, Prod.mk.injEq] at h
    obtain ⟨rfl, rfl, rfl⟩ := h
    refine leaf _ ⟨ok_mk e0 (numV_range _) (by decide), ?_, rfl⟩
    have ht0 : (⟨#[]⟩ : ByteArray).toList = [] := by simp
    rw [formV_eq]
    simp [usedB, goodB, ht0]
/-- What Parse gives is right. -/
theorem parM_right {s : List UInt8} (hs : s.length ≤ 1048576) {v : Vl} (h : parM s = .ok v) : rightV v = true ∧ v.ok := by
  unfold parM at h
  cases e : valM s 16 (cutM s 0) 0 with
  | error x => rw [e] at h; cases h
  | ok r =>
  obtain ⟨v1, t1, q1⟩ := r
  rw [e] at h
  simp only at h
  split at h
  · obtain rfl := Except.ok.inj h
    obtain ⟨_, _, f3, f4, f5, f6, f7⟩ := valM_fit s hs 16 _ _ _ _ _ ⟨0, Nat.zero_le _, rfl⟩ (by omega) e
    exact ⟨(rw_is 16 v1 4096).1.2 ⟨by omega, f6, f5⟩, f4⟩
  · cases h
end Go.Proofs.YthmhcpghfbifiaaGreatDoor

/- Rows of digits, byte by byte; how long a Gaussian number's token is: plain mathematics. -/
namespace Go.Proofs.YthmhcpghfbifiaaGreatDoor

theorem raw_negV (r : Int) (h : r < 0) : raw r = 65533 := by unfold raw; rw [if_pos h]
theorem raw_posV (r : Int) (h : 0 ≤ r) : raw r = r := by unfold raw; rw [if_neg (by omega)]
theorem rowM_nil (p : Int → Bool) : rowM p [] = 0 := rfl
theorem rowM_step (p : Int → Bool) (l : List UInt8) (hl : l ≠ []) : rowM p l = if p (raw (rv l)) = true then wd l + rowM p (l.drop (wd l)) else 0 := by
  unfold rowM
  rw [ru_step l hl, rowR]
  cases p (raw (rv l)) <;> rfl
theorem rowM_ascii (p : Int → Bool) (b : UInt8) (t : List UInt8) (h : b.toNat < 128) : rowM p (b :: t) = if p b.toNat = true then 1 + rowM p t else 0 := by
  have e := rv_ascii b t h
  rw [rowM_step p (b :: t) (by simp), e.1, e.2, raw_posV _ (by omega), List.drop_one, List.tail_cons]
theorem mark_is {c : Nat} (h : isMark c = true) : c = 40 ∨ c = 41 ∨ c = 91 ∨ c = 93 ∨ c = 123 ∨ c = 125 ∨ c = 44 := by
  simp only [isMark, Bool.or_eq_true, beq_iff_eq] at h
  omega
def dgB (b : UInt8) : Bool := decide (48 ≤ b.toNat) && decide (b.toNat ≤ 57)
theorem row_dig : ∀ l : List UInt8, rowM digitP l = (l.takeWhile dgB).length
  | [] => rfl
  | b :: t => by
    by_cases hb : b.toNat < 128
    · rw [rowM_ascii digitP b t hb, row_dig t, List.takeWhile_cons]
      by_cases h : 48 ≤ b.toNat ∧ b.toNat ≤ 57
      · rw [if_pos (by simp [digitP]; omega), if_pos (by simp [dgB]; omega), List.length_cons]
        omega
      · rw [if_neg (by simp [digitP]; omega), if_neg (by simp [dgB]; omega)]
        rfl
    · have hd : digitP (raw (rv (b :: t))) = false := by
        rcases rv_high b t (by omega) with e | e
        · rw [e]; decide
        · rw [raw_posV _ (by omega)]
          simp only [digitP, Bool.and_eq_false_iff, decide_eq_false_iff_not]
          omega
      rw [rowM_step digitP _ (by simp), hd, if_neg (by decide), List.takeWhile_cons, if_neg (by simp [dgB]; omega)]
      rfl
theorem while_take (k : Nat) : ∀ l : List UInt8, ((l.take k).takeWhile dgB).length ≤ (l.takeWhile dgB).length := by
  induction k with
  | zero => intro l; simp
  | succ k ih =>
    intro l
    cases l with
    | nil => simp
    | cons b t =>
      rw [List.take_succ_cons, List.takeWhile_cons, List.takeWhile_cons]
      have := ih t
      split
      · simp only [List.length_cons]; omega
      · omega
theorem row_take (k : Nat) (l : List UInt8) : rowM digitP (l.take k) ≤ rowM digitP l := by
  rw [row_dig, row_dig]
  exact while_take k l
theorem pre_yes (R : List UInt8) : Lib.trimPrefix (45 :: R) [45] = R := by
  unfold Lib.trimPrefix Lib.hasPrefix
  simp [List.isPrefixOf]
theorem pre_not {c : UInt8} (R : List UInt8) (h : c ≠ 45) : Lib.trimPrefix (c :: R) [45] = c :: R := by
  unfold Lib.trimPrefix Lib.hasPrefix
  have : ¬ (45 : UInt8) = c := fun e => h e.symm
  simp [List.isPrefixOf, this]
theorem numSz_neg (R : List UInt8) : numSz (45 :: R) = if rowM digitP R = 0 then 0 else 1 + rowM digitP R := by
  unfold numSz
  rw [pre_yes]
  split
  · rfl
  · simp only [List.length_cons]; omega
theorem numSz_pos {c : UInt8} (R : List UInt8) (h : c ≠ 45) : numSz (c :: R) = rowM digitP (c :: R) := by
  unfold numSz
  rw [pre_not R h]
  split
  · omega
  · omega
theorem numSz_take (k : Nat) (l : List UInt8) : numSz (l.take k) ≤ numSz l := by
  cases k with
  | zero => rw [List.take_zero]; exact Nat.zero_le _
  | succ k =>
    cases l with
    | nil => exact Nat.le_refl _
    | cons c r =>
      rw [List.take_succ_cons]
      by_cases hc : c = 45
      · subst hc
        have := row_take k r
        rw [numSz_neg, numSz_neg]
        split
        · exact Nat.zero_le _
        · rw [if_neg (by omega)]; omega
      · have := row_take (k + 1) (c :: r)
        rw [List.take_succ_cons] at this
        rw [numSz_pos _ hc, numSz_pos _ hc]
        exact this
theorem imSz_ge {l : List UInt8} (h : 0 < imSz l) : 3 ≤ imSz l := by
  cases l with
  | nil => simp [imSz] at h
  | cons c r =>
    simp only [imSz] at h ⊢
    split at h
    · omega
    · rename_i h1
      rw [if_neg h1]
      split at h
      · omega
      · rename_i h2
        rw [if_neg h2]
        split at h
        · omega
        · rename_i h3
          rw [if_neg h3]
          omega
/-- A Gaussian number's token holds its first number, a sign, and one byte more. -/
theorem gauss_room {s : List UInt8} {t : Tk} (ht : AtTok s t) (hk : t.kind = 105) : numSz t.text.data.toList + 2 ≤ t.text.data.toList.length := by
  obtain ⟨o, _, rfl⟩ := ht
  unfold cutM at *
  generalize o + rowM blankP (s.drop o) = o' at *
  generalize s.drop o' = L at *
  cases L with
  | nil => simp only [tokM] at hk; exact absurd hk (by simp)
  | cons c r =>
    simp only [tokM] at hk ⊢
    split at hk
    · rename_i hm
      have := mark_is hm
      simp only at hk
      omega
    rename_i hm
    rw [if_neg hm]
    split at hk
    · exact absurd hk (by simp)
    rename_i h1
    rw [if_neg h1]
    split at hk
    · exact absurd hk (by simp)
    rename_i h2
    rw [if_neg h2]
    split at hk
    rotate_left
    · exact absurd hk (by simp)
    rename_i h3
    rw [if_pos h3]
    have a1 := numSz_le (c :: r)
    have a2 := imSz_le ((c :: r).drop (numSz (c :: r)))
    have a3 := imSz_ge h3
    have a4 := numSz_take (numSz (c :: r) + imSz ((c :: r).drop (numSz (c :: r)))) (c :: r)
    rw [List.length_drop] at a2
    simp only [bytes_str]
    rw [List.length_take]
    omega
end Go.Proofs.YthmhcpghfbifiaaGreatDoor
