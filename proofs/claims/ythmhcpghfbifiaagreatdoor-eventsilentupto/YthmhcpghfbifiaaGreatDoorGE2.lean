/- Check, Int, Bool, Gauss, Symbol, Encode, Print; like values. -/
import Derived.Test.YthmhcpghfbifiaaGreatDoorGE1
import Derived.Test.YthmhcpghfbifiaaGreatDoorZVCopied
import Derived.Test.YthmhcpghfbifiaaGreatDoorGHBase
namespace Go.Proofs.YthmhcpghfbifiaaGreatDoor
open Go.RowKit

set_option maxRecDepth 100000 in
theorem alikeV_k (n : Nat) (a b : Vl) (w : World) (B m : Nat) (sa sb : Value) (hB : B ≤ w.heap.size) (ha : ItemsAt w B n sa a.items) (hb : ItemsAt w B m sb b.items) :
    Calls Tryz.prog 148 #[.agg (vcells a sa), .agg (vcells b sb)] w fun e w' => e = .returned (.bool (ordV a b == 0)) ∧ Gw w w' := by
  obtain ⟨W, hW⟩ : ∃ W, (w.alloc (.cells (vcells a sa) 46)).alloc (.cells (vcells b sb) 46) = W := ⟨_, rfl⟩
  have gW : Gw w W := by rw [← hW]; exact ((Gw.refl w).alloc _).alloc _
  have bW := gW.below
  have e1 : W.heap[w.heap.size]? = some (.cells (vcells a sa) 46 (0, 0)) := by rw [← hW]; exact (Below.heap_alloc _ _ _ (by simp)).trans (World.alloc_heap_new w _)
  have e2 : W.heap[w.heap.size + 1]? = some (.cells (vcells b sb) 46 (0, 0)) := by rw [← hW]; have := World.alloc_heap_new (w.alloc (.cells (vcells a sa) 46)) (.cells (vcells b sb) 46); rwa [World.size_alloc] at this
  have x0 := cells_at e1 0 _ rfl
  have x1 := cells_at e1 1 _ rfl
  have x2 := cells_at e1 2 _ rfl
  have x3 := cells_at e1 3 _ rfl
  have x4 := cells_at e1 4 _ rfl
  have y0 := cells_at e2 0 _ rfl
  have y1 := cells_at e2 1 _ rfl
  have y2 := cells_at e2 2 _ rfl
  have y3 := cells_at e2 3 _ rfl
  have y4 := cells_at e2 4 _ rfl
  have H := hide (orderG_k n a b W B m sa sb (by have := bW.size; omega) (ha.below (bW.mono hB)) (hb.below (bW.mono hB)))
  obtain ⟨a1, c1, rfl, _⟩ := ha.len
  obtain ⟨a2, c2, rfl, _⟩ := hb.len
  clear ha hb e1 e2
  generalize ordV a b = x at *
  go_enter Tryz.func148, Tryz.ntmps148
  go_wp2_with (go_at_call 69; refine H.out.mono ?_; clear H; rintro e w2 ⟨rfl, g2⟩)
  go_ret
  exact ⟨rfl, gW.trans g2⟩
set_option maxRecDepth 100000 in
theorem check_k (v : Vl) (w : World) (n : Nat) (sl : Value) (hT : Tabs w) (htx : v.text.size ≤ 1048576) (hs : ItemsAt w w.heap.size n sl v.items) :
    Calls Tryz.prog 48 #[.agg (vcells v sl)] w fun e w' => e = .returned (.int .i64 (bif rightV v then 0 else 40)) ∧ Below w.heap.size w w' := by
  obtain ⟨W, hW⟩ : ∃ W, w.alloc (.cells (vcells v sl) 46) = W := ⟨_, rfl⟩
  have bW : Below w.heap.size w W := by rw [← hW]; exact alloc_v (Below.refl _ _) _
  have e1 : W.heap[w.heap.size]? = some (.cells (vcells v sl) 46 (0, 0)) := by rw [← hW]; exact World.alloc_heap_new w _
  have x0 := cells_at e1 0 _ rfl
  have x1 := cells_at e1 1 _ rfl
  have x2 := cells_at e1 2 _ rfl
  have x3 := cells_at e1 3 _ rfl
  have x4 := cells_at e1 4 _ rfl
  have HR := hide (right_k v W n sl (hT.below bW) htx ((hs.below bW).up bW.size))
  obtain ⟨a, c, rfl, _⟩ := hs.len
  clear hs hT e1
  generalize rightV v = x at *
  cases x
  all_goals
    go_enter Tryz.func48, Tryz.ntmps48
    go_wp2_with (go_at_call 26; refine HR.out.mono ?_; clear HR; rintro e w2 ⟨rfl, b2⟩)
    go_ret
    exact ⟨rfl, trans_v bW b2⟩
theorem results_struct_tmp {P : Program} {fn : Func} {p u : Tmp} {ty : TypeId} (h : fn.results = #[.cell p ty, .tmp u]) (tmps : Array Value) (w : World) (g : Nat) (t : TypeId) (cs : Array Value) (fr : Nat × Nat) (d : TypeDesc)
    (hp : tmps.getD p undef = .pointer (some ⟨g, 0, none⟩)) (hg : w.heap[g]? = some (.cells cs t fr))
    (hu : P.underlying ty = some d) (hd : (match d with | .struct _ | .array _ _ => true | _ => false) = true) (hi : (P.info? ty).map (·.size) = some cs.size) :
    (results fn tmps).run P w = .ok (.tuple #[.agg cs, tmps.getD u undef]) w := by
  rw [results_cell_tmp h, hp]
  simp [asAddr, run_loadVar_row w g t ty cs fr d hg hu hd hi]
theorem int_k (i : Int) (w : World) : Calls Tryz.prog 124 #[.int .i64 i] w fun e w' => e = .returned (.agg (vcells ⟨2, i, 0, ⟨#[]⟩, []⟩ (.slice none 0 0))) ∧ Below w.heap.size w w' := by
  obtain ⟨W, hW⟩ : ∃ W, w.alloc (.cells zcells 46) = W := ⟨_, rfl⟩
  have bW : Below w.heap.size w W := by rw [← hW]; exact alloc_v (Below.refl _ _) _
  have e1 : W.heap[w.heap.size]? = some (.cells zcells 46 (0, 0)) := by rw [← hW]; exact World.alloc_heap_new w _
  have x0 := cells_at e1 0 _ rfl
  have x1 := cells_at e1 1 _ rfl
  have x2 := cells_at e1 2 _ rfl
  have x3 := cells_at e1 3 _ rfl
  have x4 := cells_at e1 4 _ rfl
  have q0 := frozen_at e1 0
  have q1 := frozen_at e1 1
  have q2 := frozen_at e1 2
  have q3 := frozen_at e1 3
  have q4 := frozen_at e1 4
  have E := hide e1
  clear e1
  go_enter Tryz.func124, Tryz.ntmps124
  go_wp2
  have g := stored w W 2 i 0 ⟨#[]⟩ (.slice none 0 0) zcells w.heap.size (Nat.le_refl _) bW rfl E.out
  refine bodyPost_ret (results_cell_row rfl _ _ w.heap.size _ _ _ _ rfl g.1 Tryz.underlying46 rfl infoVal5) rfl ?_
  exact ⟨rfl, g.2⟩
theorem bool_k (b : Bool) (w : World) : Calls Tryz.prog 149 #[.bool b] w fun e w' => e = .returned (.agg (vcells ⟨1, bif b then 1 else 0, 0, ⟨#[]⟩, []⟩ (.slice none 0 0))) ∧ Below w.heap.size w w' := by
  obtain ⟨W, hW⟩ : ∃ W, w.alloc (.cells zcells 46) = W := ⟨_, rfl⟩
  have bW : Below w.heap.size w W := by rw [← hW]; exact alloc_v (Below.refl _ _) _
  have e1 : W.heap[w.heap.size]? = some (.cells zcells 46 (0, 0)) := by rw [← hW]; exact World.alloc_heap_new w _
  have x0 := cells_at e1 0 _ rfl
  have x1 := cells_at e1 1 _ rfl
  have x2 := cells_at e1 2 _ rfl
  have x3 := cells_at e1 3 _ rfl
  have x4 := cells_at e1 4 _ rfl
  have q0 := frozen_at e1 0
  have q1 := frozen_at e1 1
  have q2 := frozen_at e1 2
  have q3 := frozen_at e1 3
  have q4 := frozen_at e1 4
  have E := hide e1
  clear e1
  cases b
  · go_enter Tryz.func149, Tryz.ntmps149
    go_wp2
    have g := stored w W 1 0 0 ⟨#[]⟩ (.slice none 0 0) zcells w.heap.size (Nat.le_refl _) bW rfl E.out
    refine bodyPost_ret (results_cell_row rfl _ _ w.heap.size _ _ _ _ rfl g.1 Tryz.underlying46 rfl infoVal5) rfl ?_
    exact ⟨rfl, g.2⟩
  · go_enter Tryz.func149, Tryz.ntmps149
    go_wp2
    have g := stored w W 1 1 0 ⟨#[]⟩ (.slice none 0 0) zcells w.heap.size (Nat.le_refl _) bW rfl E.out
    refine bodyPost_ret (results_cell_row rfl _ _ w.heap.size _ _ _ _ rfl g.1 Tryz.underlying46 rfl infoVal5) rfl ?_
    exact ⟨rfl, g.2⟩
/-- Both parts of a Gaussian integer are within their range. -/
def gaussB (i m : Int) : Bool := (decide (-1048576 ≤ i) && decide (i ≤ 1048576)) && (decide (-1048576 ≤ m) && decide (m ≤ 1048576))
theorem gauss_k (i m : Int) (w : World) : Calls Tryz.prog 151 #[.int .i64 i, .int .i64 m] w fun e w' => e = .returned (.tuple #[.agg (bif gaussB i m then vcells ⟨3, i, m, ⟨#[]⟩, []⟩ (.slice none 0 0) else zcells), .int .i64 (bif gaussB i m then 0 else 42)]) ∧ Below w.heap.size w w' := by
  obtain ⟨W, hW⟩ : ∃ W, w.alloc (.cells zcells 46) = W := ⟨_, rfl⟩
  have bW : Below w.heap.size w W := by rw [← hW]; exact alloc_v (Below.refl _ _) _
  have e1 : W.heap[w.heap.size]? = some (.cells zcells 46 (0, 0)) := by rw [← hW]; exact World.alloc_heap_new w _
  have x0 := cells_at e1 0 _ rfl
  have x1 := cells_at e1 1 _ rfl
  have x2 := cells_at e1 2 _ rfl
  have x3 := cells_at e1 3 _ rfl
  have x4 := cells_at e1 4 _ rfl
  have q0 := frozen_at e1 0
  have q1 := frozen_at e1 1
  have q2 := frozen_at e1 2
  have q3 := frozen_at e1 3
  have q4 := frozen_at e1 4
  have E := hide e1
  have H1 := hide (inRange_k i W)
  have H2 := hide (inRange_k m W)
  clear e1
  unfold gaussB
  generalize (decide (-1048576 ≤ i) && decide (i ≤ 1048576)) = u1 at *
  generalize (decide (-1048576 ≤ m) && decide (m ≤ 1048576)) = u2 at *
  cases u1
  · go_enter Tryz.func151, Tryz.ntmps151
    go_wp2_with (go_at_call 99; refine H1.out.mono ?_; clear H1; rintro e w2 ⟨rfl, rfl⟩)
    have g := stored w W 0 0 0 ⟨#[]⟩ (.slice none 0 0) zcells w.heap.size (Nat.le_refl _) bW rfl E.out
    refine bodyPost_ret (results_struct_tmp rfl _ _ w.heap.size _ _ _ _ rfl g.1 Tryz.underlying46 rfl infoVal5) rfl ?_
    exact ⟨rfl, g.2⟩
  · cases u2
    · go_enter Tryz.func151, Tryz.ntmps151
      go_wp2_with (first
        | (go_at_call 99; with_reducible refine H1.out.mono ?_; clear H1; rintro e w2 ⟨rfl, rfl⟩)
        | (go_at_call 99; with_reducible refine H2.out.mono ?_; clear H2; rintro e w2 ⟨rfl, rfl⟩))
      have g := stored w W 0 0 0 ⟨#[]⟩ (.slice none 0 0) zcells w.heap.size (Nat.le_refl _) bW rfl E.out
      refine bodyPost_ret (results_struct_tmp rfl _ _ w.heap.size _ _ _ _ rfl g.1 Tryz.underlying46 rfl infoVal5) rfl ?_
      exact ⟨rfl, g.2⟩
    · go_enter Tryz.func151, Tryz.ntmps151
      go_wp2_with (first
        | (go_at_call 99; with_reducible refine H1.out.mono ?_; clear H1; rintro e w2 ⟨rfl, rfl⟩)
        | (go_at_call 99; with_reducible refine H2.out.mono ?_; clear H2; rintro e w2 ⟨rfl, rfl⟩))
      have g := stored w W 3 i m ⟨#[]⟩ (.slice none 0 0) zcells w.heap.size (Nat.le_refl _) bW rfl E.out
      refine bodyPost_ret (results_struct_tmp rfl _ _ w.heap.size _ _ _ _ rfl g.1 Tryz.underlying46 rfl infoVal5) rfl ?_
      exact ⟨rfl, g.2⟩
set_option maxRecDepth 100000 in
theorem symbol_k (t : ByteArray) (ht : t.size ≤ 281474976702464) (w : World) (hT : Tabs w) :
    Calls Tryz.prog 150 #[.string t] w fun e w' => e = .returned (.tuple #[.agg (bif symB t then vcells ⟨4, 0, 0, t, []⟩ (.slice none 0 0) else zcells), .int .i64 (bif symB t then 0 else 40)]) ∧ Below w.heap.size w w' := by
  obtain ⟨W, hW⟩ : ∃ W, w.alloc (.cells zcells 46) = W := ⟨_, rfl⟩
  have bW : Below w.heap.size w W := by rw [← hW]; exact alloc_v (Below.refl _ _) _
  have e1 : W.heap[w.heap.size]? = some (.cells zcells 46 (0, 0)) := by rw [← hW]; exact World.alloc_heap_new w _
  have x0 := cells_at e1 0 _ rfl
  have x1 := cells_at e1 1 _ rfl
  have x2 := cells_at e1 2 _ rfl
  have x3 := cells_at e1 3 _ rfl
  have x4 := cells_at e1 4 _ rfl
  have q0 := frozen_at e1 0
  have q1 := frozen_at e1 1
  have q2 := frozen_at e1 2
  have q3 := frozen_at e1 3
  have q4 := frozen_at e1 4
  have E := hide e1
  have H := hide (symbolText_k t ht W (hT.below bW))
  have zW : w.heap.size < W.heap.size := (Array.getElem?_eq_some_iff.1 e1).1
  clear e1 hT ht
  generalize symB t = u at *
  cases u
  · go_enter Tryz.func150, Tryz.ntmps150
    go_wp2_with (go_at_call 98; refine H.out.mono ?_; clear H; rintro e w2 ⟨rfl, b2⟩; have e2 := (b2.block _ zW).trans E.out; have E2 := hide e2; have y0 := cells_at e2 0 _ rfl; have y1 := cells_at e2 1 _ rfl; have y2 := cells_at e2 2 _ rfl; have y3 := cells_at e2 3 _ rfl; have y4 := cells_at e2 4 _ rfl; have p0 := frozen_at e2 0; have p1 := frozen_at e2 1; have p2 := frozen_at e2 2; have p3 := frozen_at e2 3; have p4 := frozen_at e2 4; clear e2)
    have g := stored w w2 0 0 0 ⟨#[]⟩ (.slice none 0 0) zcells w.heap.size (Nat.le_refl _) (trans_v bW b2) rfl E2.out
    refine bodyPost_ret (results_struct_tmp rfl _ _ w.heap.size _ _ _ _ rfl g.1 Tryz.underlying46 rfl infoVal5) rfl ?_
    exact ⟨rfl, g.2⟩
  · go_enter Tryz.func150, Tryz.ntmps150
    go_wp2_with (go_at_call 98; refine H.out.mono ?_; clear H; rintro e w2 ⟨rfl, b2⟩; have e2 := (b2.block _ zW).trans E.out; have E2 := hide e2; have y0 := cells_at e2 0 _ rfl; have y1 := cells_at e2 1 _ rfl; have y2 := cells_at e2 2 _ rfl; have y3 := cells_at e2 3 _ rfl; have y4 := cells_at e2 4 _ rfl; have p0 := frozen_at e2 0; have p1 := frozen_at e2 1; have p2 := frozen_at e2 2; have p3 := frozen_at e2 3; have p4 := frozen_at e2 4; clear e2)
    have g := stored w w2 4 0 0 t (.slice none 0 0) zcells w.heap.size (Nat.le_refl _) (trans_v bW b2) rfl E2.out
    refine bodyPost_ret (results_struct_tmp rfl _ _ w.heap.size _ _ _ _ rfl g.1 Tryz.underlying46 rfl infoVal5) rfl ?_
    exact ⟨rfl, g.2⟩
theorem form_right {v : Vl} (h : rightV v = true) : formV v = true := by
  have := right_doc v
  rw [h, Bool.and_eq_true] at this
  exact this.2
theorem rowNil (w : World) : RowB w w.heap.size none w (.slice none 0 0) [] := RowB.start (v := .slice none 0 0) (bs := []) (World.ownsRow_nil _ _ _ _)
set_option maxRecDepth 100000 in
theorem encode_k (v : Vl) (w : World) (n : Nat) (sl : Value) (hT : Tabs w) (hok : v.ok) (hz : v.size ≤ 1000000000) (hl : (encV v).length ≤ 1000000000000) (hs : ItemsAt w w.heap.size n sl v.items) :
    Calls Tryz.prog 33 #[.agg (vcells v sl)] w fun e w' => ∃ bv, e = .returned (.tuple #[bv, .int .i64 (bif rightV v then 0 else 40)]) ∧ RowB w w.heap.size none w' bv (bif rightV v then encV v else []) := by
  obtain ⟨W, hW⟩ : ∃ W, w.alloc (.cells (vcells v sl) 46) = W := ⟨_, rfl⟩
  have bW : Below w.heap.size w W := by rw [← hW]; exact alloc_v (Below.refl _ _) _
  have e1 : W.heap[w.heap.size]? = some (.cells (vcells v sl) 46 (0, 0)) := by rw [← hW]; exact World.alloc_heap_new w _
  have x0 := cells_at e1 0 _ rfl
  have x1 := cells_at e1 1 _ rfl
  have x2 := cells_at e1 2 _ rfl
  have x3 := cells_at e1 3 _ rfl
  have x4 := cells_at e1 4 _ rfl
  have zW : w.heap.size < W.heap.size := (Array.getElem?_eq_some_iff.1 e1).1
  have HR := hide (right_k v W n sl (hT.below bW) hok.1 ((hs.below bW).up bW.size))
  have HE := hide (fun (h : rightV v = true) (U : World) (b : Below W.heap.size W U) => enc_k n v U w.heap.size w.heap.size sl (.slice none 0 0) [] (form_right h) hok hz (Nat.le_refl _) (trans_v bW b).size (hs.below (trans_v bW b)) (World.ownsRow_nil _ _ _ _) (by simpa using hl))
  obtain ⟨a, c, rfl, _⟩ := hs.len
  clear hs e1 hT
  cases hx : rightV v
  · rw [hx] at HR
    go_enter Tryz.func33, Tryz.ntmps33
    go_wp2_with (go_at_call 26; refine HR.out.mono ?_; clear HR; rintro e w2 ⟨rfl, b2⟩)
    go_ret2
    exact ⟨_, rfl, RowB.below (rowNil w) (trans_v bW b2)⟩
  · rw [hx] at HR
    have HE := hide (HE.out hx)
    clear hx
    go_enter Tryz.func33, Tryz.ntmps33
    go_wp2_with (first
      | (go_at_call 26; refine HR.out.mono ?_; clear HR; rintro e w2 ⟨rfl, b2⟩; have hc := (bcellV b2).1)
      | (go_at_call 57; refine (HE.out _ b2).mono ?_; clear HE; rintro e w3 ⟨bv, rfl, r3⟩))
    go_ret2
    exact ⟨_, rfl, RowB.more (RowB.below (rowNil w) (trans_v bW b2)) r3⟩
set_option maxRecDepth 100000 in
theorem print_k (v : Vl) (w : World) (n : Nat) (sl : Value) (hT : Tabs w) (hok : v.ok) (hz : v.size ≤ 1000000000) (hl : (prV v).length ≤ 1000000000000) (hs : ItemsAt w w.heap.size n sl v.items) :
    Calls Tryz.prog 12 #[.agg (vcells v sl)] w fun e w' => e = .returned (.tuple #[.string (bif rightV v then str (prV v) else ⟨#[]⟩), .int .i64 (bif rightV v then 0 else 40)]) ∧ Below w.heap.size w w' := by
  obtain ⟨W, hW⟩ : ∃ W, w.alloc (.cells (vcells v sl) 46) = W := ⟨_, rfl⟩
  have bW : Below w.heap.size w W := by rw [← hW]; exact alloc_v (Below.refl _ _) _
  have e1 : W.heap[w.heap.size]? = some (.cells (vcells v sl) 46 (0, 0)) := by rw [← hW]; exact World.alloc_heap_new w _
  have x0 := cells_at e1 0 _ rfl
  have x1 := cells_at e1 1 _ rfl
  have x2 := cells_at e1 2 _ rfl
  have x3 := cells_at e1 3 _ rfl
  have x4 := cells_at e1 4 _ rfl
  have zW : w.heap.size < W.heap.size := (Array.getElem?_eq_some_iff.1 e1).1
  have HR := hide (right_k v W n sl (hT.below bW) hok.1 ((hs.below bW).up bW.size))
  have HE := hide (fun (h : rightV v = true) (U : World) (b : Below W.heap.size W U) => written_k n v U w.heap.size sl (form_right h) hok hz hl ((hT.below bW).below b) (trans_v bW b).size (hs.below (trans_v bW b)))
  obtain ⟨a, c, rfl, _⟩ := hs.len
  clear hs e1 hT
  cases hx : rightV v
  · rw [hx] at HR
    go_enter Tryz.func12, Tryz.ntmps12
    go_wp2_with (go_at_call 26; refine HR.out.mono ?_; clear HR; rintro e w2 ⟨rfl, b2⟩)
    go_ret2
    exact ⟨rfl, trans_v bW b2⟩
  · rw [hx] at HR
    have HE := hide (HE.out hx)
    clear hx
    go_enter Tryz.func12, Tryz.ntmps12
    go_wp2_with (first
      | (go_at_call 26; refine HR.out.mono ?_; clear HR; rintro e w2 ⟨rfl, b2⟩; have hc := (bcellV b2).1)
      | (go_at_call 27; refine (HE.out _ b2).mono ?_; clear HE; rintro e w3 ⟨rfl, b3⟩))
    go_ret2
    exact ⟨rfl, trans_v (trans_v bW b2) b3⟩
end Go.Proofs.YthmhcpghfbifiaaGreatDoor

/- Names of events; framed: an event is right but for its value. -/
namespace Go.Proofs.YthmhcpghfbifiaaGreatDoor
open Go.RowKit

/-- Names that are no longer than a text may be. -/
structure EvLo (e : Evn) : Prop where
  proc : e.proc.length ≤ 1000000000000
  obj : e.obj.length ≤ 1000000000000
  op : e.op.length ≤ 1000000000000
  val : e.val.ok
theorem EvOk.lo {e : Evn} (h : EvOk e) : EvLo e := by
  have h1 := h.proc
  have h2 := h.obj
  have h3 := h.op
  exact ⟨by omega, by omega, by omega, h.val⟩
theorem anyName6_k (t : List UInt8) (ht : t.length ≤ 1000000000000) (w : World) (hT : Tabs w) :
    Calls Tryz.prog 29 #[.string (bsN t)] w fun e w' => e = .returned (.bool (anyB t)) ∧ Below w.heap.size w w' := by
  have HN := hide (name_k (bsN t) (by rw [bsN_size]; omega) w hT)
  unfold anyB
  rw [bsN_list] at HN
  generalize nameE t = x at *
  go_enter Tryz.func29, Tryz.ntmps29
  go_wp2_with (go_at_call 54; refine HN.out.mono ?_; clear HN; rintro e w1 ⟨rfl, b1⟩)
  go_ret
  exact ⟨rfl, b1⟩
set_option maxRecDepth 100000 in
theorem plainName6_k (t : List UInt8) (ht : t.length ≤ 1000000000000) (w : World) (hT : Tabs w) :
    Calls Tryz.prog 28 #[.string (bsN t)] w fun e w' => e = .returned (.bool (symB (bsN t))) ∧ Below w.heap.size w w' := by
  have HN := hide (anyName6_k t ht w hT)
  have hs : symB (bsN t) = (!(t == [116, 114, 117, 101]) && !(t == [102, 97, 108, 115, 101]) && anyB t) := by
    unfold symB anyB
    rw [bsN_toList]
  rw [hs]
  generalize anyB t = x at *
  cases x
  · go_enter Tryz.func28, Tryz.ntmps28
    go_wp2_with (go_at_call 29; refine HN.out.mono ?_; clear HN; rintro e w1 ⟨rfl, b1⟩)
    go_ret
    exact ⟨by simp, b1⟩
  · by_cases h1 : t = [116, 114, 117, 101]
    · subst h1
      go_enter Tryz.func28, Tryz.ntmps28
      go_wp2_with (go_at_call 29; refine HN.out.mono ?_; clear HN; rintro e w1 ⟨rfl, b1⟩)
      go_ret
      exact ⟨rfl, b1⟩
    · go_enter Tryz.func28, Tryz.ntmps28
      go_wp2_with (go_at_call 29; refine HN.out.mono ?_; clear HN; rintro e w1 ⟨rfl, b1⟩)
      go_ret
      exact ⟨by simp, b1⟩
/-- An event is right but for its value. -/
def framedB (e : Evn) : Bool := if e.kind = 1 then symB (bsN e.proc) && anyB e.obj && symB (bsN e.op) else if e.kind = 2 then symB (bsN e.proc) && e.obj.isEmpty && e.op.isEmpty else false
theorem right_framed (e : Evn) : rightE e = (framedB e && rightV e.val) := by
  unfold rightE framedB
  split
  · rfl
  · split
    · rfl
    · rfl
set_option maxRecDepth 100000 in
set_option maxHeartbeats 2000000 in
theorem framed_k (e : Evn) (w : World) (a : Option Addr) (m c : Nat) (he : EvLo e) (hT : Tabs w) :
    Calls Tryz.prog 13 #[.agg (evCells e (.slice a m c))] w fun r w' => r = .returned (.bool (framedB e)) ∧ Below w.heap.size w w' := by
  obtain ⟨W, hW⟩ : ∃ W, w.alloc (.cells (evCells e (.slice a m c)) 48) = W := ⟨_, rfl⟩
  have bW : Below w.heap.size w W := by rw [← hW]; exact alloc_v (Below.refl _ _) _
  have e1 : W.heap[w.heap.size]? = some (.cells (evCells e (.slice a m c)) 48 (0, 0)) := by rw [← hW]; exact World.alloc_heap_new w _
  have zW : w.heap.size < W.heap.size := (Array.getElem?_eq_some_iff.1 e1).1
  have c0 := cells_at e1 0 _ rfl
  have c1 := cells_at e1 1 _ rfl
  have HE := hide (fun (U : World) (b : Below W.heap.size W U) => (b.block _ zW).trans e1)
  have HP := hide (fun (t : List UInt8) (ht : t.length ≤ 1000000000000) (U : World) (b : Below W.heap.size W U) => plainName6_k t ht U (hT.below (trans_v bW b)))
  have HA := hide (fun (t : List UInt8) (ht : t.length ≤ 1000000000000) (U : World) (b : Below W.heap.size W U) => anyName6_k t ht U (hT.below (trans_v bW b)))
  have BB := hide (Below.refl W.heap.size W)
  have h1 := he.proc
  have h2 := he.obj
  have h3 := he.op
  clear hT e1 he
  have HP1 := hide (HP.out e.proc h1)
  have HP3 := hide (HP.out e.op h3)
  have HA2 := hide (HA.out e.obj h2)
  by_cases k1 : e.kind = 1
  · have hr : framedB e = (symB (bsN e.proc) && anyB e.obj && symB (bsN e.op)) := by unfold framedB; rw [if_pos k1]
    have hk : (e.kind == 1) = true := by simp [k1]
    rw [hr]
    clear k1 hr HP HA
    generalize symB (bsN e.proc) = x1 at *
    generalize anyB e.obj = x2 at *
    generalize symB (bsN e.op) = x3 at *
    cases x1
    · go_enter Tryz.func13, Tryz.ntmps13
      go_wp2_with (go_at_call 28; refine (HP1.out _ BB.out).mono ?_; clear HP1; rintro e w1 ⟨rfl, b1⟩)
      go_ret
      exact ⟨by simp, trans_v bW b1⟩
    cases x2
    · go_enter Tryz.func13, Tryz.ntmps13
      go_wp2_with (first
        | (go_at_call 28; refine (HP1.out _ BB.out).mono ?_; clear HP1; rintro e w1 ⟨rfl, b1⟩; have f1 := HE.out w1 b1; have d2 := cells_at f1 2 _ rfl)
        | (go_at_call 29; refine (HA2.out _ b1).mono ?_; clear HA2; rintro e w2 ⟨rfl, b2⟩))
      go_ret
      exact ⟨by simp, trans_v bW (trans_v b1 b2)⟩
    · go_enter Tryz.func13, Tryz.ntmps13
      go_wp2_with (first
        | (go_at_call 29; refine (HA2.out _ b1).mono ?_; clear HA2; rintro e w2 ⟨rfl, b2⟩; have b3 := trans_v b1 b2; have f2 := HE.out w2 b3; have d3 := cells_at f2 3 _ rfl)
        | (go_at_call 28; with_reducible refine (HP1.out _ BB.out).mono ?_; clear HP1; rintro e w1 ⟨rfl, b1⟩; have f1 := HE.out w1 b1; have d2 := cells_at f1 2 _ rfl)
        | (go_at_call 28; with_reducible refine (HP3.out _ b3).mono ?_; clear HP3; rintro e w4 ⟨rfl, b4⟩))
      go_ret
      exact ⟨by cases x3 <;> simp, trans_v bW (trans_v b3 b4)⟩
  by_cases k2 : e.kind = 2
  · have hr : framedB e = (symB (bsN e.proc) && e.obj.isEmpty && e.op.isEmpty) := by unfold framedB; rw [if_neg k1, if_pos k2]
    have hk : (e.kind == 1) = false := by simp [k1]
    have hk2 : (e.kind == 2) = true := by simp [k2]
    rw [hr]
    clear k1 k2 hr HP HA HA2 HP3
    generalize symB (bsN e.proc) = x1 at *
    cases x1
    · go_enter Tryz.func13, Tryz.ntmps13
      go_wp2_with (go_at_call 28; refine (HP1.out _ BB.out).mono ?_; clear HP1; rintro e w1 ⟨rfl, b1⟩)
      go_ret
      exact ⟨by simp, trans_v bW b1⟩
    by_cases y2 : e.obj = []
    rotate_left
    · have y3 : (e.obj == []) = false := by simp [y2]
      go_enter Tryz.func13, Tryz.ntmps13
      go_wp2_with (go_at_call 28; refine (HP1.out _ BB.out).mono ?_; clear HP1; rintro e w1 ⟨rfl, b1⟩; have f1 := HE.out w1 b1; have d2 := cells_at f1 2 _ rfl)
      go_ret
      exact ⟨by cases h : e.obj <;> simp_all, trans_v bW b1⟩
    have y3 : (e.obj == []) = true := by simp [y2]
    have y4 : e.obj.isEmpty = true := by simp [y2]
    by_cases z2 : e.op = []
    rotate_left
    · have z3 : (e.op == []) = false := by simp [z2]
      have Y2 := hide y2
      clear y2
      go_enter Tryz.func13, Tryz.ntmps13
      go_wp2_with (go_at_call 28; refine (HP1.out _ BB.out).mono ?_; clear HP1; rintro e w1 ⟨rfl, b1⟩; have f1 := HE.out w1 b1; have d2 := cells_at f1 2 _ rfl; have d3 := cells_at f1 3 _ rfl)
      go_ret
      exact ⟨by cases h : e.op <;> simp_all, trans_v bW b1⟩
    have z3 : (e.op == []) = true := by simp [z2]
    have z4 : e.op.isEmpty = true := by simp [z2]
    have Y2 := hide (And.intro y2 z2)
    clear y2 z2
    rw [y4, z4]
    clear y4 z4
    go_enter Tryz.func13, Tryz.ntmps13
    go_wp2_with (go_at_call 28; refine (HP1.out _ BB.out).mono ?_; clear HP1; rintro e w1 ⟨rfl, b1⟩; have f1 := HE.out w1 b1; have d2 := cells_at f1 2 _ rfl; have d3 := cells_at f1 3 _ rfl)
    go_ret
    exact ⟨rfl, trans_v bW b1⟩
  · have hr : framedB e = false := by unfold framedB; rw [if_neg k1, if_neg k2]
    have hk : (e.kind == 1) = false := by simp [k1]
    have hk2 : (e.kind == 2) = false := by simp [k2]
    rw [hr]
    clear k1 k2 hr
    go_enter Tryz.func13, Tryz.ntmps13
    go_wp2
    go_ret
    exact ⟨rfl, bW⟩
end Go.Proofs.YthmhcpghfbifiaaGreatDoor
