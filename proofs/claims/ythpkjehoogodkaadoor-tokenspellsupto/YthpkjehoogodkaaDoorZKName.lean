/- Names, numbers, symbols and marks: what the functions that cut them off answer. -/
import Derived.Test.YthpkjehoogodkaaDoorZKTok
import Derived.Test.YthpkjehoogodkaaDoorZShelf
namespace Go.Proofs.YthpkjehoogodkaaDoor
open Go.RowKit

abbrev tcells (k o l c : Int) (t : ByteArray) (i : Int) : Array Value := #[.int .i64 k, .int .i64 o, .int .i64 l, .int .i64 c, .string t, .int .i64 i]
abbrev ztok : Array Value := #[.int .i64 0, .int .i64 0, .int .i64 0, .int .i64 0, .string ⟨#[]⟩, .int .i64 0]
theorem infoTok6 : (Tryd.prog.info? 35).map (·.size) = some 6 := by kernel_rfl
theorem kheap_setCell_same (w : World) (g i : Nat) (cs : Array Value) (t : TypeId) (x : Value) (h : w.heap[g]? = some (.cells cs t (0, 0))) : (w.setCell ⟨g, i, none⟩ x).heap[g]? = some (.cells (cs.setIfInBounds i x) t (0, 0)) := heap_setCell_same w g i cs t x h
/-- A token that is stored into a block of its own. -/
theorem storedT (w W : World) (k o l c : Int) (t : ByteArray) (n : Int) (cs : Array Value) (b : Nat) (hb : w.heap.size ≤ b) (bW : Below w.heap.size w W) (hc : cs.size = 6) (g1 : W.heap[b]? = some (.cells cs 35 (0, 0))) :
    ((((((W.setCell ⟨b, 0, none⟩ (.int .i64 k)).setCell ⟨b, 1, none⟩ (.int .i64 o)).setCell ⟨b, 2, none⟩ (.int .i64 l)).setCell ⟨b, 3, none⟩ (.int .i64 c)).setCell ⟨b, 4, none⟩ (.string t)).setCell ⟨b, 5, none⟩ (.int .i64 n)).heap[b]? = some (.cells (tcells k o l c t n) 35 (0, 0)) ∧
    Below w.heap.size w ((((((W.setCell ⟨b, 0, none⟩ (.int .i64 k)).setCell ⟨b, 1, none⟩ (.int .i64 o)).setCell ⟨b, 2, none⟩ (.int .i64 l)).setCell ⟨b, 3, none⟩ (.int .i64 c)).setCell ⟨b, 4, none⟩ (.string t)).setCell ⟨b, 5, none⟩ (.int .i64 n)) := by
  obtain ⟨xs⟩ := cs
  obtain ⟨x0, x1, x2, x3, x4, x5, rfl⟩ : ∃ x0 x1 x2 x3 x4 x5, xs = [x0, x1, x2, x3, x4, x5] := by
    match xs, hc with
    | [x0, x1, x2, x3, x4, x5], _ => exact ⟨_, _, _, _, _, _, rfl⟩
  have g2 := heap_setCell_same _ _ 0 _ _ (.int .i64 k) g1
  have g3 := heap_setCell_same _ _ 1 _ _ (.int .i64 o) g2
  have g4 := heap_setCell_same _ _ 2 _ _ (.int .i64 l) g3
  have g5 := heap_setCell_same _ _ 3 _ _ (.int .i64 c) g4
  have g6 := heap_setCell_same _ _ 4 _ _ (.string t) g5
  have g7 := heap_setCell_same _ _ 5 _ _ (.int .i64 n) g6
  exact ⟨g7, (((((bW.setCell hb _).setCell hb _).setCell hb _).setCell hb _).setCell hb _).setCell hb _⟩
theorem results_struct_tmps {P : Program} {fn : Func} {p u v : Tmp} {ty : TypeId} (h : fn.results = #[.cell p ty, .tmp u, .tmp v]) (tmps : Array Value) (w : World) (g : Nat) (t : TypeId) (cs : Array Value) (fr : Nat × Nat) (d : TypeDesc)
    (hp : tmps.getD p undef = .pointer (some ⟨g, 0, none⟩)) (hg : w.heap[g]? = some (.cells cs t fr))
    (hu : P.underlying ty = some d) (hd : (match d with | .struct _ | .array _ _ => true | _ => false) = true) (hi : (P.info? ty).map (·.size) = some cs.size) :
    (results fn tmps).run P w = .ok (.tuple #[.agg cs, tmps.getD u undef, tmps.getD v undef]) w := by
  have hp' : tmps[p]?.getD undef = .pointer (some ⟨g, 0, none⟩) := by simpa using hp
  simp [results, h, hp', asAddr, run_loadVar_row w g t ty cs fr d hg hu hd hi]

/-- What a function that cuts a token off answers. -/
def CutR (C : Ct) (w : World) (e : Ending) (w' : World) : Prop :=
  e = .returned (.tuple #[.agg (tcells C.tk.kind 0 0 0 (str C.tk.text) C.tk.int), .int .i64 (C.size : Int), .int .i64 C.code]) ∧ Below w.heap.size w w'

set_option maxRecDepth 100000 in
set_option maxHeartbeats 2000000 in
theorem nameT_k (s : ByteArray) (hs : s.size ≤ 4294967296) (w : World) (hT : Tabs w) :
    Calls Tryd.prog 34 #[.string s] w (CutR (nameC s.data.toList) w) := by
  obtain ⟨W, hW⟩ : ∃ W, w.alloc (.cells ztok 35) = W := ⟨_, rfl⟩
  have bW : Below w.heap.size w W := by rw [← hW]; exact kalloc (Below.refl _ _) _
  have e1 : W.heap[w.heap.size]? = some (.cells ztok 35 (0, 0)) := by rw [← hW]; exact World.alloc_heap_new w _
  have hz : w.heap.size < W.heap.size := (Array.getElem?_eq_some_iff.1 e1).1
  have hle := rowL_le isNm s.data.toList
  have hlen : s.data.toList.length = s.size := by rw [Array.length_toList]; rfl
  rw [hlen] at hle
  have HR := hide (rowName_k s hs W (hT.below bW))
  unfold nameC
  generalize rowL isNm s.data.toList = n at *
  obtain ⟨q, hq⟩ : ∃ q, s.extract 0 n = q := ⟨_, rfl⟩
  have hqd : q.data.toList = s.data.toList.take n := by rw [← hq, extract_str, bytes_str]; simp
  have hqs : q.size ≤ s.size := by
    have : q.data.toList.length = q.size := by rw [Array.length_toList]; rfl
    rw [← this, hqd, List.length_take, hlen]
    omega
  have hqq : str (s.data.toList.take n) = q := by rw [← hqd, str_bytes]
  have HN := hide (fun w2 (h : Tabs w2) => name_k q (by omega) w2 h)
  rw [← hqd]
  have HT := hide hT
  have HE := hide e1
  have HBW := hide bW
  clear hT e1 bW
  by_cases hc : nameE q.data.toList = 0
  · have HN' : Hid (∀ w2 (h : Tabs w2), Calls Tryd.prog 54 #[.string q] w2 fun e w' => e = .returned (.int .i64 0) ∧ Below w2.heap.size w2 w') := hide (fun w2 h => by have := HN.out w2 h; rw [hc] at this; exact this)
    rw [if_pos hc]
    unfold CutR
    dsimp only
    rw [str_bytes]
    clear hc HN hqd hqq
    go_enter Tryd.func34, Tryd.ntmps34
    go_wp2_with (first
      | (go_at_call 31; refine HR.out.mono ?_; clear HR; rintro e w2 ⟨rfl, b2⟩; have B2 := hide b2; clear b2)
      | (go_at_call 54; refine (HN'.out _ ((HT.out.below HBW.out).below B2.out)).mono ?_; clear HN'; rintro e w3 ⟨rfl, b3⟩; have B3 := hide b3; have g3 := (b3.block _ (by have := B2.out.size; omega)).trans ((B2.out.block _ hz).trans HE.out); have x0 := kcells_at g3 0 _ rfl; have x1 := kcells_at g3 1 _ rfl; have x2 := kcells_at g3 2 _ rfl; have x3 := kcells_at g3 3 _ rfl; have x4 := kcells_at g3 4 _ rfl; have x5 := kcells_at g3 5 _ rfl; have q0 := kfrozen_at g3 0; have q1 := kfrozen_at g3 1; have q2 := kfrozen_at g3 2; have q3 := kfrozen_at g3 3; have q4 := kfrozen_at g3 4; have q5 := kfrozen_at g3 5; have G3 := hide g3; clear b3 g3))
    have g := storedT w w3 1 0 0 0 q 0 ztok w.heap.size (Nat.le_refl _) (ktrans (ktrans HBW.out B2.out) B3.out) rfl G3.out
    refine bodyPost_ret (results_struct_tmps rfl _ _ w.heap.size _ _ _ _ rfl g.1 Tryd.underlying35 rfl infoTok6) rfl ?_
    exact ⟨rfl, g.2⟩
  · obtain ⟨x, hx⟩ : ∃ x, nameE q.data.toList = x := ⟨_, rfl⟩
    have HN' : Hid (∀ w2 (h : Tabs w2), Calls Tryd.prog 54 #[.string q] w2 fun e w' => e = .returned (.int .i64 x) ∧ Below w2.heap.size w2 w') := hide (fun w2 h => by have := HN.out w2 h; rw [hx] at this; exact this)
    rw [if_neg hc]
    rw [hx] at hc
    have hx2 : (x != 0) = true := by simpa using hc
    clear hc HN hqd hqq hx
    unfold CutR
    go_enter Tryd.func34, Tryd.ntmps34
    go_wp2_with (first
      | (go_at_call 31; refine HR.out.mono ?_; clear HR; rintro e w2 ⟨rfl, b2⟩; have B2 := hide b2; clear b2)
      | (go_at_call 54; refine (HN'.out _ ((HT.out.below HBW.out).below B2.out)).mono ?_; clear HN'; rintro e w3 ⟨rfl, b3⟩; have B3 := hide b3; have g3 := (b3.block _ (by have := B2.out.size; omega)).trans ((B2.out.block _ hz).trans HE.out); have x0 := kcells_at g3 0 _ rfl; have x1 := kcells_at g3 1 _ rfl; have x2 := kcells_at g3 2 _ rfl; have x3 := kcells_at g3 3 _ rfl; have x4 := kcells_at g3 4 _ rfl; have x5 := kcells_at g3 5 _ rfl; have q0 := kfrozen_at g3 0; have q1 := kfrozen_at g3 1; have q2 := kfrozen_at g3 2; have q3 := kfrozen_at g3 3; have q4 := kfrozen_at g3 4; have q5 := kfrozen_at g3 5; have G3 := hide g3; clear b3 g3))
    have g := storedT w w3 0 0 0 0 ⟨#[]⟩ 0 ztok w.heap.size (Nat.le_refl _) (ktrans (ktrans HBW.out B2.out) B3.out) rfl G3.out
    refine bodyPost_ret (results_struct_tmps rfl _ _ w.heap.size _ _ _ _ rfl g.1 Tryd.underlying35 rfl infoTok6) rfl ?_
    exact ⟨rfl, g.2⟩
end Go.Proofs.YthpkjehoogodkaaDoor
