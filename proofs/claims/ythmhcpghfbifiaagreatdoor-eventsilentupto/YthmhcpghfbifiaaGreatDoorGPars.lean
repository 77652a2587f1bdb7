/- The parser's smaller calls. -/
import Derived.Test.YthmhcpghfbifiaaGreatDoorGToken
import Derived.Test.YthmhcpghfbifiaaGreatDoorZVParM
import Derived.Test.YthmhcpghfbifiaaGreatDoorGE4
import Derived.Test.YthmhcpghfbifiaaGreatDoorGAt
import Derived.WalkLawsBesides
import Derived.Test.YthmhcpghfbifiaaGreatDoorZVGather
namespace Go.Proofs.YthmhcpghfbifiaaGreatDoor
open Go.RowKit

/-- A parser: its text, the next token, the parts that it has begun. -/
def ParAt (w : World) (pb : Nat) (s : List UInt8) (t : Tk) (q : Nat) : Prop := w.heap[pb]? = some (.cells #[.string (str s), .int .i32 t.kind, .int .i64 t.off, .string t.text, .int .i64 q] 151 (0, 0))
/-- The fault by which a parser gives up. -/
abbrev faultV (s : List UInt8) (c : Int) (o : Nat) : Value := .iface 34 (.agg #[.int .i64 c, .int .i64 (clamp (str s) o : Nat), .int .i64 (atR (clamp (str s) o) 0 1 1 (ru s)).1, .int .i64 (atR (clamp (str s) o) 0 1 1 (ru s)).2])
abbrev gaveIn (s : List UInt8) (c : Int) (o : Nat) : Ending := .panicked [{ v := faultV s c o, recovered := false }]
set_option maxRecDepth 100000 in
set_option maxHeartbeats 2000000 in
theorem giveUp_k (w : World) (pb : Nat) (s : List UInt8) (t0 t : Tk) (q : Nat) (c : Int) (hP : ParAt w pb s t0 q) (hs : s.length ≤ 1048576) :
    Calls Tryz.prog 117 #[.pointer (some ⟨pb, 0, none⟩), .int .i64 c, .agg (tcells t)] w fun e w' => e = gaveIn s c t.off ∧ Below w.heap.size w w' := by
  have hpb : pb < w.heap.size := (Array.getElem?_eq_some_iff.1 hP).1
  obtain ⟨W, hW⟩ : ∃ W, w.alloc (.cells (tcells t) 148) = W := ⟨_, rfl⟩
  have bW : Below w.heap.size w W := by rw [← hW]; exact alloc_v (Below.refl _ _) _
  have e1 : W.heap[w.heap.size]? = some (.cells (tcells t) 148 (0, 0)) := by rw [← hW]; exact World.alloc_heap_new w _
  have e2 := (bW.block _ hpb).trans hP
  have u0 := fun q : Wv W => q.cell (cells_at e2 0 _ rfl)
  have u1 := fun q : Wv W => q.cell (cells_at e1 1 _ rfl)
  have HA := hide (fun q : Wv W => at_k (str s) (by rw [str_size]; omega) t.off q.val)
  rw [bytes_str] at HA
  have hany := Wv.any W
  clear e1 e2 hP
  go_enter Tryz.func117, Tryz.ntmps117
  go_wp2
  refine wp_region_grown_tail 10 (by kernel_rfl) (by kernel_rfl) ?_
  simp only [List.take_succ_cons, List.take_zero, List.drop_succ_cons, List.drop_zero]
  repeat (go_big_quiet_step ((go_at_call 66; exact Wv.calls _ (HA.out _))))
  refine wpQuiet_nil ?_
  intro w1 hw'
  obtain ⟨qq, rfl⟩ := hw'
  clear u0 u1 HA hany
  go_wp2
  exact ⟨rfl, rfl, trans_v bW qq.below⟩
theorem tokM_room (l : List UInt8) (o : Nat) : (tokM l o).off = o ∧ (tokM l o).text.size ≤ l.length := by
  cases l with
  | nil => exact ⟨rfl, Nat.le_refl _⟩
  | cons c r =>
    simp only [tokM]
    split
    · exact ⟨rfl, by rw [str_size]; simp⟩
    · split
      · exact ⟨rfl, by rw [str_size, List.length_take]; omega⟩
      · split
        · exact ⟨rfl, Nat.zero_le _⟩
        · split
          · exact ⟨rfl, by rw [str_size, List.length_take]; omega⟩
          · exact ⟨rfl, by rw [str_size, List.length_take]; omega⟩
theorem cutM_room (s : List UInt8) (o : Nat) (h : o ≤ s.length) : (cutM s o).off + (cutM s o).text.size ≤ s.length := by
  have h1 := tokM_room (s.drop (o + rowM blankP (s.drop o))) (o + rowM blankP (s.drop o))
  have h2 := rowR_le blankP (s.drop o)
  rw [List.length_drop] at h1 h2
  show (tokM _ _).off + (tokM _ _).text.size ≤ _
  omega
set_option maxRecDepth 100000 in
set_option maxHeartbeats 2000000 in
theorem step_k (w : World) (pb : Nat) (s : List UInt8) (t : Tk) (q : Nat) (hP : ParAt w pb s t q) (hs : s.length ≤ 1048576) (ht : t.off + t.text.size ≤ s.length) (hT : Tabs w) :
    Calls Tryz.prog 118 #[.pointer (some ⟨pb, 0, none⟩)] w fun e w' => e = .returned (.tuple #[]) ∧ ParAt w' pb s (stepM s t) q ∧ w.grownBy w' (some pb) := by
  have hpb : pb < w.heap.size := (Array.getElem?_eq_some_iff.1 hP).1
  have u0 := fun q : Wv w => q.cell (cells_at hP 0 _ rfl)
  have u1 := fun q : Wv w => q.cell (cells_at hP 2 _ rfl)
  have u2 := fun q : Wv w => q.cell (cells_at hP 3 _ rfl)
  have hadd : IntKind.i64.wrap ((t.off : Int) + (t.text.size : Int)) = ((t.off + t.text.size : Nat) : Int) := by rw [IntKind.wrap_i64]; omega
  have HC := hide (fun q : Wv w => cut_k s (t.off + t.text.size) ht hs q.val (hT.below q.below))
  have hany := Wv.any w
  have HP := hide hP
  have HM : Hid (stepM s t = cutM s (t.off + t.text.size)) := rfl
  clear hP hT
  generalize t.off + t.text.size = o at *
  generalize cutM s o = t2 at *
  obtain ⟨k2, o2, x2⟩ := t2
  go_enter Tryz.func118, Tryz.ntmps118
  go_wp2
  refine wp_region_grown_tail 20 (by kernel_rfl) (by kernel_rfl) ?_
  simp only [List.take_succ_cons, List.take_zero, List.drop_succ_cons, List.drop_zero]
  repeat (go_big_quiet_step ((go_at_call 90; exact Wv.calls _ (HC.out _))))
  refine wpQuiet_nil ?_
  intro w1 hw'
  obtain ⟨qq, rfl⟩ := hw'
  clear u0 u1 u2 HC hany
  have f := (qq.below.block _ hpb).trans HP.out
  have c1 := cells_at f 1 _ rfl
  have c2 := cells_at f 2 _ rfl
  have c3 := cells_at f 3 _ rfl
  have z1 := frozen_at f 1
  have z2 := frozen_at f 2
  have z3 := frozen_at f 3
  have F := hide f
  clear f
  go_wp2
  have g1 := heap_setCell_same _ _ 1 _ _ (.int .i32 k2) F.out
  have g2 := heap_setCell_same _ _ 2 _ _ (.int .i64 o2) g1
  have g3 := heap_setCell_same _ _ 3 _ _ (.string x2) g2
  go_end0
  refine ⟨rfl, ?_, grown_more (grown_of_below qq.below) (grown_more (grown_set1 _ _ _ _) (grown_more (grown_set1 _ _ _ _) (grown_set1 _ _ _ _)))⟩
  rw [HM.out]
  exact g3
theorem ParAt.lt {w : World} {pb : Nat} {s : List UInt8} {t : Tk} {q : Nat} (h : ParAt w pb s t q) : pb < w.heap.size := (Array.getElem?_eq_some_iff.1 h).1
set_option maxRecDepth 100000 in
set_option maxHeartbeats 2000000 in
theorem skip_yes (w : World) (pb : Nat) (s : List UInt8) (t : Tk) (q : Nat) (hP : ParAt w pb s t q) (hs : s.length ≤ 1048576) (ht : t.off + t.text.size ≤ s.length) (hT : Tabs w) (c : Int) (hk : t.kind = c) :
    Calls Tryz.prog 126 #[.pointer (some ⟨pb, 0, none⟩), .int .i32 c] w fun e w' => e = .returned (.bool true) ∧ ParAt w' pb s (stepM s t) q ∧ w.grownBy w' (some pb) := by
  have c1 := cells_at hP 1 _ rfl
  have hb : (t.kind != c) = false := by simp [hk]
  have HS := hide (step_k w pb s t q hP hs ht hT)
  clear hP hT hk
  go_enter Tryz.func126, Tryz.ntmps126
  go_wp2_with (go_at_call 118; refine HS.out.mono ?_; clear HS; rintro e w2 ⟨rfl, p2, g2⟩; have P2 := hide p2; have G2 := hide g2; clear p2 g2)
  go_ret
  exact ⟨rfl, P2.out, G2.out⟩
set_option maxRecDepth 100000 in
theorem skip_no (w : World) (pb : Nat) (s : List UInt8) (t : Tk) (q : Nat) (hP : ParAt w pb s t q) (c : Int) (hk : ¬ t.kind = c) :
    Calls Tryz.prog 126 #[.pointer (some ⟨pb, 0, none⟩), .int .i32 c] w fun e w' => e = .returned (.bool false) ∧ w = w' := by
  have c1 := cells_at hP 1 _ rfl
  have hb : (t.kind != c) = true := by simp [hk]
  clear hP
  go_enter Tryz.func126, Tryz.ntmps126
  go_wp2
  go_ret
  exact ⟨rfl, rfl⟩
set_option maxRecDepth 100000 in
theorem expect_yes (w : World) (pb : Nat) (s : List UInt8) (t : Tk) (q : Nat) (hP : ParAt w pb s t q) (hs : s.length ≤ 1048576) (ht : t.off + t.text.size ≤ s.length) (hT : Tabs w) (c : Int) (hk : t.kind = c) :
    Calls Tryz.prog 92 #[.pointer (some ⟨pb, 0, none⟩), .int .i32 c] w fun e w' => e = .returned (.tuple #[]) ∧ ParAt w' pb s (stepM s t) q ∧ w.grownBy w' (some pb) := by
  have HS := hide (skip_yes w pb s t q hP hs ht hT c hk)
  clear hP hT hk
  go_enter Tryz.func92, Tryz.ntmps92
  go_wp2_with (go_at_call 126; refine HS.out.mono ?_; clear HS; rintro e w2 ⟨rfl, p2, g2⟩; have P2 := hide p2; have G2 := hide g2; clear p2 g2)
  go_end0
  exact ⟨rfl, P2.out, G2.out⟩
set_option maxRecDepth 100000 in
theorem expect_no (w : World) (pb : Nat) (s : List UInt8) (t : Tk) (q : Nat) (hP : ParAt w pb s t q) (hs : s.length ≤ 1048576) (c : Int) (hk : ¬ t.kind = c) :
    Calls Tryz.prog 92 #[.pointer (some ⟨pb, 0, none⟩), .int .i32 c] w fun e w' => e = gaveIn s 41 t.off ∧ Below w.heap.size w w' := by
  have HS := hide (skip_no w pb s t q hP c hk)
  have HG := hide (giveUp_k w pb s t t q 41 hP hs)
  have c1 := cells_at hP 1 _ rfl
  have c2 := cells_at hP 2 _ rfl
  have c3 := cells_at hP 3 _ rfl
  clear hP hk
  go_enter Tryz.func92, Tryz.ntmps92
  go_wp2_with (first
    | (go_at_call 126; refine HS.out.mono ?_; clear HS; rintro e w2 ⟨rfl, rfl⟩)
    | (go_at_call 117; refine HG.out.mono ?_; clear HG; rintro e w3 ⟨rfl, b3⟩; have B3 := hide b3; clear b3))
  exact ⟨rfl, rfl, B3.out⟩
set_option maxRecDepth 100000 in
set_option maxHeartbeats 1000000 in
theorem num_ok (w : World) (pb : Nat) (s : List UInt8) (t0 t : Tk) (q : Nat) (x : ByteArray) (hx : x.size ≤ 1048576) (_hP : ParAt w pb s t0 q) (hT : Tabs w) (he : numE x.data.toList = 0) :
    Calls Tryz.prog 125 #[.pointer (some ⟨pb, 0, none⟩), .agg (tcells t), .string x] w fun e w' => e = .returned (.int .i64 (numV x.data.toList)) ∧ Below w.heap.size w w' := by
  obtain ⟨W, hW⟩ : ∃ W, w.alloc (.cells (tcells t) 148) = W := ⟨_, rfl⟩
  have bW : Below w.heap.size w W := by rw [← hW]; exact alloc_v (Below.refl _ _) _
  have HN := hide (number_k x (by omega) W (hT.below bW))
  rw [he] at HN
  generalize numV x.data.toList = z at *
  clear hT he
  go_enter Tryz.func125, Tryz.ntmps125
  go_wp2_with (go_at_call 152; refine HN.out.mono ?_; clear HN; rintro e w2 ⟨rfl, b2⟩; have B2 := hide b2; clear b2)
  go_ret
  exact ⟨rfl, trans_v bW B2.out⟩
theorem begins_yes (k : Int) (h : begins k = true) (w : World) : Calls Tryz.prog 116 #[.int .i32 k] w fun e w' => e = .returned (.bool true) ∧ w = w' := by
  have hk : k = 40 ∨ k = 91 ∨ k = 123 ∨ k = 97 ∨ k = 48 ∨ k = 105 := by
    simp only [begins, Bool.or_eq_true, beq_iff_eq] at h
    omega
  rcases hk with rfl | rfl | rfl | rfl | rfl | rfl
  all_goals
    go_enter Tryz.func116, Tryz.ntmps116
    go_wp2
    go_ret
    exact ⟨rfl, rfl⟩
end Go.Proofs.YthmhcpghfbifiaaGreatDoor

/- The parser's value at a number; rows of numbers. -/
namespace Go.Proofs.YthmhcpghfbifiaaGreatDoor
open Go.RowKit

theorem val_done {w X : World} {pb : Nat} {s : List UInt8} {t : Tk} {q : Nat} (k i m : Int) (tx : ByteArray) (sl : Value) (hr : X.heap[w.heap.size]? = some (.cells zcells 46 (0, 0))) (hp : ParAt X pb s t q) (hg : w.grownBy X (some pb)) (hpb : pb < w.heap.size) :
    (((((X.setCell ⟨w.heap.size, 0, none⟩ (.int .i64 k)).setCell ⟨w.heap.size, 1, none⟩ (.int .i64 i)).setCell ⟨w.heap.size, 2, none⟩ (.int .i64 m)).setCell ⟨w.heap.size, 3, none⟩ (.string tx)).setCell ⟨w.heap.size, 4, none⟩ sl).heap[w.heap.size]? = some (.cells #[.int .i64 k, .int .i64 i, .int .i64 m, .string tx, sl] 46 (0, 0)) ∧ ParAt (((((X.setCell ⟨w.heap.size, 0, none⟩ (.int .i64 k)).setCell ⟨w.heap.size, 1, none⟩ (.int .i64 i)).setCell ⟨w.heap.size, 2, none⟩ (.int .i64 m)).setCell ⟨w.heap.size, 3, none⟩ (.string tx)).setCell ⟨w.heap.size, 4, none⟩ sl) pb s t q ∧ w.grownBy (((((X.setCell ⟨w.heap.size, 0, none⟩ (.int .i64 k)).setCell ⟨w.heap.size, 1, none⟩ (.int .i64 i)).setCell ⟨w.heap.size, 2, none⟩ (.int .i64 m)).setCell ⟨w.heap.size, 3, none⟩ (.string tx)).setCell ⟨w.heap.size, 4, none⟩ sl) (some pb) ∧ ∀ b o, b ≠ w.heap.size → (((((X.setCell ⟨w.heap.size, 0, none⟩ (.int .i64 k)).setCell ⟨w.heap.size, 1, none⟩ (.int .i64 i)).setCell ⟨w.heap.size, 2, none⟩ (.int .i64 m)).setCell ⟨w.heap.size, 3, none⟩ (.string tx)).setCell ⟨w.heap.size, 4, none⟩ sl).cell? ⟨b, o, none⟩ = X.cell? ⟨b, o, none⟩ := by
  have g1 := heap_setCell_same _ _ 0 _ _ (.int .i64 k) hr
  have g2 := heap_setCell_same _ _ 1 _ _ (.int .i64 i) g1
  have g3 := heap_setCell_same _ _ 2 _ _ (.int .i64 m) g2
  have g4 := heap_setCell_same _ _ 3 _ _ (.string tx) g3
  have g5 := heap_setCell_same _ _ 4 _ _ sl g4
  exact ⟨g5, (stored_block X w.heap.size pb _ _ _ _ _ (by omega)).trans hp, grown_far (grown_far (grown_far (grown_far (grown_far hg (Nat.le_refl _)) (Nat.le_refl _)) (Nat.le_refl _)) (Nat.le_refl _)) (Nat.le_refl _), fun b o h => stored_cell2 _ _ _ _ _ _ _ _ _ h⟩
/-- The world behind value's first statements, and what lies there. -/
theorem val_start (w : World) (pb : Nat) (s : List UInt8) (t : Tk) (q : Nat) (hP : ParAt w pb s t q) (W : World) (hW : w.alloc (.cells zcells 46) = W) :
    Below w.heap.size w W ∧ W.heap.size = w.heap.size + 1 ∧ W.heap[w.heap.size]? = some (.cells zcells 46 (0, 0)) ∧ ParAt W pb s t q ∧
    (∀ _x : Int, ParAt ((W.setCell ⟨pb, 4, none⟩ (.int .i64 ((q : Int) + 1))).alloc (.cells (tcells t) 148)) pb s t (q + 1)) ∧
    ((W.setCell ⟨pb, 4, none⟩ (.int .i64 ((q : Int) + 1))).alloc (.cells (tcells t) 148)).heap[w.heap.size]? = some (.cells zcells 46 (0, 0)) ∧
    ((W.setCell ⟨pb, 4, none⟩ (.int .i64 ((q : Int) + 1))).alloc (.cells (tcells t) 148)).heap[w.heap.size + 1]? = some (.cells (tcells t) 148 (0, 0)) ∧
    w.grownBy ((W.setCell ⟨pb, 4, none⟩ (.int .i64 ((q : Int) + 1))).alloc (.cells (tcells t) 148)) (some pb) ∧ ((W.setCell ⟨pb, 4, none⟩ (.int .i64 ((q : Int) + 1))).alloc (.cells (tcells t) 148)).heap.size = w.heap.size + 2 := by
  have hpb := hP.lt
  have bW : Below w.heap.size w W := by rw [← hW]; exact alloc_v (Below.refl _ _) _
  have zW : W.heap.size = w.heap.size + 1 := by rw [← hW]; simp
  have e1 : W.heap[w.heap.size]? = some (.cells zcells 46 (0, 0)) := by rw [← hW]; exact World.alloc_heap_new w _
  have e2 : ParAt W pb s t q := (bW.block _ hpb).trans hP
  have zS : (W.setCell ⟨pb, 4, none⟩ (.int .i64 ((q : Int) + 1))).heap.size = w.heap.size + 1 := by simp [World.setCell, zW]
  have f2 := heap_setCell_same _ _ 4 _ _ (.int .i64 ((q : Int) + 1)) e2
  have f3 := World.alloc_heap_new (W.setCell ⟨pb, 4, none⟩ (.int .i64 ((q : Int) + 1))) (.cells (tcells t) 148)
  rw [zS] at f3
  refine ⟨bW, zW, e1, e2, fun _ => (Below.heap_alloc _ _ _ (by omega)).trans f2, ?_, f3, ?_, ?_⟩
  · exact (Below.heap_alloc _ _ _ (by omega)).trans ((Below.heap_setCell _ _ _ _ (by show w.heap.size ≠ pb; omega)).trans e1)
  · exact grown_more (grown_more (grown_of_below bW) (grown_set1 _ _ _ _)) (grown_of_below (alloc_v (Below.refl _ _) _))
  · rw [World.size_alloc, zS]
set_option maxRecDepth 100000 in
set_option maxHeartbeats 2000000 in
/-- value, at a number. -/
theorem val_num (w : World) (pb : Nat) (s : List UInt8) (t : Tk) (q : Nat) (deep : Int) (hP : ParAt w pb s t q) (hs : s.length ≤ 1048576) (ht : t.off + t.text.size ≤ s.length) (hT : Tabs w) (hq : q + 1 ≤ 4096) (hd : deep ≤ 16) (ho : pb ≠ 2 ∧ pb ≠ 0) (hk : t.kind = 48) (hn : numE t.text.data.toList = 0) :
    Calls Tryz.prog 91 #[.pointer (some ⟨pb, 0, none⟩), .int .i64 deep] w fun e w' => e = .returned (.agg (vcells ⟨2, numV t.text.data.toList, 0, ⟨#[]⟩, []⟩ (.slice none 0 0))) ∧ ParAt w' pb s (stepM s t) (q + 1) ∧ w.grownBy w' (some pb) := by
  have hpb := hP.lt
  obtain ⟨W, hW⟩ : ∃ W, w.alloc (.cells zcells 46) = W := ⟨_, rfl⟩
  obtain ⟨bW, zW, e1, e2, e3, e4, e5, e6, e7⟩ := val_start w pb s t q hP W hW
  have HS := hide (step_k _ pb s t (q + 1) (e3 0) hs ht (hT.grown e6 (by have := hT.room; omega) (by have := hT.room; omega)))
  have x1 := cells_at e2 1 _ rfl
  have x2 := cells_at e2 2 _ rfl
  have x3 := cells_at e2 3 _ rfl
  have x4 := cells_at e2 4 _ rfl
  have z4 := frozen_at e2 4
  have HE := hide (And.intro e4 (And.intro e5 (And.intro e6 e7)))
  have HT := hide hT
  have hadd : IntKind.i64.wrap ((q : Int) + 1) = (q : Int) + 1 := by rw [IntKind.wrap_i64]; omega
  have hq1 : ¬ (4096 : Int) < (q : Int) + 1 := by omega
  have HB := hide (fun W => begins_yes t.kind (by rw [hk]; rfl) W)
  have hd' : ¬ (16 : Int) < deep := by omega
  have hts : t.text.size ≤ 1048576 := by omega
  have HN := hide hn
  have HO := hide ho
  generalize hz : numV t.text.data.toList = z at *
  have HZ := hide hz
  have HK := hide hk
  generalize stepM s t = t2 at *
  obtain ⟨tk, to, tt⟩ := t
  simp only at hk
  subst hk
  clear hz hP hT e1 e2 e3 e4 e5 e6 e7 hn ho
  go_enter Tryz.func91, Tryz.ntmps91
  go_wp2_with (first
    | (go_at_call 116; refine (HB.out _).mono ?_; clear HB; rintro e w1 ⟨rfl, rfl⟩)
    | (go_at_call 118; refine HS.out.mono ?_; clear HS; rintro e w2 ⟨rfl, p2, g2⟩; have hz2 := g2.size; rw [HE.out.2.2.2] at hz2; have f1 := (g2.block w.heap.size (by rw [HE.out.2.2.2]; omega) (by simp; omega)).trans HE.out.1; have f2 := (g2.block (w.heap.size + 1) (by rw [HE.out.2.2.2]; omega) (by simp; omega)).trans HE.out.2.1; have G2 := hide (grown_more HE.out.2.2.1 g2); have P2 := hide p2; have F1 := hide f1; have F2 := hide f2; have y0 := cells_at f2 0 _ rfl; have y1 := cells_at f2 1 _ rfl; have y2 := cells_at f2 2 _ rfl; have HNU := hide (num_ok w2 pb s t2 ⟨48, to, tt⟩ (q + 1) tt hts p2 (HT.out.grown (grown_more HE.out.2.2.1 g2) HO.out.1.symm HO.out.2.symm) HN.out); rw [HZ.out] at HNU; clear p2 g2 f1 f2)
    | (go_at_call 125; refine HNU.out.mono ?_; clear HNU; rintro e w3 ⟨rfl, b3⟩; have B3 := hide b3; clear b3)
    | (go_at_call 124; refine (int_k z _).mono ?_; rintro e w4 ⟨rfl, b4⟩; have b34 := trans_v B3.out b4; have f4 := (b34.block _ (by omega)).trans F1.out; have P4 := hide (show ParAt w4 pb s t2 (q + 1) from (b34.block _ (by omega)).trans P2.out); have r0 := cells_at f4 0 _ rfl; have rz0 := frozen_at f4 0; have r1 := cells_at f4 1 _ rfl; have rz1 := frozen_at f4 1; have r2 := cells_at f4 2 _ rfl; have rz2 := frozen_at f4 2; have r3 := cells_at f4 3 _ rfl; have rz3 := frozen_at f4 3; have r4 := cells_at f4 4 _ rfl; have rz4 := frozen_at f4 4; have F4 := hide f4; have B34 := hide b34; clear b4 b34 f4))
  have D := val_done 2 z 0 ⟨#[]⟩ (.slice none 0 0) F4.out P4.out (grown_more G2.out (grown_of_below B34.out)) hpb
  refine bodyPost_ret (results_cell_row rfl _ _ w.heap.size _ _ _ _ rfl D.1 Tryz.underlying46 rfl infoVal5) rfl ?_
  exact ⟨rfl, D.2.1, D.2.2.1⟩
end Go.Proofs.YthmhcpghfbifiaaGreatDoor

/- Rows of numbers: moreItems, items; a set of numbers. -/
namespace Go.Proofs.YthmhcpghfbifiaaGreatDoor
open Go.RowKit

/-- A number, as a value. -/
abbrev numVl (z : Int) : Vl := ⟨2, z, 0, ⟨#[]⟩, []⟩
/-- Numbers with commas between, up to the closing mark. -/
def numsM (s : List UInt8) (c : Int) : Nat → Tk → Option (List Vl × Tk)
  | 0, _ => none
  | n + 1, t => if t.kind = 48 ∧ numE t.text.data.toList = 0 then
      (if (stepM s t).kind = c then some ([numVl (numV t.text.data.toList)], stepM s (stepM s t))
       else if (stepM s t).kind = 44 then (match numsM s c n (stepM s (stepM s t)) with | none => none | some (l, u) => some (numVl (numV t.text.data.toList) :: l, u))
       else none) else none
def partsOf (w : World) (pb : Nat) : Nat := match w.cell? ⟨pb, 4, none⟩ with
  | some (.int _ x) => x.toNat
  | _ => 0
theorem partsOf_is {w : World} {pb : Nat} {s : List UInt8} {t : Tk} {q : Nat} (h : ParAt w pb s t q) : partsOf w pb = q := by
  unfold partsOf
  rw [cells_at h 4 _ rfl]
  simp
theorem numV_range (l : List UInt8) : -9223372036854775808 ≤ numV l ∧ numV l ≤ 9223372036854775807 := by
  unfold numV
  split
  · exact wrapd_range l
  · omega
theorem ParAt.grownL {w w' : World} {pb L : Nat} {s : List UInt8} {t : Tk} {q : Nat} (h : ParAt w pb s t q) (b : Below L w w') (hL : pb < L) : ParAt w' pb s t q := (b.block pb hL).trans h
/-- Where the text's tokens begin. -/
def AtTok (s : List UInt8) (t : Tk) : Prop := ∃ o, o ≤ s.length ∧ t = cutM s o
theorem AtTok.room {s : List UInt8} {t : Tk} (h : AtTok s t) : t.off + t.text.size ≤ s.length := by
  obtain ⟨o, ho, rfl⟩ := h
  exact cutM_room s o ho
theorem AtTok.step {s : List UInt8} {t : Tk} (h : AtTok s t) : AtTok s (stepM s t) := ⟨_, h.room, rfl⟩
set_option maxRecDepth 100000 in
set_option maxHeartbeats 4000000 in
theorem more_nums (w : World) (pb : Nat) (s : List UInt8) (t : Tk) (q n : Nat) (c : Int) (deep : Int) (l : List Vl) (u : Tk) (hP : ParAt w pb s t q) (hs : s.length ≤ 1048576) (ht : AtTok s t) (hT : Tabs w) (hq : q + n ≤ 4096) (hd : deep ≤ 15) (hd0 : 0 ≤ deep) (ho : pb ≠ 2 ∧ pb ≠ 0) (_hc : c ≠ 44) (hm : numsM s c n t = some (l, u)) :
    Calls Tryz.prog 144 #[.pointer (some ⟨pb, 0, none⟩), .slice none 0 0, .int .i32 c, .int .i64 deep] w fun e w' => ∃ o q', e = .returned o ∧ OwnAt w' w.heap.size 1 o l ∧ ParAt w' pb s u q' ∧ AtTok s u ∧ w.grownBy w' (some pb) := by
  have hpb := hP.lt
  have HT := hide hT
  have hadd : IntKind.i64.wrap (deep + 1) = deep + 1 := by rw [IntKind.wrap_i64]; omega
  have HO := hide ho
  have HI := hide (And.intro hP (And.intro ht hm))
  clear hP hT ht hm ho
  go_enter Tryz.func144, Tryz.ntmps144
  go_wp2
  go_loopw [1] (fun o wr => ∃ (xs ys : List Vl) (m k : Nat) (t' : Tk), l = xs ++ ys ∧ numsM s c m t' = some (ys, u) ∧ k + m ≤ 4096 ∧ xs.length ≤ 4096 - m ∧ AtTok s t' ∧ ParAt wr pb s t' k ∧ OwnAt wr w.heap.size 1 o xs ∧ w.grownBy wr (some pb)) (fun _ wr => 4097 - partsOf wr pb)
  case atStart => exact ⟨[], l, n, q, t, rfl, HI.out.2.2, hq, Nat.zero_le _, HI.out.2.1, HI.out.1, OwnAt.nil _ _ _, grown_self _ _⟩
  case round =>
    obtain ⟨xs, ys, m, k, t', hl, hm, hk, hxl, hat, hP, hO, hg⟩ := hrel
    have hpo := partsOf_is hP
    cases m with
    | zero => simp [numsM] at hm
    | succ m =>
    simp only [numsM] at hm
    split at hm
    rotate_left
    · cases hm
    rename_i hkn
    have HV := hide (val_num wr pb s t' k (deep + 1) hP hs hat.room (HT.out.grown hg HO.out.1.symm HO.out.2.symm) (by omega) (by omega) HO.out hkn.1 hkn.2)
    have hzr := numV_range t'.text.data.toList
    have hxl' : xs.length + 1 ≤ 1000000000 := by omega
    obtain ⟨oa, oc, rfl⟩ := hO.len
    generalize numV t'.text.data.toList = z at *
    have HP := hide (fun (U : World) (g : wr.grownBy U (some pb)) =>
      OwnAt.pushX (ty := 44) (s := .slice none 0 0) (x := numVl z) (hO.far g.size (fun k h1 h2 => g.block k h2 (by simp; omega))) (by have := g.size; have := hg.size; omega) ⟨none, 0, rfl, by unfold maxLen; simp, fun j h => by simp at h⟩ (ok_mk (by decide) hzr ⟨by omega, by omega⟩) hxl')
    have HG := hide hg
    have HA := hide (And.intro hl (And.intro hat (And.intro hpo (And.intro hk hxl))))
    have hzw : w.heap.size ≤ wr.heap.size := hg.size
    clear hP hO hg hl hat hpo hkn hk hxl hxl' hzr
    split at hm
    · rename_i hcl
      simp only [Option.some.injEq, Prod.mk.injEq] at hm
      obtain ⟨rfl, rfl⟩ := hm
      have HCL := hide hcl
      clear hcl
      go_wp2_with (first
        | (go_at_call 91; refine HV.out.mono ?_; clear HV; rintro e w4 ⟨rfl, p4, g4⟩; obtain ⟨v5, w5, hrun, o5, b5⟩ := HP.out w4 g4; obtain ⟨va, vc, rfl⟩ := o5.len; have hz4 := g4.size; have p5 := p4.grownL b5 hpb; have g5 := grown_L (grown_more HG.out g4) b5 (Nat.le_refl _) (by omega); have HK := hide (skip_yes w5 pb s _ _ p5 hs HA.out.2.1.step.room (HT.out.grown g5 HO.out.1.symm HO.out.2.symm) c HCL.out); have HRN := hide hrun; have O5 := hide o5; have G5 := hide g5; have HZ5 := hide (show w.heap.size ≤ w5.heap.size from g5.size); clear hrun o5 b5 p4 g4 p5 g5 HP)
        | (at_builtin; refine Lib.wpList_append_run _ rfl (.tmp 9) (.tmp 14) 44 44 rfl _ _ rfl rfl _ _ HRN.out ?_)
        | (go_at_call 126; refine HK.out.mono ?_; clear HK; rintro e w6 ⟨rfl, p6, g6⟩; have P6 := hide p6; have G6 := hide g6; clear p6 g6))
      go_ret
      refine ⟨_, _, rfl, ?_, P6.out, HA.out.2.1.step.step, grown_more G5.out G6.out⟩
      have e := HA.out.1
      rw [e]
      have o6 := O5.out.far G6.out.size (fun k h1 h2 => G6.out.block k h2 (by simp; omega))
      rw [show (xs ++ [numVl z]).length = xs.length + 1 by simp] at o6
      exact o6
    · rename_i hcl
      split at hm
      rotate_left
      · cases hm
      rename_i hcm
      cases e2 : numsM s c m (stepM s (stepM s t')) with
      | none => rw [e2] at hm; cases hm
      | some p =>
      obtain ⟨zs, u'⟩ := p
      rw [e2] at hm
      simp only [Option.some.injEq, Prod.mk.injEq] at hm
      obtain ⟨rfl, rfl⟩ := hm
      have HCL := hide (And.intro hcl (And.intro hcm e2))
      clear hcl hcm e2
      go_wp2_with (first
        | (go_at_call 91; refine HV.out.mono ?_; clear HV; rintro e w4 ⟨rfl, p4, g4⟩; obtain ⟨v5, w5, hrun, o5, b5⟩ := HP.out w4 g4; obtain ⟨va, vc, rfl⟩ := o5.len; have hz4 := g4.size; have p5 := p4.grownL b5 hpb; have g5 := grown_L (grown_more HG.out g4) b5 (Nat.le_refl _) (by omega); have HK := hide (skip_no w5 pb s _ _ p5 c HCL.out.1); have HX := hide (expect_yes w5 pb s _ _ p5 hs HA.out.2.1.step.room (HT.out.grown g5 HO.out.1.symm HO.out.2.symm) 44 HCL.out.2.1); have HRN := hide hrun; have O5 := hide o5; have G5 := hide g5; have HZ5 := hide (show w.heap.size ≤ w5.heap.size from g5.size); clear hrun o5 b5 p4 g4 p5 g5 HP)
        | (at_builtin; refine Lib.wpList_append_run _ rfl (.tmp 9) (.tmp 14) 44 44 rfl _ _ rfl rfl _ _ HRN.out ?_)
        | (go_at_call 126; refine HK.out.mono ?_; clear HK; rintro e w6 ⟨rfl, rfl⟩)
        | (go_at_call 92; refine HX.out.mono ?_; clear HX; rintro e w7 ⟨rfl, p7, g7⟩; have P7 := hide p7; have G7 := hide g7; clear p7 g7))
      go_roundw
      case rel =>
        have ha := HA.out
        refine ⟨xs ++ [numVl z], zs, m, k + 1, _, by rw [ha.1]; simp, HCL.out.2.2, by omega, by rw [List.length_append]; simp; omega, ha.2.1.step.step, P7.out, ?_, grown_more G5.out G7.out⟩
        have o7 := O5.out.far G7.out.size (fun k h1 h2 => G7.out.block k h2 (by simp; omega))
        rw [show (xs ++ [numVl z]).length = xs.length + 1 by simp] at o7
        exact o7
      case measure =>
        have h7 := partsOf_is P7.out
        have ha := HA.out
        rw [h7, ha.2.2.1]
        omega
set_option maxRecDepth 100000 in
theorem items_nums (w : World) (pb : Nat) (s : List UInt8) (t : Tk) (q n : Nat) (c : Int) (deep : Int) (l : List Vl) (u : Tk) (hP : ParAt w pb s t q) (hs : s.length ≤ 1048576) (ht : AtTok s t) (hT : Tabs w) (hq : q + n ≤ 4096) (hd : deep ≤ 15) (hd0 : 0 ≤ deep) (ho : pb ≠ 2 ∧ pb ≠ 0) (hc : c ≠ 44) (hk : ¬ t.kind = c) (hm : numsM s c n t = some (l, u)) :
    Calls Tryz.prog 120 #[.pointer (some ⟨pb, 0, none⟩), .int .i32 c, .int .i64 deep] w fun e w' => ∃ o q', e = .returned o ∧ OwnAt w' w.heap.size 1 o l ∧ ParAt w' pb s u q' ∧ AtTok s u ∧ w.grownBy w' (some pb) := by
  have HK := hide (skip_no w pb s t q hP c hk)
  have HM := hide (more_nums w pb s t q n c deep l u hP hs ht hT hq hd hd0 ho hc hm)
  clear hP hT hk hm ht
  go_enter Tryz.func120, Tryz.ntmps120
  go_wp2_with (first
    | (go_at_call 126; refine HK.out.mono ?_; clear HK; rintro e w6 ⟨rfl, rfl⟩)
    | (go_at_call 144; refine HM.out.mono ?_; clear HM; rintro e w7 ⟨o7, q7, rfl, o7', p7, a7, g7⟩; obtain ⟨va, vc, rfl⟩ := o7'.len; have R7 := hide (And.intro o7' (And.intro p7 (And.intro a7 g7))); clear o7' p7 a7 g7))
  go_ret
  exact ⟨_, _, rfl, R7.out.1, R7.out.2.1, R7.out.2.2.1, R7.out.2.2.2⟩
end Go.Proofs.YthmhcpghfbifiaaGreatDoor
