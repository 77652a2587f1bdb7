/- The document's scanner: letter, spot, named. -/
import Derived.Test.YthpkjehoogodkaaDoorZKR1
namespace Go.Proofs.YthpkjehoogodkaaDoor
open Go.RowKit

/-- Does a letter begin here? -/
def letB (l : List UInt8) : Bool := !(decide (rowL isLetter l = 0))
theorem letB_nil : letB [] = false := rfl
theorem letB_step (l : List UInt8) (h : l ≠ []) : letB l = isLet (rv l) := by
  unfold letB
  rw [isLet_eq, ← isLetter_raw]
  cases hq : isLetter (raw (rv l)) with
  | true => have := rowL_pos isLetter l h hq; simp; omega
  | false => have := (rowL_zero isLetter l).2 (.inr hq); simp [this]
set_option maxRecDepth 100000 in
set_option maxHeartbeats 2000000 in
theorem letterS_k (s : ByteArray) (hs : s.size ≤ 1048576) (a : Option Addr) (cp P i k : Nat) (W : World) (h : Sn s a cp P i W) (hat : At s.data.toList i k) (hi : i < (rs s.data.toList).length) (hwd : wd (s.data.toList.drop k) = 1) :
    Calls Tryd.prog 46 #[.pointer (some ⟨P, 0, none⟩), .int .i64 1] W fun e W' => e = .returned (.bool (letB (s.data.toList.drop (k + 1)))) ∧ Below W.heap.size W W' := by
  have hb := rs_bound s
  obtain ⟨q1, q2, q3, q4, q5, q6⟩ := hat.rune hi
  rw [hwd] at q6
  obtain ⟨c0, c1, c2, f2⟩ := h.cells
  have hrr := h.rr
  clear h
  by_cases hlt : i + 1 < (rs s.data.toList).length
  · obtain ⟨r1, r2, r3, r4, r5, r6⟩ := q6.rune hlt
    obtain ⟨g, rfl, d1, d2, d3⟩ := hrr (i + 1) hlt
    rw [r2] at d1
    rw [letB_step _ r5]
    have hw : IntKind.i64.wrap ((i : Int) + 1) = ((i + 1 : Nat) : Int) := by rw [IntKind.wrap_i64]; omega
    have hjn : decide (((i + 1 : Nat) : Int) < ((rs s.data.toList).length : Int)) = true := decide_eq_true (by omega)
    generalize hj : i + 1 = j at *
    clear hj r1 r2 r3 r4 r5 r6 hwd q1 q2 q3 q4 q5 q6 hrr hat hi d2 d3 c0
    have HL := hide (fun w => refLetter_k (rv (s.data.toList.drop (k + 1))) w)
    generalize rv (s.data.toList.drop (k + 1)) = rt at *
    generalize (rs s.data.toList).length = n at *
    generalize isLet rt = bb at *
    cases bb
    all_goals
      go_enter Tryd.func46, Tryd.ntmps46
      go_wp2
      go_quiet ((go_at_call 42; exact Calls.quiet_of_same ((HL.out _).mono fun _ _ h => ⟨h.1, h.2.symm⟩)))
      go_wp2
      go_ret
      exact ⟨rfl, below_drewN _ _⟩
  · have hend := q6.end hlt
    rw [hend, letB_nil]
    have hw : IntKind.i64.wrap ((i : Int) + 1) = ((i + 1 : Nat) : Int) := by rw [IntKind.wrap_i64]; omega
    have hjn : decide (((i + 1 : Nat) : Int) < ((rs s.data.toList).length : Int)) = false := decide_eq_false (by omega)
    generalize hj : i + 1 = j at *
    clear hj hwd q1 q2 q3 q4 q5 q6 hrr hat hend c0
    generalize (rs s.data.toList).length = n at *
    go_enter Tryd.func46, Tryd.ntmps46
    go_wp2
    go_quiet (fail)
    go_wp2
    go_ret
    exact ⟨rfl, below_drewN _ _⟩

theorem clamp_in (s : ByteArray) (k : Nat) (h : k ≤ s.size) : clamp s (k : Int) = k := by unfold clamp; omega
set_option maxRecDepth 100000 in
set_option maxHeartbeats 2000000 in
theorem spot_k (s : ByteArray) (hs : s.size ≤ 1048576) (k : Nat) (hk : k ≤ s.size) (w : World) :
    Calls Tryd.prog 21 #[.string s, .int .i64 (k : Int)] w fun e w' => e = .returned (.agg #[.int .i64 (k : Int), .int .i64 ((lc s.data.toList k).1 : Int), .int .i64 ((lc s.data.toList k).2 : Int)]) ∧ Below w.heap.size w w' := by
  have HA := hide (fun w => refAt_k s hs (k : Int) w)
  rw [clamp_in s k hk] at HA
  have e : atR k 0 1 1 (ru s.data.toList) = lc s.data.toList k := rfl
  rw [e] at HA
  clear e
  generalize (lc s.data.toList k).1 = x at *
  generalize (lc s.data.toList k).2 = y at *
  obtain ⟨W, hW⟩ : ∃ W, w.alloc (.cells #[.int .i64 0, .int .i64 0, .int .i64 0] 25) = W := ⟨_, rfl⟩
  have bW : Below w.heap.size w W := by rw [← hW]; exact kalloc (Below.refl _ _) _
  have e1 : W.heap[w.heap.size]? = some (.cells #[.int .i64 0, .int .i64 0, .int .i64 0] 25 (0, 0)) := by rw [← hW]; exact World.alloc_heap_new w _
  have hz : w.heap.size < W.heap.size := (Array.getElem?_eq_some_iff.1 e1).1
  have HE := hide e1
  have HB := hide bW
  clear e1 bW
  go_enter Tryd.func21, Tryd.ntmps21
  go_wp2_with (go_at_call 41; refine (HA.out _).mono ?_; clear HA; rintro e w2 ⟨rfl, b2⟩; have z2 : w.heap.size < w2.heap.size := (by (have := b2.size; omega)); obtain ⟨W3, hW3⟩ : ∃ W3, w2.alloc (.cells #[.int .i64 (k : Int), .int .i64 (x : Int), .int .i64 (y : Int)] 80) = W3 := ⟨_, rfl⟩; have g3 : AtT 25 W3 w.heap.size 0 0 0 := (by rw [← hW3]; exact (Below.heap_alloc _ _ _ z2).trans ((b2.block _ hz).trans HE.out)); have g4 : W3.heap[w2.heap.size]? = some (.cells #[.int .i64 (k : Int), .int .i64 (x : Int), .int .i64 (y : Int)] 80 (0, 0)) := (by rw [← hW3]; exact World.alloc_heap_new w2 _); have y0 := kcells_at g4 0 _ rfl; have y1 := kcells_at g4 1 _ rfl; have y2 := kcells_at g4 2 _ rfl; obtain ⟨v0, v1, v2, f0, f1, f2⟩ := g3.cells; have B3 := hide (kalloc (ktrans HB.out b2) (.cells #[.int .i64 (k : Int), .int .i64 (x : Int), .int .i64 (y : Int)] 80)); rw [hW3] at B3; have G3 := hide g3; clear b2 g3 g4)
  have g := ((G3.out.set0 (k : Int)).set1 (x : Int)).set2 (y : Int)
  refine bodyPost_ret (results_cell_row rfl _ _ w.heap.size _ _ _ _ rfl g Tryd.underlying25 rfl infoSpt) rfl ?_
  exact ⟨rfl, ((B3.out.setCell (Nat.le_refl _) _).setCell (Nat.le_refl _) _).setCell (Nat.le_refl _) _⟩

/-- What named answers: a token and an error's number. -/
def nmdC (kd : Int) (t : List UInt8) : Tkn × Int := if nameE t = 0 ∧ ¬ (kd = 3 ∧ isTruth t = true) then (⟨kd, t, 0⟩, 0) else (Tkn.none, 21)
def TokR (C : Tkn × Int) (w : World) (e : Ending) (w' : World) : Prop :=
  e = .returned (.tuple #[.agg (tcells C.1.kind 0 0 0 (str C.1.text) C.1.int), .int .i64 C.2]) ∧ Below w.heap.size w w'
theorem results_struct_one {P : Program} {fn : Func} {p u : Tmp} {ty : TypeId} (h : fn.results = #[.cell p ty, .tmp u]) (tmps : Array Value) (w : World) (g : Nat) (t : TypeId) (cs : Array Value) (fr : Nat × Nat) (d : TypeDesc)
    (hp : tmps.getD p undef = .pointer (some ⟨g, 0, none⟩)) (hg : w.heap[g]? = some (.cells cs t fr))
    (hu : P.underlying ty = some d) (hd : (match d with | .struct _ | .array _ _ => true | _ => false) = true) (hi : (P.info? ty).map (·.size) = some cs.size) :
    (results fn tmps).run P w = .ok (.tuple #[.agg cs, tmps.getD u undef]) w := by
  have hp' : tmps[p]?.getD undef = .pointer (some ⟨g, 0, none⟩) := by simpa using hp
  simp [results, h, hp', asAddr, run_loadVar_row w g t ty cs fr d hg hu hd hi]
set_option maxRecDepth 100000 in
set_option maxHeartbeats 4000000 in
theorem named_k (kd : Int) (hkd : kd = 1 ∨ kd = 3) (q : ByteArray) (hs : q.size ≤ 1048576) (w : World) :
    Calls Tryd.prog 43 #[.int .i64 kd, .string q] w (TokR (nmdC kd q.data.toList) w) := by
  have HN := hide (fun w => refName_k q hs w)
  rw [← (name_doc q.data.toList).1] at HN
  obtain ⟨W, hW⟩ : ∃ W, w.alloc (.cells ztok 35) = W := ⟨_, rfl⟩
  have bW : Below w.heap.size w W := by rw [← hW]; exact kalloc (Below.refl _ _) _
  have e1 : W.heap[w.heap.size]? = some (.cells ztok 35 (0, 0)) := by rw [← hW]; exact World.alloc_heap_new w _
  have hz : w.heap.size < W.heap.size := (Array.getElem?_eq_some_iff.1 e1).1
  have HE := hide e1
  have HBW := hide bW
  clear e1 bW
  unfold nmdC TokR
  by_cases hn : nameE q.data.toList = 0
  · rw [hn] at HN
    have e0 : ((0 : Int) == 0) = true := rfl
    rw [e0] at HN
    clear e0
    rcases hkd with rfl | rfl
    · rw [if_pos ⟨hn, fun h => absurd h.1 (by decide)⟩]
      dsimp only
      rw [str_bytes]
      clear hn
      go_enter Tryd.func43, Tryd.ntmps43
      go_wp2_with (go_at_call 57; refine (HN.out _).mono ?_; clear HN; rintro e w2 ⟨rfl, b2⟩; have g3 := (b2.block _ hz).trans HE.out; have x0 := kcells_at g3 0 _ rfl; have x1 := kcells_at g3 1 _ rfl; have x2 := kcells_at g3 2 _ rfl; have x3 := kcells_at g3 3 _ rfl; have x4 := kcells_at g3 4 _ rfl; have x5 := kcells_at g3 5 _ rfl; have q0 := kfrozen_at g3 0; have q1 := kfrozen_at g3 1; have q2 := kfrozen_at g3 2; have q3 := kfrozen_at g3 3; have q4 := kfrozen_at g3 4; have q5 := kfrozen_at g3 5; have G3 := hide g3; have B2 := hide b2; clear b2 g3)
      have g := storedT w w2 1 0 0 0 q 0 ztok w.heap.size (Nat.le_refl _) (ktrans HBW.out B2.out) rfl G3.out
      refine bodyPost_ret (results_struct_one rfl _ _ w.heap.size _ _ _ _ rfl g.1 Tryd.underlying35 rfl infoTok6) rfl ?_
      exact ⟨rfl, g.2⟩
    · by_cases h1 : q.data.toList = [116, 114, 117, 101]
      · have n1 : (q.toList == [116, 114, 117, 101]) = true := is_lit _ h1
        have n1' : (q.toList == (⟨#[116, 114, 117, 101]⟩ : ByteArray).toList) = true := by rw [Lib.toList_data ⟨#[116, 114, 117, 101]⟩]; exact n1
        rw [if_neg (fun h => h.2 ⟨rfl, by rw [h1]; decide⟩)]
        clear hn h1
        go_enter Tryd.func43, Tryd.ntmps43
        go_wp2_with (go_at_call 57; refine (HN.out _).mono ?_; clear HN; rintro e w2 ⟨rfl, b2⟩; have g3 := (b2.block _ hz).trans HE.out; have x0 := kcells_at g3 0 _ rfl; have x1 := kcells_at g3 1 _ rfl; have x2 := kcells_at g3 2 _ rfl; have x3 := kcells_at g3 3 _ rfl; have x4 := kcells_at g3 4 _ rfl; have x5 := kcells_at g3 5 _ rfl; have q0 := kfrozen_at g3 0; have q1 := kfrozen_at g3 1; have q2 := kfrozen_at g3 2; have q3 := kfrozen_at g3 3; have q4 := kfrozen_at g3 4; have q5 := kfrozen_at g3 5; have G3 := hide g3; have B2 := hide b2; clear b2 g3)
        have g := storedT w w2 0 0 0 0 ⟨#[]⟩ 0 ztok w.heap.size (Nat.le_refl _) (ktrans HBW.out B2.out) rfl G3.out
        refine bodyPost_ret (results_struct_one rfl _ _ w.heap.size _ _ _ _ rfl g.1 Tryd.underlying35 rfl infoTok6) rfl ?_
        exact ⟨rfl, g.2⟩
      · have n1 : (q.toList == [116, 114, 117, 101]) = false := not_lit _ h1
        have n1' : (q.toList == (⟨#[116, 114, 117, 101]⟩ : ByteArray).toList) = false := by rw [Lib.toList_data ⟨#[116, 114, 117, 101]⟩]; exact n1
        by_cases h2 : q.data.toList = [102, 97, 108, 115, 101]
        · have n2 : (q.toList == [102, 97, 108, 115, 101]) = true := is_lit _ h2
          have n2' : (q.toList == (⟨#[102, 97, 108, 115, 101]⟩ : ByteArray).toList) = true := by rw [Lib.toList_data ⟨#[102, 97, 108, 115, 101]⟩]; exact n2
          rw [if_neg (fun h => h.2 ⟨rfl, by rw [h2]; decide⟩)]
          clear hn h1 h2
          go_enter Tryd.func43, Tryd.ntmps43
          go_wp2_with (go_at_call 57; refine (HN.out _).mono ?_; clear HN; rintro e w2 ⟨rfl, b2⟩; have g3 := (b2.block _ hz).trans HE.out; have x0 := kcells_at g3 0 _ rfl; have x1 := kcells_at g3 1 _ rfl; have x2 := kcells_at g3 2 _ rfl; have x3 := kcells_at g3 3 _ rfl; have x4 := kcells_at g3 4 _ rfl; have x5 := kcells_at g3 5 _ rfl; have q0 := kfrozen_at g3 0; have q1 := kfrozen_at g3 1; have q2 := kfrozen_at g3 2; have q3 := kfrozen_at g3 3; have q4 := kfrozen_at g3 4; have q5 := kfrozen_at g3 5; have G3 := hide g3; have B2 := hide b2; clear b2 g3)
          have g := storedT w w2 0 0 0 0 ⟨#[]⟩ 0 ztok w.heap.size (Nat.le_refl _) (ktrans HBW.out B2.out) rfl G3.out
          refine bodyPost_ret (results_struct_one rfl _ _ w.heap.size _ _ _ _ rfl g.1 Tryd.underlying35 rfl infoTok6) rfl ?_
          exact ⟨rfl, g.2⟩
        · have n2 : (q.toList == [102, 97, 108, 115, 101]) = false := not_lit _ h2
          have n2' : (q.toList == (⟨#[102, 97, 108, 115, 101]⟩ : ByteArray).toList) = false := by rw [Lib.toList_data ⟨#[102, 97, 108, 115, 101]⟩]; exact n2
          have hit : isTruth q.data.toList = false := by
            unfold isTruth
            have a1 : (q.data.toList == [116, 114, 117, 101]) = false := by simpa using h1
            have a2 : (q.data.toList == [102, 97, 108, 115, 101]) = false := by simpa using h2
            rw [a1, a2]
            rfl
          rw [if_pos ⟨hn, fun h => by rw [hit] at h; cases h.2⟩]
          dsimp only
          rw [str_bytes]
          clear hn h1 h2 hit
          go_enter Tryd.func43, Tryd.ntmps43
          go_wp2_with (go_at_call 57; refine (HN.out _).mono ?_; clear HN; rintro e w2 ⟨rfl, b2⟩; have g3 := (b2.block _ hz).trans HE.out; have x0 := kcells_at g3 0 _ rfl; have x1 := kcells_at g3 1 _ rfl; have x2 := kcells_at g3 2 _ rfl; have x3 := kcells_at g3 3 _ rfl; have x4 := kcells_at g3 4 _ rfl; have x5 := kcells_at g3 5 _ rfl; have q0 := kfrozen_at g3 0; have q1 := kfrozen_at g3 1; have q2 := kfrozen_at g3 2; have q3 := kfrozen_at g3 3; have q4 := kfrozen_at g3 4; have q5 := kfrozen_at g3 5; have G3 := hide g3; have B2 := hide b2; clear b2 g3)
          have g := storedT w w2 3 0 0 0 q 0 ztok w.heap.size (Nat.le_refl _) (ktrans HBW.out B2.out) rfl G3.out
          refine bodyPost_ret (results_struct_one rfl _ _ w.heap.size _ _ _ _ rfl g.1 Tryd.underlying35 rfl infoTok6) rfl ?_
          exact ⟨rfl, g.2⟩
  · have e0 : (nameE q.data.toList == 0) = false := by simpa using hn
    rw [e0] at HN
    rw [if_neg (fun h => hn h.1)]
    clear hn e0
    go_enter Tryd.func43, Tryd.ntmps43
    go_wp2_with (go_at_call 57; refine (HN.out _).mono ?_; clear HN; rintro e w2 ⟨rfl, b2⟩; have g3 := (b2.block _ hz).trans HE.out; have x0 := kcells_at g3 0 _ rfl; have x1 := kcells_at g3 1 _ rfl; have x2 := kcells_at g3 2 _ rfl; have x3 := kcells_at g3 3 _ rfl; have x4 := kcells_at g3 4 _ rfl; have x5 := kcells_at g3 5 _ rfl; have q0 := kfrozen_at g3 0; have q1 := kfrozen_at g3 1; have q2 := kfrozen_at g3 2; have q3 := kfrozen_at g3 3; have q4 := kfrozen_at g3 4; have q5 := kfrozen_at g3 5; have G3 := hide g3; have B2 := hide b2; clear b2 g3)
    have g := storedT w w2 0 0 0 0 ⟨#[]⟩ 0 ztok w.heap.size (Nat.le_refl _) (ktrans HBW.out B2.out) rfl G3.out
    refine bodyPost_ret (results_struct_one rfl _ _ w.heap.size _ _ _ _ rfl g.1 Tryd.underlying35 rfl infoTok6) rfl ?_
    exact ⟨rfl, g.2⟩
end Go.Proofs.YthpkjehoogodkaaDoor
