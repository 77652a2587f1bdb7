/- The document's New and Of. -/
import Derived.Test.YtlgkbjhpjjmljaaDoorBRef
import Derived.Test.YtlgkbjhpjjmljaaDoorBOf
import Derived.Test.YtlgkbjhpjjmljaaDoorBRows
namespace Go.Proofs.YtlgkbjhpjjmljaaDoor
open Go.RowKit

theorem infoBool : (Tryd.prog.info? 4).map (fun i => (i.zero, i.size, i.bytes)) = some (some (.bool false), 1, 1) := by kernel_rfl
theorem infoRef : (Tryd.prog.info? 29).map (·.size) = some 2 := by kernel_rfl
theorem made_false (n : Nat) : (madeCells #[Value.bool false] n).toList = bools (List.replicate n false) := by
  apply List.ext_getElem
  · simp [madeCells, bools]
  · intro j h1 h2
    simp [madeCells, bools, Nat.mod_one]
theorem results_struct_tmp {P : Program} {fn : Func} {p u : Tmp} {ty : TypeId} (h : fn.results = #[.cell p ty, .tmp u]) (tmps : Array Value) (w : World) (g : Nat) (t : TypeId) (cs : Array Value) (fr : Nat × Nat) (d : TypeDesc)
    (hp : tmps.getD p undef = .pointer (some ⟨g, 0, none⟩)) (hg : w.heap[g]? = some (.cells cs t fr))
    (hu : P.underlying ty = some d) (hd : (match d with | .struct _ | .array _ _ => true | _ => false) = true) (hi : (P.info? ty).map (·.size) = some cs.size) :
    (results fn tmps).run P w = .ok (.tuple #[.agg cs, tmps.getD u undef]) w := by
  rw [results_cell_tmp h, hp]
  simp [asAddr, run_loadVar_row w g t ty cs fr d hg hu hd hi]

theorem refNew_no (i : Int) (h : i < 0 ∨ 4096 < i) (w : World) :
    Calls Tryd.prog 9 #[.int .i64 i] w fun e w' => e = .returned (.tuple #[.agg #[.bool false, .slice none 0 0], .int .i64 30]) ∧ Below w.heap.size w w' := by
  rcases h with h | h
  · go_enter Tryd.func9, Tryd.ntmps9
    go_wp2
    refine bodyPost_ret (results_struct_tmp rfl _ _ w.heap.size _ _ _ _ rfl (World.alloc_heap_new _ _) Tryd.underlying29 rfl infoRef) rfl ?_
    exact ⟨rfl, (Below.refl _ _).alloc (Nat.le_refl _) _⟩
  · go_enter Tryd.func9, Tryd.ntmps9
    go_wp2
    refine bodyPost_ret (results_struct_tmp rfl _ _ w.heap.size _ _ _ _ rfl (World.alloc_heap_new _ _) Tryd.underlying29 rfl infoRef) rfl ?_
    exact ⟨rfl, (Below.refl _ _).alloc (Nat.le_refl _) _⟩
theorem heap_first (w : World) (o o' : Obj) : ((w.alloc o).alloc o').heap[w.heap.size]? = some o := (Below.heap_alloc _ _ _ (by simp)).trans (World.alloc_heap_new w o)
theorem refNew_k (n : Nat) (hn : n ≤ 4096) (w : World) :
    Calls Tryd.prog 9 #[.int .i64 (n : Int)] w fun e w' => e = .returned (.tuple #[.agg #[.bool true, .slice (some ⟨w.heap.size + 1, 0, none⟩) n n], .int .i64 0]) ∧
      w'.ownsRow 0 4 1 (.slice (some ⟨w.heap.size + 1, 0, none⟩) n n) n (bools (List.replicate n false)) ∧ Below w.heap.size w w' ∧ w'.heap.size = w.heap.size + 2 := by
  obtain ⟨i0, hi, hz0, hz1, hz2⟩ := info_parts infoBool
  have hmk := fun w => run_make (P := Tryd.prog) w 27 4 i0 (.bool false) Tryd.underlying27 hi hz0 .i64 .i64 (n : Int) (n : Int) (by omega) (by omega) (by rw [hz2]; omega) (by omega)
  rw [hz1] at hmk
  go_enter Tryd.func9, Tryd.ntmps9
  go_wp2
  refine bodyPost_ret (results_struct_tmp rfl _ _ w.heap.size _ _ _ _ rfl (heap_first _ _ _) Tryd.underlying29 rfl infoRef) rfl ?_
  refine ⟨rfl, ?_, ((Below.refl _ _).alloc (Nat.le_refl _) _).alloc (by simp) _, by simp⟩
  have h1 := World.ownsRow_lit (base := 0) (e := 4) (size := 1) (w.alloc (.cells #[.bool true, .slice (some ⟨w.heap.size + 1, 0, none⟩) n n] 29)) (madeCells #[.bool false] n) n (Nat.zero_le _) (by unfold maxLen; omega) (by simp [madeCells])
  rw [made_false, World.size_alloc] at h1
  exact h1

/-- What stands when k bits are looked at. -/
def laidB (n : Nat) (l : List Nat) (k : Nat) : List Bool := (List.range n).map fun i => decide (i < k) && hasW l i
theorem laidB_len (n : Nat) (l : List Nat) (k : Nat) : (laidB n l k).length = n := by simp [laidB]
theorem laidB_zero (n : Nat) (l : List Nat) : laidB n l 0 = List.replicate n false := by
  apply List.ext_getElem
  · simp [laidB]
  · intro i h1 h2
    simp [laidB]
theorem laidB_step (n : Nat) (l : List Nat) (k : Nat) : (laidB n l k).set k (hasW l k) = laidB n l (k + 1) := by
  apply List.ext_getElem
  · simp [laidB]
  · intro i h1 h2
    rw [List.getElem_set]
    by_cases e : k = i
    · subst e
      simp [laidB]
    · rw [if_neg e]
      have : (i < k + 1) = (i < k) := by simp; omega
      simp [laidB, this]
theorem laidB_out (n : Nat) (l : List Nat) (k : Nat) (h : n ≤ k) : laidB n l (k + 1) = laidB n l k := by
  apply List.ext_getElem
  · simp [laidB]
  · intro i h1 h2
    have hi : i < n := by simpa [laidB] using h1
    have a : i < k + 1 := by omega
    have b : i < k := by omega
    simp [laidB, a, b]
theorem laidB_end (n : Nat) (l : List Nat) (k : Nat) (h : n ≤ k) : laidB n l k = (List.range n).map fun i => hasW l i := by
  apply List.ext_getElem
  · simp [laidB]
  · intro i h1 h2
    have hi : i < n := by simpa [laidB] using h1
    have b : i < k := by omega
    simp [laidB, b]

theorem and_one (x k : Nat) (hx : x < 18446744073709551616) : bits .and .u64 ((x : Int) / (2 : Int) ^ (k % 64)) 1 = if x.testBit (k % 64) then 1 else 0 := by
  have hd : ((x : Int) / (2 : Int) ^ (k % 64)) = ((x / 2 ^ (k % 64) : Nat) : Int) := by simp
  have hle : x / 2 ^ (k % 64) ≤ x := Nat.div_le_self _ _
  have := u64_and_nat (x / 2 ^ (k % 64)) 1 (by omega) (by decide)
  rw [nat_mask1] at this
  rw [hd]
  refine this.trans ?_
  rw [Nat.testBit_eq_decide_div_mod_eq]
  rcases Nat.mod_two_eq_zero_or_one (x / 2 ^ (k % 64)) with h | h <;> simp [h]

/-- A block that holds a set of the document's. -/
def At2 (W : World) (A : Nat) (a b : Value) : Prop := W.heap[A]? = some (.cells #[a, b] 29 (0, 0))
theorem At2.cells {W : World} {A : Nat} {a b : Value} (h : At2 W A a b) : W.cell? ⟨A, 0, none⟩ = some a ∧ W.cell? ⟨A, 1, none⟩ = some b ∧ W.frozen? ⟨A, 0, none⟩ = false ∧ W.frozen? ⟨A, 1, none⟩ = false := by
  refine ⟨?_, ?_, ?_, ?_⟩ <;> simp [World.cell?, World.frozen?, show W.heap[A]? = _ from h]
theorem At2.set0 {W : World} {A : Nat} {a b : Value} (h : At2 W A a b) (x : Value) : At2 (W.setCell ⟨A, 0, none⟩ x) A x b := by
  simp [At2, World.setCell, Array.getElem?_modify, show W.heap[A]? = _ from h]
theorem At2.set1 {W : World} {A : Nat} {a b : Value} (h : At2 W A a b) (x : Value) : At2 (W.setCell ⟨A, 1, none⟩ x) A a x := by
  simp [At2, World.setCell, Array.getElem?_modify, show W.heap[A]? = _ from h]
theorem At2.below {W W' : World} {A B : Nat} {a b : Value} (h : At2 W A a b) (hb : Below B W W') (hA : A < B) : At2 W' A a b := (hb.block A hA).trans h
theorem At2.lt {W : World} {A : Nat} {a b : Value} (h : At2 W A a b) : A < W.heap.size := (Array.getElem?_eq_some_iff.1 h).1
theorem At2.alloc {W : World} {A : Nat} {a b : Value} (h : At2 W A a b) (o : Obj) : At2 (W.alloc o) A a b := (Below.heap_alloc W o A h.lt).trans h

set_option maxRecDepth 100000 in
theorem refOf_out (i : Int) (h : i < 0 ∨ 4096 < i) (v : Value) (w : World) :
    Calls Tryd.prog 17 #[.int .i64 i, v] w fun e w' => e = .returned (.tuple #[.agg #[.bool false, .slice none 0 0], .int .i64 30]) ∧ Below w.heap.size w w' := by
  have HN := hide (fun w => refNew_no i h w)
  clear h
  go_enter Tryd.func17, Tryd.ntmps17
  go_wp2_with (go_at_call 9; refine (HN.out _).mono ?_; rintro e w1 ⟨rfl, A2⟩; have hat : At2 (w1.alloc (.cells #[.bool false, .slice none 0 0] 29)) w.heap.size (.bool false) (.slice none 0 0) := At2.alloc ((A2.block _ (by simp)).trans (World.alloc_heap_new w _)) _; obtain ⟨k0, k1, k2, k3⟩ := hat.cells; have hat1 := hat.set0 (.bool false); obtain ⟨j0, j1, j2, j3⟩ := hat1.cells; have hat2 := hat1.set1 (.slice none 0 0); have B2 := hide A2; clear A2)
  have b2 := B2.out
  have sz := b2.size
  rw [World.size_alloc] at sz b2
  have hb : Below w.heap.size w w1 := ((Below.refl _ _).alloc (Nat.le_refl _) _).trans (b2.mono (by omega))
  refine bodyPost_ret (results_struct_tmp rfl _ _ w.heap.size _ _ _ _ rfl hat2 Tryd.underlying29 rfl infoRef) rfl ?_
  exact ⟨rfl, ((hb.alloc (by omega) _).setCell (Nat.le_refl _) _).setCell (Nat.le_refl _) _⟩
set_option maxRecDepth 100000 in
theorem refOf_len (n : Nat) (hn : n ≤ 4096) (a : Option Addr) (m c : Nat) (hm : m ≠ (n + 63) / 64) (_hm2 : m ≤ 1048576) (w : World) :
    Calls Tryd.prog 17 #[.int .i64 (n : Int), .slice a m c] w fun e w' => e = .returned (.tuple #[.agg #[.bool false, .slice none 0 0], .int .i64 30]) ∧ Below w.heap.size w w' := by
  have HN := hide (fun w => refNew_k n hn w)
  obtain ⟨N, hN⟩ : ∃ N, (n + 63) / 64 = N := ⟨_, rfl⟩
  have hq1 : ((n : Int) + 63) / 64 = (N : Int) := by omega
  rw [hN] at hm
  have hne : ((m : Int) != (N : Int)) = true := by simp; omega
  clear hN
  go_enter Tryd.func17, Tryd.ntmps17
  go_wp2_with (go_at_call 9; refine (HN.out _).mono ?_; rintro e w1 ⟨rfl, A1, A2, A3⟩; have hat : At2 (w1.alloc (.cells #[.bool true, .slice (some ⟨w.heap.size + 1 + 1, 0, none⟩) n n] 29)) w.heap.size (.bool false) (.slice none 0 0) := At2.alloc ((A2.block _ (by simp)).trans (World.alloc_heap_new w _)) _; obtain ⟨k0, k1, k2, k3⟩ := hat.cells; have hat1 := hat.set0 (.bool false); obtain ⟨j0, j1, j2, j3⟩ := hat1.cells; have hat2 := hat1.set1 (.slice none 0 0); have B2 := hide A2; clear A1 A2 A3)
  have b2 := B2.out
  have sz := b2.size
  rw [World.size_alloc] at sz b2
  have hb : Below w.heap.size w w1 := ((Below.refl _ _).alloc (Nat.le_refl _) _).trans (b2.mono (by omega))
  refine bodyPost_ret (results_struct_tmp rfl _ _ w.heap.size _ _ _ _ rfl hat2 Tryd.underlying29 rfl infoRef) rfl ?_
  exact ⟨rfl, ((hb.alloc (by omega) _).setCell (Nat.le_refl _) _).setCell (Nat.le_refl _) _⟩

/-- What stands in the loop. -/
structure OfI (w : World) (n : Nat) (l : List Nat) (k : Nat) (W : World) : Prop where
  res : At2 W w.heap.size (.bool false) (.slice none 0 0)
  loc : At2 W (w.heap.size + 3) (.bool true) (.slice (some ⟨w.heap.size + 1 + 1, 0, none⟩) n n)
  row : W.ownsRow 0 4 1 (.slice (some ⟨w.heap.size + 1 + 1, 0, none⟩) n n) n (bools (laidB n l k))
  bel : Below w.heap.size w W
  zero : ∀ j, n ≤ j → j < k → hasW l j = false

set_option maxRecDepth 100000 in
set_option maxHeartbeats 2000000 in
theorem refOf_any (n : Nat) (hn : n ≤ 4096) (v : Value) (l : List Nat) (w : World) (hv : WordsAt w w.heap.size v l) (hl : l.length = (n + 63) / 64) (hf : ∀ x ∈ l, x < 18446744073709551616) :
    Calls Tryd.prog 17 #[.int .i64 (n : Int), v] w fun e w' => Below w.heap.size w w' ∧ ((bey n l = true ∧ e = .returned (.tuple #[.agg #[.bool false, .slice none 0 0], .int .i64 30])) ∨
      (bey n l = false ∧ ∃ gb, e = .returned (.tuple #[.agg #[.bool true, .slice (some ⟨gb, 0, none⟩) n n], .int .i64 0]) ∧ w.heap.size ≤ gb ∧ w'.ownsRow 0 4 1 (.slice (some ⟨gb, 0, none⟩) n n) n (bools ((List.range n).map fun i => hasW l i)))) := by
  have HV := hide hv
  obtain ⟨a, c, rfl, _⟩ := hv
  have HN := hide (fun w => refNew_k n hn w)
  have hq1 : ((n : Int) + 63) / 64 = (l.length : Int) := by omega
  have hne : ((l.length : Int) != (l.length : Int)) = false := by simp
  have hl64 : l.length ≤ 64 := by omega
  have HL := hide hl
  have HF := hide hf
  clear hl hf
  go_enter Tryd.func17, Tryd.ntmps17
  go_wp2_with (go_at_call 9; refine (HN.out _).mono ?_; clear HN; rintro e w1 ⟨rfl, A1, A2, A3⟩; rw [World.size_alloc] at A1 A2 A3; have R1 := hide A1; have B1 := hide A2; have Z1 := hide A3; clear A1 A2 A3)
  have z1 : w1.heap.size = w.heap.size + 3 := Z1.out
  have O0 : OfI w n l 0 (w1.alloc (.cells #[.bool true, .slice (some ⟨w.heap.size + 1 + 1, 0, none⟩) n n] 29)) := by
    refine ⟨At2.alloc ((B1.out.block _ (by omega)).trans (World.alloc_heap_new w _)) _, ?_, ?_, ?_, fun j _ h => by omega⟩
    · have := World.alloc_heap_new w1 (.cells #[.bool true, .slice (some ⟨w.heap.size + 1 + 1, 0, none⟩) n n] 29)
      rw [z1] at this
      exact this
    · rw [laidB_zero]
      exact R1.out.alloc _
    · exact (((Below.refl _ _).alloc (Nat.le_refl _) _).trans (B1.out.mono (by omega))).alloc (by omega) _
  rw [z1]
  clear z1 Z1 R1 B1 hq1 hne
  go_loopw [8, 9] (fun i _ wr => ∃ k : Nat, k ≤ 64 * l.length ∧ i = .int .i64 k ∧ OfI w n l k wr) (fun i _ _ => 64 * l.length - (intOf i).toNat)
  case atStart => exact ⟨0, Nat.zero_le _, rfl, O0⟩
  case round =>
    obtain ⟨k, hk, rfl, hO⟩ := hrel
    clear O0
    obtain ⟨r0, r1, r2, r3⟩ := hO.res.cells
    obtain ⟨s0, s1, s2, s3⟩ := hO.loc.cells
    by_cases hlt : k < 64 * l.length
    · have hq : k / 64 < l.length := by omega
      obtain ⟨a', c', ea, hc⟩ := HV.out.below hO.bel
      simp only [Value.slice.injEq, true_and] at ea
      obtain ⟨rfl, rfl⟩ := ea
      obtain ⟨b, off, rfl, _, hcell⟩ := hc (k / 64) hq
      have hx := HF.out _ (List.getElem_mem hq)
      have hand := and_one l[k / 64] k hx
      have hbit : hasW l k = (l[k / 64]).testBit (k % 64) := by unfold hasW; simp [hq]
      rw [← hbit] at hand
      have hO' := hO
      by_cases hkn : k < n
      · have hst := hO.row.stored k (.bool (hasW l k))
        rw [bools_set, laidB_step] at hst
        have hcb := (hO.row.cellAt k (by omega)).trans (bools_get (laidB n l k) k (by rw [laidB_len]; exact hkn))
        have hfb := hO.row.frozenAt k
        have RN := hide (show OfI w n l (k + 1) (wr.setCell ⟨w.heap.size + 1 + 1, k, none⟩ (.bool (hasW l k))) from ⟨(Below.heap_setCell _ _ _ _ (by simp; omega)).trans hO.res, (Below.heap_setCell _ _ _ _ (by simp)).trans hO.loc, hst.1, hO.bel.setCell (by simp; omega) _, fun j h1 h2 => by omega⟩)
        clear hst hO hO' hc hbit HV HF
        generalize hqq : k / 64 = q at *
        have hdv : ((k : Int) / 64) = (q : Int) := by omega
        have hwq : IntKind.i64.wrap (q : Int) = (q : Int) := by rw [IntKind.wrap_i64]; omega
        generalize l[q] = x at *
        clear hqq
        cases hh : hasW l k
        · rw [hh] at RN hand
          simp only [Bool.false_eq_true, if_false] at hand
          go_wp2
          go_roundw
          · refine ⟨k + 1, by omega, by simp, RN.out⟩
          · simp [intOf]; omega
        · rw [hh] at RN hand
          simp only [if_true] at hand
          go_wp2
          go_roundw
          · refine ⟨k + 1, by omega, by simp, RN.out⟩
          · simp [intOf]; omega
      · have hat1 := hO.res.set0 (.bool false)
        obtain ⟨j0, j1, j2, j3⟩ := hat1.cells
        have hat2 := hat1.set1 (.slice none 0 0)
        have HB := hide hO.bel
        clear hc HV
        generalize hqq : k / 64 = q at *
        have hdv : ((k : Int) / 64) = (q : Int) := by omega
        have hwq : IntKind.i64.wrap (q : Int) = (q : Int) := by rw [IntKind.wrap_i64]; omega
        generalize l[q] = x at *
        clear hqq
        cases hh : hasW l k
        · have RN := hide (show OfI w n l (k + 1) wr from ⟨hO.res, hO.loc, by rw [laidB_out _ _ _ (by omega)]; exact hO.row, hO.bel, fun j h1 h2 => by
            by_cases e : j = k
            · rw [e]; exact hh
            · exact hO.zero j h1 (by omega)⟩)
          rw [hh] at hand
          simp only [Bool.false_eq_true, if_false] at hand
          clear hO hO' hbit HF
          go_wp2
          go_roundw
          · refine ⟨k + 1, by omega, by simp, RN.out⟩
          · simp [intOf]; omega
        · have hbt : bey n l = true := by
            cases hb : bey n l
            · have := (bey_rel HL.out HF.out hb).bit k (by omega)
              rw [hh] at this
              simp [hkn] at this
            · rfl
          rw [hh] at hand
          simp only [if_true] at hand
          clear hO hO' hbit HF
          go_wp2
          refine bodyPost_ret (results_struct_tmp rfl _ _ w.heap.size _ _ _ _ rfl hat2 Tryd.underlying29 rfl infoRef) rfl ?_
          exact ⟨(HB.out.setCell (Nat.le_refl _) _).setCell (Nat.le_refl _) _, .inl ⟨hbt, rfl⟩⟩
    · have hke : k = 64 * l.length := by omega
      have hbf : bey n l = false := by
        cases hb : bey n l
        · rfl
        · obtain ⟨i, h1, h2, h3⟩ := bey_no HL.out HF.out hb
          rw [hO.zero i h1 (by omega)] at h3
          cases h3
      have hat1 := hO.res.set0 (.bool true)
      obtain ⟨j0, j1, j2, j3⟩ := hat1.cells
      have hat2 := hat1.set1 (.slice (some ⟨w.heap.size + 1 + 1, 0, none⟩) n n)
      have hrow := hO.row
      rw [laidB_end _ _ _ (by have := HL.out; omega)] at hrow
      have RW := hide (ownsRow_setCell_other (ownsRow_setCell_other hrow (a := ⟨w.heap.size, 0, none⟩) (by simp [Value.ownBlock]; omega) (.bool true)) (a := ⟨w.heap.size, 1, none⟩) (by simp [Value.ownBlock]; omega) (.slice (some ⟨w.heap.size + 1 + 1, 0, none⟩) n n))
      have HB := hide hO.bel
      clear hO hrow HV HF HL
      go_wp2
      refine bodyPost_ret (results_struct_tmp rfl _ _ w.heap.size _ _ _ _ rfl hat2 Tryd.underlying29 rfl infoRef) rfl ?_
      exact ⟨(HB.out.setCell (Nat.le_refl _) _).setCell (Nat.le_refl _) _, .inr ⟨hbf, _, rfl, by omega, RW.out⟩⟩
end Go.Proofs.YtlgkbjhpjjmljaaDoor
