/- BitsOf: Of tells what the document's Of tells, and keeps no word of its caller's. -/
import Derived.Test.YtlgkbjhpjjmljaaDoorBRefOf
import Derived.Test.YtlgkbjhpjjmljaaDoorBTellsWalk
import Derived.Test.YtlgkbjhpjjmljaaDoorBHeads
import Derived.Laws.AppendOwnNone
import Derived.Lib.AppendZeros
namespace Go.Proofs.YtlgkbjhpjjmljaaDoor
open Go.RowKit

/-- The words of a set of room i. -/
def good (i : Int) (l : List Nat) : Prop := ∃ n : Nat, i = (n : Int) ∧ n ≤ 4096 ∧ l.length = (n + 63) / 64 ∧ bey n l = false
theorem of_bad {w : World} {b g cap : Nat} {i : Int} {l : List Nat} (hr : w.ownsRow b 46 1 (.slice (some ⟨g, 0, none⟩) l.length cap) l.length (u64s l)) (hf : ∀ x ∈ l, x < 18446744073709551616) (h : ¬good i l) :
    Calls Tryd.prog 16 #[.int .i64 i, .slice (some ⟨g, 0, none⟩) l.length cap] w fun e w' => e = .returned (.tuple #[.pointer none, .int .i64 30]) ∧ Below w.heap.size w w' := by
  by_cases hi : i < 0 ∨ 4096 < i
  · exact (of_out i hi _ w).mono fun e w' ⟨h1, h2⟩ => ⟨h1, h2 ▸ Below.refl _ _⟩
  · obtain ⟨n, rfl⟩ : ∃ n : Nat, i = (n : Int) := ⟨i.toNat, by omega⟩
    by_cases hl : l.length = (n + 63) / 64
    · cases hb : bey n l
      · exact absurd ⟨n, rfl, by omega, hl, hb⟩ h
      · exact of_bey hr hl (by omega) hf hb
    · exact of_len hr hl (by omega)
theorem refOf_bad {w : World} {i : Int} {v : Value} {l : List Nat} (hv : WordsAt w w.heap.size v l) (hm : l.length ≤ 1048576) (hf : ∀ x ∈ l, x < 18446744073709551616) (h : ¬good i l) :
    Calls Tryd.prog 17 #[.int .i64 i, v] w fun e w' => e = .returned (.tuple #[.agg #[.bool false, .slice none 0 0], .int .i64 30]) ∧ Below w.heap.size w w' := by
  by_cases hi : i < 0 ∨ 4096 < i
  · exact refOf_out i hi _ w
  · obtain ⟨n, rfl⟩ : ∃ n : Nat, i = (n : Int) := ⟨i.toNat, by omega⟩
    by_cases hl : l.length = (n + 63) / 64
    · refine (refOf_any n (by omega) v l w hv hl hf).mono ?_
      rintro e w' ⟨hb, ⟨_, he⟩ | ⟨hb2, _⟩⟩
      · exact ⟨he, hb⟩
      · exact absurd ⟨n, rfl, by omega, hl, hb2⟩ h
    · obtain ⟨a, c, rfl, _⟩ := hv
      exact refOf_len n (by omega) a _ c hl hm w

theorem refOf_good (n : Nat) (hn : n ≤ 4096) (v : Value) (l : List Nat) (w : World) (hv : WordsAt w w.heap.size v l) (hl : l.length = (n + 63) / 64) (hf : ∀ x ∈ l, x < 18446744073709551616) (hb : bey n l = false) :
    Calls Tryd.prog 17 #[.int .i64 (n : Int), v] w fun e w' => ∃ gb, e = .returned (.tuple #[.agg #[.bool true, .slice (some ⟨gb, 0, none⟩) n n], .int .i64 0]) ∧ w.heap.size ≤ gb ∧ w'.ownsRow 0 4 1 (.slice (some ⟨gb, 0, none⟩) n n) n (bools ((List.range n).map fun i => hasW l i)) ∧ Below w.heap.size w w' := by
  refine (refOf_any n hn v l w hv hl hf).mono ?_
  rintro e w' ⟨h, ⟨hb2, _⟩ | ⟨_, gb, h1, h2, h3⟩⟩
  · rw [hb] at hb2
    cases hb2
  · exact ⟨gb, h1, h2, h3, h⟩
theorem WordsAt.below_up {w w' : World} {v : Value} {l : List Nat} (h : WordsAt w w.heap.size v l) (hb : Below w.heap.size w w') : WordsAt w' w'.heap.size v l := by
  obtain ⟨a, c, e, hc⟩ := h.below hb
  exact ⟨a, c, e, fun j hj => by
    obtain ⟨b, off, e1, e2, e3⟩ := hc j hj
    have := hb.size
    exact ⟨b, off, e1, by omega, e3⟩⟩
/-- The words are copied. -/
theorem copyW {w : World} {v : Value} {l : List Nat} (hv : WordsAt w w.heap.size v l) (hl : l.length ≤ 1048576) (ty : TypeId) :
    ∃ g cap w', (Builtin.append_ #[43, 43] ty #[.slice (some ⟨w.heap.size, 0, none⟩) 0 0, v]).run Tryd.prog (w.alloc (.cells #[] 46)) = .ok (.slice (some ⟨g, 0, none⟩) l.length cap) w' ∧
      w'.ownsRow w.heap.size 46 1 (.slice (some ⟨g, 0, none⟩) l.length cap) l.length (u64s l) ∧ w.heap.size ≤ g ∧ Below w.heap.size w w' := by
  obtain ⟨i0, hi, hz0, hz1, hz2⟩ := info_parts infoWord
  have hown := World.ownsRow_made (base := w.heap.size) (e := 46) (size := 1) w #[] 0 (Nat.le_refl _) (by unfold maxLen; omega) rfl
  obtain ⟨a, c, rfl, hc⟩ := hv
  cases a with
  | none =>
    cases l with
    | nil =>
      refine ⟨w.heap.size, 0, w.alloc (.cells #[] 46), ?_, hown, Nat.le_refl _, (Below.refl _ _).alloc (Nat.le_refl _) _⟩
      simp [Builtin.append_, run_underlying Tryd.underlying43, sizeOf, typeInfo, hi, Builtin.lenOf, Builtin.firstCells, storeCells]
    | cons x l =>
      obtain ⟨b, off, e, _⟩ := hc 0 (by simp)
      cases e
  | some a =>
    obtain ⟨v', w1, hrun, A1, A2, A3⟩ := run_append_own (P := Tryd.prog) (w.alloc (.cells #[] 46)) w.heap.size 43 ty 46 i0 (.int .u64 0) 1 8 Tryd.underlying43 hi hz0 hz1 hz2 rfl (by decide) _ 0 [] hown a l.length c (u64s l) (by rw [u64s_length]; omega) (fun j u hj => by
      have hjl : j < l.length := by
        have := (List.getElem?_eq_some_iff.1 hj).1
        rw [u64s_length] at this
        exact this
      rw [u64s_get l j hjl] at hj
      cases hj
      obtain ⟨b, off, e, hb, hcell⟩ := hc j hjl
      cases e
      rw [Addr.add_lit]
      exact (((Below.refl w.heap.size w).alloc (Nat.le_refl _) _).cell hb).trans hcell) (u64s_one l) (by unfold maxLen; omega) (by omega) (by simp)
    have hbel : Below w.heap.size w w1 := ((Below.refl _ _).alloc (Nat.le_refl _) _).grown A2 (by simp) (fun k hk => by simp [Value.ownBlock] at hk; omega)
    rw [List.nil_append, Nat.zero_add] at A1
    obtain ⟨g', cap', rfl, hg⟩ := row_is A1 (fun e => by simpa using A3.1 e)
    exact ⟨g', cap', w1, hrun, A1, hg, hbel⟩

/-- What stands in the loop that writes the words over: from k on they are as they were. -/
structure OvI (X : World) (base g cap : Nat) (l : List Nat) (k : Nat) (W : World) : Prop where
  row : ∃ m : List Nat, m.length = l.length ∧ (∀ j, k ≤ j → m[j]? = l[j]?) ∧ W.ownsRow base 46 1 (.slice (some ⟨g, 0, none⟩) l.length cap) l.length (u64s m)
  gr : X.grownBy W (some g)
theorem OvI.get {X : World} {base g cap : Nat} {l : List Nat} {k : Nat} {W : World} (h : OvI X base g cap l k W) (hk : k < l.length) :
    W.cell? ⟨g, k, none⟩ = some (.int .u64 (l[k] : Int)) ∧ W.frozen? ⟨g, k, none⟩ = false ∧ ∀ nd, OvI X base g cap l (k + 1) ((W.drewN nd).setCell ⟨g, k, none⟩ (.int .u64 5)) := by
  obtain ⟨m, hm, hs, hr⟩ := h.row
  refine ⟨(hr.cellAt k (by omega)).trans ?_, hr.frozenAt k, fun nd => ⟨⟨m.set k 5, by simp [hm], fun j hj => by rw [List.getElem?_set_ne (by omega)]; exact hs j (by omega), ?_⟩, ?_⟩⟩
  · rw [u64s_get m k (by omega)]
    have := hs k (Nat.le_refl _)
    rw [List.getElem?_eq_getElem (by omega), List.getElem?_eq_getElem hk] at this
    rw [Option.some.inj this]
  · have h2 : (W.drewN nd).ownsRow base 46 1 (.slice (some ⟨g, 0, none⟩) l.length cap) l.length (u64s m) := hr
    have := (h2.stored k (.int .u64 5)).1
    rw [show (Value.int .u64 5) = .int .u64 ((5 : Nat) : Int) from rfl, u64s_set] at this
    exact this
  · exact ⟨h.gr.os, h.gr.tape, h.gr.output, by simpa [World.setCell] using h.gr.size, fun j hj hne => (Below.heap_setCell _ _ _ _ (by simp; intro e; exact hne (by rw [e]))).trans (h.gr.block j hj hne)⟩

set_option maxRecDepth 100000 in
set_option maxHeartbeats 2000000 in
theorem bitsOf_bad (i : Int) (v : Value) (l : List Nat) (w : World) (ht : Tab w) (hv : WordsAt w w.heap.size v l) (hm : l.length ≤ 1048576) (hf : ∀ x ∈ l, x < 18446744073709551616) (h : ¬good i l) :
    Calls Tryd.prog 4 #[.int .i64 i, v] w fun e w' => e = .returned (.bool true) ∧ Below w.heap.size w w' := by
  have HV := hide hv
  obtain ⟨g, cap, w1, hrun, A1, hg, B1⟩ := copyW hv hm 43
  obtain ⟨a, c, rfl, _⟩ := hv
  have HR := hide hrun
  have HO := hide (of_bad A1 hf h)
  have glt := (A1.lt g rfl).2
  have A := hide A1
  have HP := hide (fun w' (b : Below w.heap.size w w') => refOf_bad (i := i) (WordsAt.below_up HV.out b) hm hf h)
  clear hrun A1 hf h
  go_enter Tryd.func4, Tryd.ntmps4
  go_wp2_with (at_builtin; refine Lib.wpList_append_run _ rfl (.tmp 12) (.tmp 13) 43 43 rfl _ _ rfl rfl _ _ HR.out ?_)
  go_wp2_with (go_at_call 16; refine HO.out.mono ?_; clear HO; rintro e w2 ⟨rfl, b⟩; have B2 := hide b; clear b)
  go_wp2_with (go_at_call 17; refine (HP.out _ (B1.trans (B2.out.mono B1.size))).mono ?_; clear HP; rintro e w3 ⟨rfl, b⟩; have B3 := hide b; clear b)
  have bX : Below w.heap.size w (w3.alloc (.cells #[.bool false, .slice none 0 0] 29)) := ((B1.trans (B2.out.mono B1.size)).trans (B3.out.mono (by have := B1.size; have := B2.out.size; omega))).alloc (by have := B1.size; have := B2.out.size; have := B3.out.size; omega) _
  have rX : (w3.alloc (.cells #[.bool false, .slice none 0 0] 29)).ownsRow w.heap.size 46 1 (.slice (some ⟨g, 0, none⟩) l.length cap) l.length (u64s l) := (below_row (below_row A.out B2.out (Nat.le_refl _)) B3.out (Nat.le_refl _)).alloc _
  generalize w3.heap.size = pb
  generalize w3.alloc (.cells #[.bool false, .slice none 0 0] 29) = X at *
  clear B2 B3 A HR B1 glt w2 w3 w1
  go_loopw [10] (fun i wr => ∃ k : Nat, k ≤ l.length ∧ i = .int .i64 k ∧ OvI X w.heap.size g cap l k wr) (fun i _ => l.length - (intOf i).toNat)
  case atStart => exact ⟨0, Nat.zero_le _, rfl, ⟨⟨l, rfl, fun _ _ => rfl, rX⟩, grown_refl _ _⟩⟩
  case round =>
    obtain ⟨k, hk, rfl, hI⟩ := hrel
    have bW : Below w.heap.size w wr := below_gr bX hI.gr hg (Nat.le_refl _)
    by_cases hlt : k < l.length
    · obtain ⟨a', c', ea, hc⟩ := HV.out.below bW
      simp only [Value.slice.injEq, true_and] at ea
      obtain ⟨rfl, rfl⟩ := ea
      obtain ⟨b, off, rfl, _, hcell⟩ := hc k hlt
      obtain ⟨gc, gf, hN⟩ := hI.get hlt
      have HN := hide hN
      have hne : ((l[k] : Int) != (l[k] : Int)) = false := by simp
      have p0 : (0 : Int) ≤ (k : Int) := by omega
      have p1 : (k : Int) < (l.length : Int) := by omega
      clear hN hc hI bW HV rX
      generalize l[k] = x at *
      go_wp2
      go_quiet (fail)
      go_wp2
      go_roundw
      case rel => exact ⟨k + 1, by omega, by go_num, HN.out _⟩
      case measure => simp [intOf]; omega
    · have HH := hide (heads_k wr (ht.below bW ht.lt))
      clear hI rX HV
      go_wp2_with (go_at_call 10; refine HH.out.mono ?_; clear HH; rintro e w4 ⟨rfl, b4⟩)
      go_ret
      exact ⟨rfl, bW.trans (b4.mono bW.size)⟩

set_option maxRecDepth 100000 in
set_option maxHeartbeats 2000000 in
theorem bitsOf_good (n : Nat) (hn : n ≤ 4096) (v : Value) (l : List Nat) (w : World) (ht : Tab w) (hv : WordsAt w w.heap.size v l) (hl : l.length = (n + 63) / 64) (hf : ∀ x ∈ l, x < 18446744073709551616) (hb : bey n l = false) :
    Calls Tryd.prog 4 #[.int .i64 (n : Int), v] w fun e w' => e = .returned (.bool true) ∧ Below w.heap.size w w' := by
  have HV := hide hv
  have hm : l.length ≤ 1048576 := by omega
  obtain ⟨g, cap, w1, hrun, A1, hg, B1⟩ := copyW hv hm 43
  obtain ⟨a, c, rfl, _⟩ := hv
  have HR := hide hrun
  have HO := hide (of_k A1 hl hn hf hb)
  have glt := (A1.lt g rfl).2
  have A := hide A1
  have HP := hide (fun w' (b : Below w.heap.size w w') => refOf_good n hn _ l w' (WordsAt.below_up HV.out b) hl hf hb)
  have RL := hide (bey_rel hl hf hb)
  clear hrun A1 hf hl
  go_enter Tryd.func4, Tryd.ntmps4
  go_wp2_with (at_builtin; refine Lib.wpList_append_run _ rfl (.tmp 12) (.tmp 13) 43 43 rfl _ _ rfl rfl _ _ HR.out ?_)
  go_wp2_with (go_at_call 16; refine HO.out.mono ?_; clear HO; rintro e w2 ⟨rfl, s, b⟩; have S2 := hide s; have B2 := hide b; clear b s)
  go_wp2_with (go_at_call 17; refine (HP.out _ (B1.trans (B2.out.mono B1.size))).mono ?_; clear HP; rintro e w3 ⟨gb, rfl, c1, c2, b⟩; have B3 := hide b; have R3 := hide (And.intro c1 c2); clear b c1 c2)
  have z2 := B2.out.size
  have z3 := B3.out.size
  have z1 := B1.size
  obtain ⟨gl, R4⟩ := R3.out
  have gt := (R4.lt gb rfl).2
  have bX : Below w.heap.size w (w3.alloc (.cells #[.bool true, .slice (some ⟨gb, 0, none⟩) n n] 29)) := ((B1.trans (B2.out.mono B1.size)).trans (B3.out.mono (by omega))).alloc (by omega) _
  have rX : (w3.alloc (.cells #[.bool true, .slice (some ⟨gb, 0, none⟩) n n] 29)).ownsRow w.heap.size 46 1 (.slice (some ⟨g, 0, none⟩) l.length cap) l.length (u64s l) := (below_row (below_row A.out B2.out (Nat.le_refl _)) B3.out (Nat.le_refl _)).alloc _
  have sX := (S2.out.below B3.out S2.out.lt S2.out.glt).alloc (.cells #[.bool true, .slice (some ⟨gb, 0, none⟩) n n] 29)
  have pX : RefAt (w3.alloc (.cells #[.bool true, .slice (some ⟨gb, 0, none⟩) n n] 29)) w3.heap.size gb n ((List.range n).map fun i => hasW l i) := by
    refine ⟨?_, ?_, by simpa using hn⟩
    · rw [List.length_map, List.length_range]
      exact World.alloc_heap_new _ _
    · rw [List.length_map, List.length_range]
      exact R4.alloc _
  have q1 : g ≠ w1.heap.size := by omega
  have q2 : g ≠ w1.heap.size + 1 := by omega
  have q3 : g ≠ w3.heap.size := by omega
  have q4 : g ≠ gb := by omega
  have q5 : w1.heap.size ≠ 0 := by have := ht.lt; omega
  have q6 : w.heap.size ≤ w1.heap.size := z1
  generalize w3.heap.size = pb at *
  generalize w3.alloc (.cells #[.bool true, .slice (some ⟨gb, 0, none⟩) n n] 29) = X at *
  clear B2 B3 A HR B1 R3 R4 S2 glt gl gt hb z1 z2 z3 w2 w3
  have SX := hide sX
  have PX := hide pX
  clear sX pX
  go_loopw [10] (fun i wr => ∃ k : Nat, k ≤ l.length ∧ i = .int .i64 k ∧ OvI X w.heap.size g cap l k wr) (fun i _ => l.length - (intOf i).toNat)
  case atStart => exact ⟨0, Nat.zero_le _, rfl, ⟨⟨l, rfl, fun _ _ => rfl, rX⟩, grown_refl _ _⟩⟩
  case round =>
    obtain ⟨k, hk, rfl, hI⟩ := hrel
    have bW : Below w.heap.size w wr := below_gr bX hI.gr hg (Nat.le_refl _)
    by_cases hlt : k < l.length
    · obtain ⟨a', c', ea, hc⟩ := HV.out.below bW
      simp only [Value.slice.injEq, true_and] at ea
      obtain ⟨rfl, rfl⟩ := ea
      obtain ⟨b, off, rfl, _, hcell⟩ := hc k hlt
      obtain ⟨gc, gf, hN⟩ := hI.get hlt
      have HN := hide hN
      have hne : ((l[k] : Int) != (l[k] : Int)) = false := by simp
      have p0 : (0 : Int) ≤ (k : Int) := by omega
      have p1 : (k : Int) < (l.length : Int) := by omega
      clear hN hc hI bW HV rX SX PX RL
      generalize l[k] = x at *
      go_wp2
      go_quiet (fail)
      go_wp2
      go_roundw
      case rel => exact ⟨k + 1, by omega, by go_num, HN.out _⟩
      case measure => simp [intOf]; omega
    · have HH := hide (heads_k wr (ht.below bW ht.lt))
      have SW := hide (SX.out.kept hI.gr (by simpa using q2) (by simpa using q1))
      have PW := hide (PX.out.kept hI.gr (by simpa using q3) (by simpa using q4))
      clear hI rX HV SX PX
      go_wp2_with (first
        | (go_at_call 10; refine HH.out.mono ?_; clear HH; rintro e w4 ⟨rfl, b⟩; have B4 := hide b; clear b)
        | (go_at_call 12; refine (tells_k (SW.out.below B4.out SW.out.lt SW.out.glt) (PW.out.below B4.out PW.out.lt PW.out.glt) RL.out (by simp) 0 ((ht.below bW ht.lt).below B4.out (by have := bW.size; have := ht.lt; omega)) q5).mono ?_; rintro e w5 ⟨rfl, _, b⟩; have B5 := hide b; clear b))
      go_ret
      exact ⟨rfl, below_gr (bW.trans (B4.out.mono bW.size)) B5.out q6 (Nat.le_refl _)⟩
theorem bitsOf_walk (i : Int) (v : Value) (l : List Nat) (w : World) (ht : Tab w) (hv : WordsAt w w.heap.size v l) (hf : ∀ x ∈ l, x < 18446744073709551616) (hm : l.length ≤ 1048576) :
    Calls Tryd.prog 4 #[.int .i64 i, v] w fun e w' => e = .returned (.bool true) ∧ Below w.heap.size w w' := by
  by_cases h : good i l
  · obtain ⟨n, rfl, hn, hl, hb⟩ := h
    exact bitsOf_good n hn v l w ht hv hl hf hb
  · exact bitsOf_bad i v l w ht hv hm hf h
end Go.Proofs.YtlgkbjhpjjmljaaDoor
