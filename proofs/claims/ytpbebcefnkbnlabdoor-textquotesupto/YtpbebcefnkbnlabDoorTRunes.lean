/- What text.Runes goes through: each rune of the text with its spot. -/
import Derived.Test.YtpbebcefnkbnlabDoorTSpot
namespace Go.Proofs.YtpbebcefnkbnlabDoor
open Go.RowKit
attribute [local go_sem] Oper.semAt_some

/-- A block that holds a spot. -/
def At3 (W : World) (A : Nat) (a b c : Int) : Prop := W.heap[A]? = some (.cells #[.int .i64 a, .int .i64 b, .int .i64 c] 71 (0, 0))

theorem At3.cells {W : World} {A : Nat} {a b c : Int} (h : At3 W A a b c) : W.cell? ⟨A, 0, none⟩ = some (.int .i64 a) ∧ W.cell? ⟨A, 1, none⟩ = some (.int .i64 b) ∧ W.cell? ⟨A, 2, none⟩ = some (.int .i64 c) ∧ W.frozen? ⟨A, 0, none⟩ = false ∧ W.frozen? ⟨A, 1, none⟩ = false ∧ W.frozen? ⟨A, 2, none⟩ = false := by
  refine ⟨?_, ?_, ?_, ?_, ?_, ?_⟩ <;> simp [World.cell?, World.frozen?, show W.heap[A]? = _ from h]
theorem At3.set0 {W : World} {A : Nat} {a b c : Int} (h : At3 W A a b c) (x : Int) : At3 (W.setCell ⟨A, 0, none⟩ (.int .i64 x)) A x b c := by
  simp [At3, World.setCell, Array.getElem?_modify, show W.heap[A]? = _ from h]
theorem At3.set1 {W : World} {A : Nat} {a b c : Int} (h : At3 W A a b c) (x : Int) : At3 (W.setCell ⟨A, 1, none⟩ (.int .i64 x)) A a x c := by
  simp [At3, World.setCell, Array.getElem?_modify, show W.heap[A]? = _ from h]
theorem At3.set2 {W : World} {A : Nat} {a b c : Int} (h : At3 W A a b c) (x : Int) : At3 (W.setCell ⟨A, 2, none⟩ (.int .i64 x)) A a b x := by
  simp [At3, World.setCell, Array.getElem?_modify, show W.heap[A]? = _ from h]
theorem At3.alloc {W : World} {A : Nat} {a b c : Int} (h : At3 W A a b c) (o : Obj) : At3 (W.alloc o) A a b c :=
  (Below.heap_alloc W o A (Array.getElem?_eq_some_iff.1 h).1).trans h

/-- What the iterator's own block is: a spot's. -/
def isSpot (o : Obj) : Prop := ∃ c z, o = .cells c 71 z
theorem At3.ka {W : World} {A : Nat} {a b c : Int} (h : At3 W A a b c) : ∃ o : Obj, W.heap[A]? = some o ∧ isSpot o := ⟨_, h, _, _, rfl⟩

def elV (x : El) : Array Value := #[.agg #[.int .i64 x.off, .int .i64 x.line, .int .i64 x.col], .int .i32 x.r]

set_option maxRecDepth 100000 in
set_option maxHeartbeats 2000000 in
theorem runes_seq (n : Nat) (s : ByteArray) (hs : s.size ≤ 281474976702464) (sb : Nat) (w : World) (hsb : Boxed w sb 9 (.string s)) :
    Seq n Tryd.prog 46 #[.pointer (some ⟨sb, 0, none⟩)] elV sb (w.heap.size + 3) isSpot (els s.data.toList) w := fun l J Jx W hWs hWlow hJ hJx hY h0 => by
  have hsbW : Boxed W sb 9 (.string s) := (hWlow sb hsb.lt).trans hsb
  have hc2 : ∀ o1 o2, ((W.alloc o1).alloc o2).cell? ⟨sb, 0, none⟩ = some (.string s) := fun o1 o2 => ((hsbW.alloc o1).alloc o2).cell
  have hA : w.heap.size + 3 = W.heap.size + 1 := by omega
  rw [hA] at hJ hJx hY
  have HWs := hide hWs
  have HA := hide hA
  clear hWs hWlow hA
  have hrg := fun w' => run_range_string (P := Tryd.prog) w' 9 s Tryd.underlying9
  refine callsIn_of_wp Tryd.func46 rfl trivial ?_ rfl
  simp only [Tryd.ntmps46, List.size_toArray, List.length_cons, List.length_nil, Nat.reduceAdd, Nat.reduceSub, Array.replicate_succ, Array.replicate_zero, List.push_toArray, List.append_toArray, List.nil_append, List.cons_append]
  gi_wp2_with (refine ⟨trivial, (fun h => by cases h), ?_⟩; gi_at_call 47; refine (callsIn_wide.2 (first_k _)).mono ?_; rintro e w1 ⟨rfl, rfl⟩)
  gi_loopw [4, 5] (fun _ _ wr => ∃ (k line col : Nat) (a : Int) (pre : List El), k ≤ s.size ∧ line ≤ k + 1 ∧ col ≤ k + 1 ∧ At3 wr (W.heap.size + 1) a line col ∧ wr.heap[W.heap.size + 2]? = some (.stringIter s k) ∧ Boxed wr sb 9 (.string s) ∧ els s.data.toList = pre ++ elS k line col (ru (s.data.toList.drop k)) ∧ J pre wr)
    (fun _ _ wr => s.size - wr.iterPos (W.heap.size + 2))
  case atStart =>
    refine ⟨0, 1, 1, 0, [], Nat.zero_le _, Nat.le_refl _, Nat.le_refl _, ?_, ?_, ?_, by simp [els], ?_⟩
    · exact At3.alloc (heap_alloc2_new W _ _) _
    · have := World.iter_heap ((W.alloc (.cells #[.int .i64 0, .int .i64 1, .int .i64 1] 71)).alloc (.cells #[.int .i64 0, .int .i64 1, .int .i64 1] 71)) s 0
      simp only [World.size_alloc] at this
      exact this
    · exact ((hsbW.alloc _).alloc _).alloc _
    · exact hJ.alloc _ (hJ.alloc _ (hJ.alloc _ h0))
  case round =>
    obtain ⟨k, line, col, a, pre, hk, hline, hcol, hat, hit, hbx, hels, hJr⟩ := hrel
    have hpos : wr.iterPos (W.heap.size + 2) = k := by simp [World.iterPos, hit]
    have hsW : W.heap.size + 2 < wr.heap.size := (Array.getElem?_eq_some_iff.1 hit).1
    clear hrg
    by_cases hlt : k < s.size
    · have hne : s.data.toList.drop k ≠ [] := by
        intro e
        have := congrArg List.length e
        simp at this
        have h2 : s.data.size = s.size := rfl
        omega
      have hd := Lib.decodeL_drop s k
      have hw1 : (Utf8.decode s k).2 = wd (s.data.toList.drop k) := by rw [wd, hd]
      have hwd := wd_pos (s.data.toList.drop k)
      have hwl := wd_le _ hne
      rw [List.length_drop] at hwl
      have hlen : s.data.toList.length = s.size := by rw [Array.length_toList]; rfl
      have hnx := fun ty => Lib.run_next_any_at (P := Tryd.prog) wr (W.heap.size + 2) s k ty hit hlt
      have hru := ru_step _ hne
      rw [List.drop_drop] at hru
      have htold := rv_told (s.data.toList.drop k)
      rw [hd] at htold
      have hrlo := rv_lo (s.data.toList.drop k)
      have hrhi := rv_hi (s.data.toList.drop k)
      rw [hw1] at hnx
      rw [hru, elS_step] at hels
      have hdl : (Utf8.decode s k).1 ≤ 1114111 := by rw [← hd]; exact Lib.decodeL_rune _
      generalize (Utf8.decode s k).1 = dr at *
      generalize rv (s.data.toList.drop k) = rr at *
      generalize wd (s.data.toList.drop k) = ww at *
      have hat2 : At3 (wr.iterAt (W.heap.size + 2) s (k + ww)) (W.heap.size + 1) a line col := (Lib.iterAt_other _ _ _ _ _ (by omega)).trans hat
      obtain ⟨b0, b1, b2, g0, g1, g2⟩ := hat2.cells
      have hat3 := hat2.set0 (k : Int)
      obtain ⟨c0, c1, c2, _, _, _⟩ := hat3.cells
      have hsl := hsb.lt
      have hbx3 : Boxed ((wr.iterAt (W.heap.size + 2) s (k + ww)).setCell ⟨W.heap.size + 1, 0, none⟩ (.int .i64 k)) sb 9 (.string s) :=
        (hbx.kept (grown_iter _ _ _ _) (by have := HWs.out; simp; omega)).kept (grown_set _ _ _ _) (by have := HWs.out; simp; omega)
      have e3 := hbx3.cell
      have hit3 : ((wr.iterAt (W.heap.size + 2) s (k + ww)).setCell ⟨W.heap.size + 1, 0, none⟩ (.int .i64 k)).heap[W.heap.size + 2]? = some (.stringIter s (k + ww)) := (Below.heap_setCell _ _ _ _ (by simp)).trans (Lib.iterAt_heap wr _ s k (k + ww) hit)
      have hJ3 := hJ.set (by have := HWs.out; omega) hat2.ka 0 (.int .i64 k) (hJ.iter (by have := HWs.out; omega) hit (k + ww) hJr)
      obtain ⟨fn, tmps, assign, body, hy, hR⟩ := hY pre ⟨k, line, col, rr⟩ _ hJ3 ⟨_, hels⟩ hat3.ka
      have HL := hide hline
      have HC := hide hcol
      have HT := hide htold
      clear htold
      by_cases hd1 : dr = 65533
      · subst hd1
        by_cases hp : Lib.hasPrefix (s.data.toList.drop k) [239, 191, 189] = true
        · have hrr : rr = 65533 := by rw [HT.out, if_neg (fun h => by rw [hp] at h; exact absurd h.2 (by decide))]; rfl
          subst hrr
          have hpn : Lib.hasPrefix (List.take (s.size - k) (List.drop k s.data.toList)) [239, 191, 189] = true := by rw [List.take_of_length_le (by rw [List.length_drop, hlen]; exact Nat.le_refl _)]; exact hp
          dsimp only [elV] at hy
          gi_wp2_with (first
            | (refine ⟨trivial, (fun h => by cases h), ?_⟩; gi_at_call 48; refine (callsIn_wide.2 (Tryd.strings_HasPrefix _ _ _)).mono ?_; rintro e w' ⟨rfl, rfl⟩))
          refine ⟨(fun h => by cases h), hR.mono ?_⟩
          rintro e W4 (⟨rfl, hJ4, hk4⟩ | ⟨rfl, hJx4⟩)
          · have hat4 : At3 W4 (W.heap.size + 1) k line col := hk4.own _ hat3
            have hit4 := hk4.other _ _ (by have := HWs.out; omega) hit3 rfl
            have hbx4 : Boxed W4 sb 9 (.string s) := hk4.box _ hbx3
            obtain ⟨d0, d1, d2, f0, f1, f2⟩ := hat4.cells
            gi_wp2_with (refine ⟨trivial, (fun h => by cases h), ?_⟩; gi_at_call 49; refine (callsIn_wide.2 (behind_k k line col _ _ (by omega) (by omega))).mono ?_; rintro e w5 ⟨rfl, o1, o2, rfl⟩; have hat5 := (hat4.alloc o1).alloc o2; obtain ⟨d50, d51, d52, f50, f51, f52⟩ := hat5.cells; have hat6 := hat5.set0 (k : Int); obtain ⟨d60, d61, d62, f60, f61, f62⟩ := hat6.cells; have hat7 := hat6.set1 (bLine line 65533 : Nat); obtain ⟨d70, d71, d72, f70, f71, f72⟩ := hat7.cells; have hat8 := hat7.set2 (bCol col 65533 : Nat))
            have hb3 : W.heap.size + 2 < W4.heap.size := (Array.getElem?_eq_some_iff.1 hit4).1
            have hJ8 := hJ.set (by have := HWs.out; omega) hat7.ka 2 (.int .i64 (bCol col 65533 : Nat)) (hJ.set (by have := HWs.out; omega) hat6.ka 1 (.int .i64 (bLine line 65533 : Nat)) (hJ.set (by have := HWs.out; omega) hat5.ka 0 (.int .i64 k) (hJ.alloc o2 (hJ.alloc o1 hJ4))))
            have hit8 : (((((W4.alloc o1).alloc o2).setCell ⟨W.heap.size + 1, 0, none⟩ (.int .i64 k)).setCell ⟨W.heap.size + 1, 1, none⟩ (.int .i64 (bLine line 65533 : Nat))).setCell ⟨W.heap.size + 1, 2, none⟩ (.int .i64 (bCol col 65533 : Nat))).heap[W.heap.size + 2]? = some (.stringIter s (k + ww)) := by
              rw [Below.heap_setCell _ _ _ _ (by simp), Below.heap_setCell _ _ _ _ (by simp), Below.heap_setCell _ _ _ _ (by simp), Below.heap_alloc _ _ _ (by simp; omega), Below.heap_alloc _ _ _ (by omega)]
              exact hit4
            have hbx8 := ((((hbx4.alloc o1).alloc o2).kept (grown_set _ (W.heap.size + 1) 0 (.int .i64 k)) (by have := HWs.out; simp; omega)).kept (grown_set _ (W.heap.size + 1) 1 (.int .i64 (bLine line 65533 : Nat))) (by have := HWs.out; simp; omega)).kept (grown_set _ (W.heap.size + 1) 2 (.int .i64 (bCol col 65533 : Nat))) (by have := HWs.out; simp; omega)
            go_roundw
            case rel =>
              refine ⟨k + ww, bLine line 65533, bCol col 65533, k, pre ++ [⟨k, line, col, 65533⟩], by omega, ?_, ?_, hat8, hit8, hbx8, ?_, hJ8⟩
              · have := HL.out
                unfold bLine
                split <;> omega
              · have := HC.out
                unfold bCol
                split <;> omega
              · rw [hels]
                simp
            case measure =>
              have hp8 : ((((((W4.alloc o1).alloc o2).setCell ⟨W.heap.size + 1, 0, none⟩ (.int .i64 k)).setCell ⟨W.heap.size + 1, 1, none⟩ (.int .i64 (bLine line 65533 : Nat))).setCell ⟨W.heap.size + 1, 2, none⟩ (.int .i64 (bCol col 65533 : Nat)))).iterPos (W.heap.size + 2) = k + ww := by simp only [World.iterPos, hit8]
              rw [hp8, hpos]
              omega
          · gi_wp2
            refine bodyPost_ret (results_none rfl _ _ _) rfl ?_
            exact ⟨⟨_, rfl⟩, .inr ⟨_, _, _, hels, hJx4⟩⟩
        · have hpf : Lib.hasPrefix (s.data.toList.drop k) [239, 191, 189] = false := by simpa using hp
          have hrr : rr = -1 := by rw [HT.out, if_pos ⟨rfl, hpf⟩]
          subst hrr
          have hpn : Lib.hasPrefix (List.take (s.size - k) (List.drop k s.data.toList)) [239, 191, 189] = false := by rw [List.take_of_length_le (by rw [List.length_drop, hlen]; exact Nat.le_refl _)]; exact hpf
          dsimp only [elV] at hy
          gi_wp2_with (first
            | (refine ⟨trivial, (fun h => by cases h), ?_⟩; gi_at_call 48; refine (callsIn_wide.2 (Tryd.strings_HasPrefix _ _ _)).mono ?_; rintro e w' ⟨rfl, rfl⟩))
          refine ⟨(fun h => by cases h), hR.mono ?_⟩
          rintro e W4 (⟨rfl, hJ4, hk4⟩ | ⟨rfl, hJx4⟩)
          · have hat4 : At3 W4 (W.heap.size + 1) k line col := hk4.own _ hat3
            have hit4 := hk4.other _ _ (by have := HWs.out; omega) hit3 rfl
            have hbx4 : Boxed W4 sb 9 (.string s) := hk4.box _ hbx3
            obtain ⟨d0, d1, d2, f0, f1, f2⟩ := hat4.cells
            gi_wp2_with (refine ⟨trivial, (fun h => by cases h), ?_⟩; gi_at_call 49; refine (callsIn_wide.2 (behind_k k line col _ _ (by omega) (by omega))).mono ?_; rintro e w5 ⟨rfl, o1, o2, rfl⟩; have hat5 := (hat4.alloc o1).alloc o2; obtain ⟨d50, d51, d52, f50, f51, f52⟩ := hat5.cells; have hat6 := hat5.set0 (k : Int); obtain ⟨d60, d61, d62, f60, f61, f62⟩ := hat6.cells; have hat7 := hat6.set1 (bLine line (-1) : Nat); obtain ⟨d70, d71, d72, f70, f71, f72⟩ := hat7.cells; have hat8 := hat7.set2 (bCol col (-1) : Nat))
            have hb3 : W.heap.size + 2 < W4.heap.size := (Array.getElem?_eq_some_iff.1 hit4).1
            have hJ8 := hJ.set (by have := HWs.out; omega) hat7.ka 2 (.int .i64 (bCol col (-1) : Nat)) (hJ.set (by have := HWs.out; omega) hat6.ka 1 (.int .i64 (bLine line (-1) : Nat)) (hJ.set (by have := HWs.out; omega) hat5.ka 0 (.int .i64 k) (hJ.alloc o2 (hJ.alloc o1 hJ4))))
            have hit8 : (((((W4.alloc o1).alloc o2).setCell ⟨W.heap.size + 1, 0, none⟩ (.int .i64 k)).setCell ⟨W.heap.size + 1, 1, none⟩ (.int .i64 (bLine line (-1) : Nat))).setCell ⟨W.heap.size + 1, 2, none⟩ (.int .i64 (bCol col (-1) : Nat))).heap[W.heap.size + 2]? = some (.stringIter s (k + ww)) := by
              rw [Below.heap_setCell _ _ _ _ (by simp), Below.heap_setCell _ _ _ _ (by simp), Below.heap_setCell _ _ _ _ (by simp), Below.heap_alloc _ _ _ (by simp; omega), Below.heap_alloc _ _ _ (by omega)]
              exact hit4
            have hbx8 := ((((hbx4.alloc o1).alloc o2).kept (grown_set _ (W.heap.size + 1) 0 (.int .i64 k)) (by have := HWs.out; simp; omega)).kept (grown_set _ (W.heap.size + 1) 1 (.int .i64 (bLine line (-1) : Nat))) (by have := HWs.out; simp; omega)).kept (grown_set _ (W.heap.size + 1) 2 (.int .i64 (bCol col (-1) : Nat))) (by have := HWs.out; simp; omega)
            go_roundw
            case rel =>
              refine ⟨k + ww, bLine line (-1), bCol col (-1), k, pre ++ [⟨k, line, col, (-1)⟩], by omega, ?_, ?_, hat8, hit8, hbx8, ?_, hJ8⟩
              · have := HL.out
                unfold bLine
                split <;> omega
              · have := HC.out
                unfold bCol
                split <;> omega
              · rw [hels]
                simp
            case measure =>
              have hp8 : ((((((W4.alloc o1).alloc o2).setCell ⟨W.heap.size + 1, 0, none⟩ (.int .i64 k)).setCell ⟨W.heap.size + 1, 1, none⟩ (.int .i64 (bLine line (-1) : Nat))).setCell ⟨W.heap.size + 1, 2, none⟩ (.int .i64 (bCol col (-1) : Nat)))).iterPos (W.heap.size + 2) = k + ww := by simp only [World.iterPos, hit8]
              rw [hp8, hpos]
              omega
          · gi_wp2
            refine bodyPost_ret (results_none rfl _ _ _) rfl ?_
            exact ⟨⟨_, rfl⟩, .inr ⟨_, _, _, hels, hJx4⟩⟩
      · have hrr : rr = (dr : Int) := by rw [HT.out, if_neg (fun h => hd1 h.1)]
        subst hrr
        dsimp only [elV] at hy
        gi_wp2_with (first
          | (refine ⟨trivial, (fun h => by cases h), ?_⟩; gi_at_call 48; refine (callsIn_wide.2 (Tryd.strings_HasPrefix _ _ _)).mono ?_; rintro e w' ⟨rfl, rfl⟩))
        refine ⟨trivial, ?_⟩
        gi_wp2
        refine ⟨(fun h => by cases h), hR.mono ?_⟩
        rintro e W4 (⟨rfl, hJ4, hk4⟩ | ⟨rfl, hJx4⟩)
        · have hat4 : At3 W4 (W.heap.size + 1) k line col := hk4.own _ hat3
          have hit4 := hk4.other _ _ (by have := HWs.out; omega) hit3 rfl
          have hbx4 : Boxed W4 sb 9 (.string s) := hk4.box _ hbx3
          obtain ⟨d0, d1, d2, f0, f1, f2⟩ := hat4.cells
          gi_wp2_with (refine ⟨trivial, (fun h => by cases h), ?_⟩; gi_at_call 49; refine (callsIn_wide.2 (behind_k k line col _ _ (by omega) (by omega))).mono ?_; rintro e w5 ⟨rfl, o1, o2, rfl⟩; have hat5 := (hat4.alloc o1).alloc o2; obtain ⟨d50, d51, d52, f50, f51, f52⟩ := hat5.cells; have hat6 := hat5.set0 (k : Int); obtain ⟨d60, d61, d62, f60, f61, f62⟩ := hat6.cells; have hat7 := hat6.set1 (bLine line dr : Nat); obtain ⟨d70, d71, d72, f70, f71, f72⟩ := hat7.cells; have hat8 := hat7.set2 (bCol col dr : Nat))
          have hb3 : W.heap.size + 2 < W4.heap.size := (Array.getElem?_eq_some_iff.1 hit4).1
          have hJ8 := hJ.set (by have := HWs.out; omega) hat7.ka 2 (.int .i64 (bCol col dr : Nat)) (hJ.set (by have := HWs.out; omega) hat6.ka 1 (.int .i64 (bLine line dr : Nat)) (hJ.set (by have := HWs.out; omega) hat5.ka 0 (.int .i64 k) (hJ.alloc o2 (hJ.alloc o1 hJ4))))
          have hit8 : (((((W4.alloc o1).alloc o2).setCell ⟨W.heap.size + 1, 0, none⟩ (.int .i64 k)).setCell ⟨W.heap.size + 1, 1, none⟩ (.int .i64 (bLine line dr : Nat))).setCell ⟨W.heap.size + 1, 2, none⟩ (.int .i64 (bCol col dr : Nat))).heap[W.heap.size + 2]? = some (.stringIter s (k + ww)) := by
            rw [Below.heap_setCell _ _ _ _ (by simp), Below.heap_setCell _ _ _ _ (by simp), Below.heap_setCell _ _ _ _ (by simp), Below.heap_alloc _ _ _ (by simp; omega), Below.heap_alloc _ _ _ (by omega)]
            exact hit4
          have hbx8 := ((((hbx4.alloc o1).alloc o2).kept (grown_set _ (W.heap.size + 1) 0 (.int .i64 k)) (by have := HWs.out; simp; omega)).kept (grown_set _ (W.heap.size + 1) 1 (.int .i64 (bLine line dr : Nat))) (by have := HWs.out; simp; omega)).kept (grown_set _ (W.heap.size + 1) 2 (.int .i64 (bCol col dr : Nat))) (by have := HWs.out; simp; omega)
          go_roundw
          case rel =>
            refine ⟨k + ww, bLine line dr, bCol col dr, k, pre ++ [⟨k, line, col, dr⟩], by omega, ?_, ?_, hat8, hit8, hbx8, ?_, hJ8⟩
            · have := HL.out
              unfold bLine
              split <;> omega
            · have := HC.out
              unfold bCol
              split <;> omega
            · rw [hels]
              simp
          case measure =>
            have hp8 : ((((((W4.alloc o1).alloc o2).setCell ⟨W.heap.size + 1, 0, none⟩ (.int .i64 k)).setCell ⟨W.heap.size + 1, 1, none⟩ (.int .i64 (bLine line dr : Nat))).setCell ⟨W.heap.size + 1, 2, none⟩ (.int .i64 (bCol col dr : Nat)))).iterPos (W.heap.size + 2) = k + ww := by simp only [World.iterPos, hit8]
            rw [hp8, hpos]
            omega
        · gi_wp2
          refine bodyPost_ret (results_none rfl _ _ _) rfl ?_
          exact ⟨⟨_, rfl⟩, .inr ⟨_, _, _, hels, hJx4⟩⟩
    · have hnx := fun ty => Lib.run_next_end_at (P := Tryd.prog) wr (W.heap.size + 2) s k ty hit hlt
      have hke : k = s.size := by omega
      have hdn : s.data.toList.drop k = [] := List.drop_eq_nil_of_le (by rw [Array.length_toList, hke]; exact Nat.le_refl _)
      rw [hdn, ru_nil, elS, List.append_nil] at hels
      gi_wp2
      go_end0
      exact ⟨⟨_, rfl⟩, .inl (by rw [hels]; exact hJr)⟩
end Go.Proofs.YtpbebcefnkbnlabDoor
