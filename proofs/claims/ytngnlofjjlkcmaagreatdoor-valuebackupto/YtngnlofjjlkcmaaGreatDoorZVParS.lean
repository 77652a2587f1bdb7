/- A set of numbers; a tuple of one number without its comma. -/
import Derived.Test.YtngnlofjjlkcmaaGreatDoorGPars
import Derived.Test.YtngnlofjjlkcmaaGreatDoorZVDist
namespace Go.Proofs.YtngnlofjjlkcmaaGreatDoor
open Go.RowKit

theorem nums_ne {s : List UInt8} {c : Int} {n : Nat} {t : Tk} {l : List Vl} {u : Tk} (h : numsM s c n t = some (l, u)) : l ≠ [] ∧ l.length ≤ n ∧ ∀ x ∈ l, x.items = [] := by
  induction n generalizing t l u with
  | zero => simp [numsM] at h
  | succ n ih =>
    simp only [numsM] at h
    split at h
    · split at h
      · simp only [Option.some.injEq, Prod.mk.injEq] at h
        obtain ⟨rfl, _⟩ := h
        exact ⟨by simp, by simp, fun x hx => by rw [List.mem_singleton.1 hx]⟩
      · split at h
        · cases e : numsM s c n (stepM s (stepM s t)) with
          | none => rw [e] at h; cases h
          | some p =>
            obtain ⟨l', u'⟩ := p
            rw [e] at h
            simp only [Option.some.injEq, Prod.mk.injEq] at h
            obtain ⟨rfl, _⟩ := h
            obtain ⟨_, h2, h3⟩ := ih e
            exact ⟨by simp, by simp; omega, fun x hx => by
              rcases List.mem_cons.1 hx with rfl | hx
              · rfl
              · exact h3 x hx⟩
        · cases h
    · cases h
set_option maxRecDepth 100000 in
set_option maxHeartbeats 2000000 in
/-- value, at a set of numbers. -/
theorem val_set (w : World) (pb : Nat) (s : List UInt8) (t : Tk) (q n : Nat) (deep : Int) (l : List Vl) (u : Tk) (hP : ParAt w pb s t q) (hs : s.length ≤ 1048576) (hat : AtTok s t) (hT : Tabs w) (hq : q + 1 + n ≤ 4096) (hd : deep ≤ 15) (hd0 : 0 ≤ deep) (ho : pb ≠ 2 ∧ pb ≠ 0) (hk : t.kind = 123) (hne : ¬ (stepM s t).kind = 125) (hm : numsM s 125 n (stepM s t) = some (l, u)) :
    Calls Tryz.prog 31 #[.pointer (some ⟨pb, 0, none⟩), .int .i64 deep] w fun e w' => ∃ s' q', e = .returned (.agg (vcells ⟨7, 0, 0, ⟨#[]⟩, setV l⟩ s')) ∧ ItemsIn w' (fun b => w.heap.size < b ∧ b < w'.heap.size) 2 s' (setV l) ∧ ParAt w' pb s u q' ∧ AtTok s u ∧ w.grownBy w' (some pb) := by
  have ht := hat.room
  have hpb := hP.lt
  obtain ⟨W, hW⟩ : ∃ W, w.alloc (.cells zcells 26) = W := ⟨_, rfl⟩
  obtain ⟨bW, zW, e1, e2, e3, e4, e5, e6, e7⟩ := val_start w pb s t q hP W hW
  have HS := hide (step_k _ pb s t (q + 1) (e3 0) hs ht (hT.grown e6 (by have := hT.room; omega) (by have := hT.room; omega)))
  have x1 := cells_at e2 1 _ rfl
  have x2 := cells_at e2 2 _ rfl
  have x3 := cells_at e2 3 _ rfl
  have x4 := cells_at e2 4 _ rfl
  have z4 := frozen_at e2 4
  have HE := hide (And.intro e4 (And.intro e5 (And.intro e6 e7)))
  have HT := hide hT
  have hadd : IntKind.i64.wrap ((q : Int) + 1) = (q : Int) + 1 := by rw [IntKind.wrap_i64]; omega
  have hq1 : ¬ (4096 : Int) < (q : Int) + 1 := by omega
  have HB := hide (fun W => begins_yes t.kind (by rw [hk]; rfl) W)
  have hd' : ¬ (16 : Int) < deep := by omega
  have HO := hide ho
  have HQ := hide (And.intro hne (And.intro hm hat.step))
  have HNE := hide (nums_ne hm)
  generalize stepM s t = t2 at *
  obtain ⟨tk, to, tt⟩ := t
  simp only at hk
  subst hk
  clear hP hT e1 e2 e3 e4 e5 e6 e7 ho hne hm hat
  go_enter Tryz.func31, Tryz.ntmps31
  go_wp2_with (first
    | (go_at_call 57; refine (HB.out _).mono ?_; clear HB; rintro e w1 ⟨rfl, rfl⟩)
    | (go_at_call 59; refine HS.out.mono ?_; clear HS; rintro e w2 ⟨rfl, p2, g2⟩; have hz2 := g2.size; rw [HE.out.2.2.2] at hz2; have f1 := (g2.block w.heap.size (by rw [HE.out.2.2.2]; omega) (by simp; omega)).trans HE.out.1; have f2 := (g2.block (w.heap.size + 1) (by rw [HE.out.2.2.2]; omega) (by simp; omega)).trans HE.out.2.1; have G2 := hide (grown_more HE.out.2.2.1 g2); have P2 := hide p2; have F1 := hide f1; have F2 := hide f2; have y0 := cells_at f2 0 _ rfl; have y1 := cells_at f2 1 _ rfl; have y2 := cells_at f2 2 _ rfl; have HIT := hide (items_nums w2 pb s t2 (q + 1) n 125 deep l u p2 hs HQ.out.2.2 (HT.out.grown (grown_more HE.out.2.2.1 g2) HO.out.1.symm HO.out.2.symm) hq hd hd0 HO.out (by decide) HQ.out.1 HQ.out.2.1); have hz2' := hz2; clear p2 g2 f1 f2)
    | (go_at_call 61; refine HIT.out.mono ?_; clear HIT; rintro e w7 ⟨o7, q7, rfl, o7', p7, a7, g7⟩; have HD := hide (distinct_at w7 w7.heap.size 0 o7 l ((o7'.items (by have := HNE.out.2.1; unfold maxLen; omega)).at (fun b hb => hb.2)) HNE.out.1 (by have := HNE.out.2.1; omega) (Nat.le_refl _)); obtain ⟨va, vc, rfl⟩ := o7'.len; have G7 := hide (grown_more G2.out g7); have hz7 := g7.size; have f7 := (g7.block w.heap.size (by omega) (by simp; omega)).trans F1.out; have F7 := hide f7; have P7 := hide p7; have A7 := hide a7; clear o7' p7 a7 g7 f7)
    | (go_at_call 62; refine HD.out.mono ?_; clear HD; rintro e w8 ⟨g8, c8, rfl, h81, h82, i8, b8⟩; have f8 := (b8.block _ (by omega)).trans F7.out; have P8 := hide (show ParAt w8 pb s u q7 from (b8.block _ (by omega)).trans P7.out); have r0 := cells_at f8 0 _ rfl; have rz0 := frozen_at f8 0; have r1 := cells_at f8 1 _ rfl; have rz1 := frozen_at f8 1; have r2 := cells_at f8 2 _ rfl; have rz2 := frozen_at f8 2; have r3 := cells_at f8 3 _ rfl; have rz3 := frozen_at f8 3; have r4 := cells_at f8 4 _ rfl; have rz4 := frozen_at f8 4; have F8 := hide f8; have B8 := hide b8; have I8 := hide i8; clear i8 b8 f8))
  have D := val_done 7 0 0 ⟨#[]⟩ (.slice (some ⟨g8, 0, none⟩) (dd likeV (srt l)).length c8) F8.out P8.out (grown_more G7.out (grown_of_below B8.out)) hpb
  refine bodyPost_ret (results_cell_row rfl _ _ w.heap.size _ _ _ _ rfl D.1 Tryz.underlying26 rfl infoVal5) rfl ?_
  have hz8 := B8.out.size
  refine ⟨_, q7, rfl, (leaves_in (n := 0) I8.out (fun x hx => HNE.out.2.2 x ((srt_perm l).mem_iff.1 (dd_sub _ _ x hx)))).kept (fun b o hb => D.2.2.2 b o (by have : b = g8 := hb; omega)) (fun b hb => by have : b = g8 := hb; subst this; exact ⟨by omega, by simpa [World.setCell] using h82⟩), D.2.1, A7.out, D.2.2.1⟩
set_option maxRecDepth 100000 in
set_option maxHeartbeats 2000000 in
/-- tupleItems: a number, and no comma behind. -/
theorem tuple_no (w : World) (pb : Nat) (s : List UInt8) (t : Tk) (q : Nat) (deep : Int) (hP : ParAt w pb s t q) (hs : s.length ≤ 1048576) (hat : AtTok s t) (hT : Tabs w) (hq : q + 1 ≤ 4096) (hd : deep ≤ 15) (hd0 : 0 ≤ deep) (ho : pb ≠ 2 ∧ pb ≠ 0) (hk : t.kind = 48) (hn : numE t.text.data.toList = 0) (hc : ¬ (stepM s t).kind = 44) :
    Calls Tryz.prog 60 #[.pointer (some ⟨pb, 0, none⟩), .int .i64 deep] w fun e w' => e = gaveIn s 41 (stepM s t).off ∧ w.grownBy w' (some pb) := by
  have hadd : IntKind.i64.wrap (deep + 1) = deep + 1 := by rw [IntKind.wrap_i64]; omega
  have HK := hide (skip_no w pb s t q hP 41 (by rw [hk]; decide))
  have HV := hide (val_num w pb s t q (deep + 1) hP hs hat.room hT hq (by omega) ho hk hn)
  have HC := hide hc
  clear hP hT hc hat hk hn
  generalize stepM s t = t2 at *
  go_enter Tryz.func60, Tryz.ntmps60
  go_wp2_with (first
    | (go_at_call 66; refine HK.out.mono ?_; clear HK; rintro e w6 ⟨rfl, rfl⟩)
    | (go_at_call 31; refine HV.out.mono ?_; clear HV; rintro e w4 ⟨rfl, p4, g4⟩; have HX := hide (fun (o : Obj) => expect_no (w4.alloc o) pb s t2 (q + 1) ((Below.heap_alloc _ _ _ p4.lt).trans p4) hs 44 HC.out); have G4 := hide g4; clear p4 g4)
    | (go_at_call 32; refine (HX.out _).mono ?_; clear HX; rintro e w7 ⟨rfl, b7⟩; have B7 := hide b7; clear b7))
  exact ⟨rfl, rfl, grown_more G4.out (grown_more (grown_of_below (alloc_v (Below.refl _ _) _)) (grown_of_below B7.out))⟩
set_option maxRecDepth 100000 in
set_option maxHeartbeats 2000000 in
/-- value, at such a tuple. -/
theorem val_tuple_no (w : World) (pb : Nat) (s : List UInt8) (t : Tk) (q : Nat) (deep : Int) (hP : ParAt w pb s t q) (hs : s.length ≤ 1048576) (hat : AtTok s t) (hT : Tabs w) (hq : q + 2 ≤ 4096) (hd : deep ≤ 15) (hd0 : 0 ≤ deep) (ho : pb ≠ 2 ∧ pb ≠ 0) (hk : t.kind = 40) (hk2 : (stepM s t).kind = 48) (hn : numE (stepM s t).text.data.toList = 0) (hc : ¬ (stepM s (stepM s t)).kind = 44) :
    Calls Tryz.prog 31 #[.pointer (some ⟨pb, 0, none⟩), .int .i64 deep] w fun e w' => e = gaveIn s 41 (stepM s (stepM s t)).off ∧ w.grownBy w' (some pb) := by
  have ht := hat.room
  have hpb := hP.lt
  obtain ⟨W, hW⟩ : ∃ W, w.alloc (.cells zcells 26) = W := ⟨_, rfl⟩
  obtain ⟨bW, zW, e1, e2, e3, e4, e5, e6, e7⟩ := val_start w pb s t q hP W hW
  have HS := hide (step_k _ pb s t (q + 1) (e3 0) hs ht (hT.grown e6 (by have := hT.room; omega) (by have := hT.room; omega)))
  have x1 := cells_at e2 1 _ rfl
  have x2 := cells_at e2 2 _ rfl
  have x3 := cells_at e2 3 _ rfl
  have x4 := cells_at e2 4 _ rfl
  have z4 := frozen_at e2 4
  have HE := hide (And.intro e4 (And.intro e5 (And.intro e6 e7)))
  have HT := hide hT
  have hadd : IntKind.i64.wrap ((q : Int) + 1) = (q : Int) + 1 := by rw [IntKind.wrap_i64]; omega
  have hq1 : ¬ (4096 : Int) < (q : Int) + 1 := by omega
  have HB := hide (fun W => begins_yes t.kind (by rw [hk]; rfl) W)
  have hd' : ¬ (16 : Int) < deep := by omega
  have HO := hide ho
  have HQ := hide (And.intro hk2 (And.intro hn (And.intro hc hat.step)))
  clear hk2 hn hc
  generalize stepM s t = t2 at *
  obtain ⟨tk, to, tt⟩ := t
  simp only at hk
  subst hk
  clear hP hT e1 e2 e3 e4 e5 e6 e7 ho hat
  go_enter Tryz.func31, Tryz.ntmps31
  go_wp2_with (first
    | (go_at_call 57; refine (HB.out _).mono ?_; clear HB; rintro e w1 ⟨rfl, rfl⟩)
    | (go_at_call 59; refine HS.out.mono ?_; clear HS; rintro e w2 ⟨rfl, p2, g2⟩; have hz2 := g2.size; rw [HE.out.2.2.2] at hz2; have f1 := (g2.block w.heap.size (by rw [HE.out.2.2.2]; omega) (by simp; omega)).trans HE.out.1; have f2 := (g2.block (w.heap.size + 1) (by rw [HE.out.2.2.2]; omega) (by simp; omega)).trans HE.out.2.1; have G2 := hide (grown_more HE.out.2.2.1 g2); have P2 := hide p2; have F1 := hide f1; have F2 := hide f2; have y0 := cells_at f2 0 _ rfl; have y1 := cells_at f2 1 _ rfl; have y2 := cells_at f2 2 _ rfl; have HTU := hide (tuple_no w2 pb s t2 (q + 1) deep p2 hs HQ.out.2.2.2 (HT.out.grown (grown_more HE.out.2.2.1 g2) HO.out.1.symm HO.out.2.symm) (by omega) hd hd0 HO.out HQ.out.1 HQ.out.2.1 HQ.out.2.2.1); clear p2 g2 f1 f2)
    | (go_at_call 60; refine HTU.out.mono ?_; clear HTU; rintro e w7 ⟨rfl, g7⟩; have G7 := hide g7; clear g7))
  exact ⟨rfl, rfl, grown_more G2.out G7.out⟩
end Go.Proofs.YtngnlofjjlkcmaaGreatDoor
