/- distinct, and where its row lies; rows of leaves. -/
import Derived.Test.YthmhcpghfbifiaaGreatDoorZVGather
import Derived.Test.YthmhcpghfbifiaaGreatDoorGE6
import Derived.Test.YthmhcpghfbifiaaGreatDoorGPars
namespace Go.Proofs.YthmhcpghfbifiaaGreatDoor
open Go.RowKit

set_option maxRecDepth 100000 in
/-- distinct of at least one item, and where the row lies. -/
theorem distinct_new (w : World) (B n : Nat) (ad : Addr) (c : Nat) (l : List (Ev w B (n + 1))) (h0 : 0 < l.length) (hl : l.length ≤ 1000000000) (hB : B ≤ w.heap.size) (hc : ∀ j (hj : j < l.length), ad.spot = none ∧ ad.block < B ∧ ∀ i, i < 5 → w.cell? ⟨ad.block, ad.off + j * 5 + i, none⟩ = l[j].cells[i]?) :
    Calls Tryz.prog 121 #[.slice (some ad) l.length c] w fun e w' => ∃ its g c, its.Perm (l.map Ev.v) ∧ its.Pairwise (fun x y => ordV x y ≤ 0) ∧ e = .returned (.slice (some ⟨g, 0, none⟩) (dd likeV its).length c) ∧ w.heap.size ≤ g ∧ g < w'.heap.size ∧ ItemsAt w' w'.heap.size (n + 2) (.slice (some ⟨g, 0, none⟩) (dd likeV its).length c) (dd likeV its) ∧ Below w.heap.size w w' := by
  have H1 := hide (cloneV_k w B (n + 1) ad c l h0 hl hB hc)
  have H2 := hide (fun (w1 : World) (g cap : Nat) (hg : w.heap.size ≤ g) (hg1 : g < w1.heap.size) (hb : Below w.heap.size w w1) (hr : RowV w1 g 0 (l.map Ev.cells)) =>
    sort_k (cap := cap) (l.map (Ev.lift (w1 := w1) fun b o hb' => hb.cell (p := ⟨b, o, none⟩) (Nat.lt_of_lt_of_le hb' hB))) (Nat.le_trans hB hg) hg1 (by rw [List.length_map]; omega) (show RowV w1 g 0 _ from by rw [List.map_map]; exact hr))
  simp only [List.length_map] at H2
  clear hc
  go_enter Tryz.func121, Tryz.ntmps121
  go_wp2_with (first
    | (go_at_call 145; refine H1.out.mono ?_; clear H1; rintro e w1 ⟨g, cap, rfl, hg, hg1, hcap, hrow, hb1⟩)
    | (go_at_call 146; refine (H2.out w1 g cap hg hg1 hb1 hrow).mono ?_; clear H2; rintro e w2 ⟨rfl, l2, hp, hs, hr2, hg2⟩; have H3 := hide (compact_k (cap := cap) l2 (fun b o hb => World.cell?_of_block (hg2.block b (by have := hb1.size; omega) (by intro e; cases e; omega))) (Nat.le_trans hB hg) (by have := hg2.size; omega) (by have := hp.length_eq; rw [List.length_map] at this; omega) (by have := hp.length_eq; rw [List.length_map] at this; omega) hr2); rw [show l2.length = l.length by have := hp.length_eq; rwa [List.length_map] at this] at H3)
    | (go_at_call 147; refine H3.out.mono ?_; clear H3; rintro e w3 ⟨⟨c3, rfl⟩, hr3, hg3⟩))
  go_ret
  have hlen : l2.length = l.length := by have := hp.length_eq; rwa [List.length_map] at this
  have hb2 : Below w.heap.size w w2 := ⟨hg2.os.trans hb1.os, hg2.tape.trans hb1.tape, hg2.output.trans hb1.output, Nat.le_trans hb1.size hg2.size, fun k hk => (hg2.block k (Nat.lt_of_lt_of_le hk hb1.size) (by intro e; cases e; omega)).trans (hb1.block k hk)⟩
  have hb3 : Below w.heap.size w w3 := ⟨hg3.os.trans hb2.os, hg3.tape.trans hb2.tape, hg3.output.trans hb2.output, Nat.le_trans hb2.size hg3.size, fun k hk => (hg3.block k (Nat.lt_of_lt_of_le hk hb2.size) (by intro e; cases e; omega)).trans (hb2.block k hk)⟩
  have hz := hb2.size
  have hz3 := hg3.size
  have hdl : (dd likeV (l2.map Ev.v)).length = (dd Ev.like l2).length := by rw [dd_map Ev.v (eq := Ev.like) (fun _ _ => rfl), List.length_map]
  refine ⟨l2.map Ev.v, g, c3, ?_, ?_, by rw [hdl]; rfl, hg, by have := hg2.size; omega, ?_, hb3⟩
  · have := hp.map Ev.v
    rwa [List.map_map] at this
  · rw [List.pairwise_map]; exact hs
  · rw [hdl, dd_map Ev.v (eq := Ev.like) (fun _ _ => rfl)]
    refine items_of_row (dd Ev.like l2) (fun b o hb => ?_) hr3 (by have := hg2.size; omega) (by have := hg2.size; omega) (by have := dd_len Ev.like l2; unfold maxLen; omega)
    exact ((hb3.cell (p := ⟨b, o, none⟩) (show b < w.heap.size by omega))).trans (hb1.cell (p := ⟨b, o, none⟩) (show b < w.heap.size by omega)).symm
theorem dd_sub {α : Type} (eq : α → α → Bool) : ∀ (l : List α), ∀ x ∈ dd eq l, x ∈ l := by
  have go : ∀ (l : List α) (p : α), ∀ x ∈ ddGo eq p l, x ∈ l := by
    intro l
    induction l with
    | nil => intro p x hx; simp [ddGo] at hx
    | cons a l ih =>
      intro p x hx
      simp only [ddGo] at hx
      split at hx
      · exact List.mem_cons_of_mem _ (ih _ x hx)
      · rcases List.mem_cons.1 hx with rfl | hx
        · simp
        · exact List.mem_cons_of_mem _ (ih _ x hx)
  intro l x hx
  cases l with
  | nil => simp [dd] at hx
  | cons a l =>
    simp only [dd] at hx
    rcases List.mem_cons.1 hx with rfl | hx
    · simp
    · exact List.mem_cons_of_mem _ (go l a x hx)
/-- distinct, by the items. -/
theorem distinct_at (w : World) (B n : Nat) (sl : Value) (its : List Vl) (hi : ItemsAt w B (n + 2) sl its) (h0 : its ≠ []) (hl : its.length ≤ 1000000000) (hB : B ≤ w.heap.size) :
    Calls Tryz.prog 121 #[sl] w fun e w' => ∃ g c, e = .returned (.slice (some ⟨g, 0, none⟩) (dd likeV (srt its)).length c) ∧ w.heap.size ≤ g ∧ g < w'.heap.size ∧ ItemsAt w' w'.heap.size (n + 2) (.slice (some ⟨g, 0, none⟩) (dd likeV (srt its)).length c) (dd likeV (srt its)) ∧ Below w.heap.size w w' := by
  obtain ⟨a, c, rfl, _⟩ := hi.len
  obtain ⟨l, h1, h2⟩ := hi.evs
  have hlen : its.length = l.length := by rw [← h1, List.length_map]
  have hpos : 0 < l.length := by
    rw [← hlen]
    exact List.length_pos_iff.2 h0
  obtain ⟨b, off, rfl, _, _⟩ := h2 0 hpos
  have := distinct_new w B n ⟨b, off, none⟩ c l hpos (by omega) hB fun j hj => by
    obtain ⟨b', off', e, hb, hc⟩ := h2 j hj
    cases e
    exact ⟨rfl, hb, hc⟩
  rw [h1, ← hlen] at this
  refine this.mono ?_
  rintro e w' ⟨s, g, c', hp, hs, he, k⟩
  obtain rfl := srt_only hp hs
  exact ⟨g, c', he, k⟩
/-- A row of leaves lies in its own block alone. -/
theorem leaves_in {w : World} {C n g len c : Nat} {its : List Vl} (h : ItemsAt w C (n + 2) (.slice (some ⟨g, 0, none⟩) len c) its) (hl : ∀ x ∈ its, x.items = []) : ItemsIn w (fun b => b = g) (n + 2) (.slice (some ⟨g, 0, none⟩) len c) its := by
  obtain ⟨a, c', e, hm, hc⟩ := h
  cases e
  refine ⟨_, _, rfl, hm, fun j hj => ?_⟩
  obtain ⟨b, off, s', e, hb, h0, h1, h2, h3, h4, h5, h6⟩ := hc j hj
  cases e
  refine ⟨_, _, s', rfl, rfl, h0, h1, h2, h3, h4, ?_, h6⟩
  have e := hl its[j] (List.getElem_mem hj)
  rw [e] at h5 ⊢
  obtain ⟨sa, sc, rfl, _⟩ := h5.len
  exact ⟨sa, sc, rfl, by unfold maxLen; simp, fun j h => by simp at h⟩
end Go.Proofs.YthmhcpghfbifiaaGreatDoor

/- A set of numbers; a tuple of one number without its comma. -/
namespace Go.Proofs.YthmhcpghfbifiaaGreatDoor
open Go.RowKit

theorem nums_ne {s : List UInt8} {c : Int} {n : Nat} {t : Tk} {l : List Vl} {u : Tk} (h : numsM s c n t = some (l, u)) : l ≠ [] ∧ l.length ≤ n ∧ ∀ x ∈ l, x.items = [] := by
  induction n generalizing t l u with
  | zero => simp [numsM] at h
  | succ n ih =>
    simp only [numsM] at h
    split at h
    · split at h
      · simp only [Option.some.injEq, Prod.mk.injEq] at h
        obtain ⟨rfl, _⟩ := h
        exact ⟨by simp, by simp, fun x hx => by rw [List.mem_singleton.1 hx]⟩
      · split at h
        · cases e : numsM s c n (stepM s (stepM s t)) with
          | none => rw [e] at h; cases h
          | some p =>
            obtain ⟨l', u'⟩ := p
            rw [e] at h
            simp only [Option.some.injEq, Prod.mk.injEq] at h
            obtain ⟨rfl, _⟩ := h
            obtain ⟨_, h2, h3⟩ := ih e
            exact ⟨by simp, by simp; omega, fun x hx => by
              rcases List.mem_cons.1 hx with rfl | hx
              · rfl
              · exact h3 x hx⟩
        · cases h
    · cases h
set_option maxRecDepth 100000 in
set_option maxHeartbeats 2000000 in
/-- value, at a set of numbers. -/
theorem val_set (w : World) (pb : Nat) (s : List UInt8) (t : Tk) (q n : Nat) (deep : Int) (l : List Vl) (u : Tk) (hP : ParAt w pb s t q) (hs : s.length ≤ 1048576) (hat : AtTok s t) (hT : Tabs w) (hq : q + 1 + n ≤ 4096) (hd : deep ≤ 15) (hd0 : 0 ≤ deep) (ho : pb ≠ 2 ∧ pb ≠ 0) (hk : t.kind = 123) (hne : ¬ (stepM s t).kind = 125) (hm : numsM s 125 n (stepM s t) = some (l, u)) :
    Calls Tryz.prog 91 #[.pointer (some ⟨pb, 0, none⟩), .int .i64 deep] w fun e w' => ∃ s' q', e = .returned (.agg (vcells ⟨7, 0, 0, ⟨#[]⟩, setV l⟩ s')) ∧ ItemsIn w' (fun b => w.heap.size < b ∧ b < w'.heap.size) 2 s' (setV l) ∧ ParAt w' pb s u q' ∧ AtTok s u ∧ w.grownBy w' (some pb) := by
  have ht := hat.room
  have hpb := hP.lt
  obtain ⟨W, hW⟩ : ∃ W, w.alloc (.cells zcells 46) = W := ⟨_, rfl⟩
  obtain ⟨bW, zW, e1, e2, e3, e4, e5, e6, e7⟩ := val_start w pb s t q hP W hW
  have HS := hide (step_k _ pb s t (q + 1) (e3 0) hs ht (hT.grown e6 (by have := hT.room; omega) (by have := hT.room; omega)))
  have x1 := cells_at e2 1 _ rfl
  have x2 := cells_at e2 2 _ rfl
  have x3 := cells_at e2 3 _ rfl
  have x4 := cells_at e2 4 _ rfl
  have z4 := frozen_at e2 4
  have HE := hide (And.intro e4 (And.intro e5 (And.intro e6 e7)))
  have HT := hide hT
  have hadd : IntKind.i64.wrap ((q : Int) + 1) = (q : Int) + 1 := by rw [IntKind.wrap_i64]; omega
  have hq1 : ¬ (4096 : Int) < (q : Int) + 1 := by omega
  have HB := hide (fun W => begins_yes t.kind (by rw [hk]; rfl) W)
  have hd' : ¬ (16 : Int) < deep := by omega
  have HO := hide ho
  have HQ := hide (And.intro hne (And.intro hm hat.step))
  have HNE := hide (nums_ne hm)
  generalize stepM s t = t2 at *
  obtain ⟨tk, to, tt⟩ := t
  simp only at hk
  subst hk
  clear hP hT e1 e2 e3 e4 e5 e6 e7 ho hne hm hat
  go_enter Tryz.func91, Tryz.ntmps91
  go_wp2_with (first
    | (go_at_call 116; refine (HB.out _).mono ?_; clear HB; rintro e w1 ⟨rfl, rfl⟩)
    | (go_at_call 118; refine HS.out.mono ?_; clear HS; rintro e w2 ⟨rfl, p2, g2⟩; have hz2 := g2.size; rw [HE.out.2.2.2] at hz2; have f1 := (g2.block w.heap.size (by rw [HE.out.2.2.2]; omega) (by simp; omega)).trans HE.out.1; have f2 := (g2.block (w.heap.size + 1) (by rw [HE.out.2.2.2]; omega) (by simp; omega)).trans HE.out.2.1; have G2 := hide (grown_more HE.out.2.2.1 g2); have P2 := hide p2; have F1 := hide f1; have F2 := hide f2; have y0 := cells_at f2 0 _ rfl; have y1 := cells_at f2 1 _ rfl; have y2 := cells_at f2 2 _ rfl; have HIT := hide (items_nums w2 pb s t2 (q + 1) n 125 deep l u p2 hs HQ.out.2.2 (HT.out.grown (grown_more HE.out.2.2.1 g2) HO.out.1.symm HO.out.2.symm) hq hd hd0 HO.out (by decide) HQ.out.1 HQ.out.2.1); have hz2' := hz2; clear p2 g2 f1 f2)
    | (go_at_call 120; refine HIT.out.mono ?_; clear HIT; rintro e w7 ⟨o7, q7, rfl, o7', p7, a7, g7⟩; have HD := hide (distinct_at w7 w7.heap.size 0 o7 l ((o7'.items (by have := HNE.out.2.1; unfold maxLen; omega)).at (fun b hb => hb.2)) HNE.out.1 (by have := HNE.out.2.1; omega) (Nat.le_refl _)); obtain ⟨va, vc, rfl⟩ := o7'.len; have G7 := hide (grown_more G2.out g7); have hz7 := g7.size; have f7 := (g7.block w.heap.size (by omega) (by simp; omega)).trans F1.out; have F7 := hide f7; have P7 := hide p7; have A7 := hide a7; clear o7' p7 a7 g7 f7)
    | (go_at_call 121; refine HD.out.mono ?_; clear HD; rintro e w8 ⟨g8, c8, rfl, h81, h82, i8, b8⟩; have f8 := (b8.block _ (by omega)).trans F7.out; have P8 := hide (show ParAt w8 pb s u q7 from (b8.block _ (by omega)).trans P7.out); have r0 := cells_at f8 0 _ rfl; have rz0 := frozen_at f8 0; have r1 := cells_at f8 1 _ rfl; have rz1 := frozen_at f8 1; have r2 := cells_at f8 2 _ rfl; have rz2 := frozen_at f8 2; have r3 := cells_at f8 3 _ rfl; have rz3 := frozen_at f8 3; have r4 := cells_at f8 4 _ rfl; have rz4 := frozen_at f8 4; have F8 := hide f8; have B8 := hide b8; have I8 := hide i8; clear i8 b8 f8))
  have D := val_done 7 0 0 ⟨#[]⟩ (.slice (some ⟨g8, 0, none⟩) (dd likeV (srt l)).length c8) F8.out P8.out (grown_more G7.out (grown_of_below B8.out)) hpb
  refine bodyPost_ret (results_cell_row rfl _ _ w.heap.size _ _ _ _ rfl D.1 Tryz.underlying46 rfl infoVal5) rfl ?_
  have hz8 := B8.out.size
  refine ⟨_, q7, rfl, (leaves_in (n := 0) I8.out (fun x hx => HNE.out.2.2 x ((srt_perm l).mem_iff.1 (dd_sub _ _ x hx)))).kept (fun b o hb => D.2.2.2 b o (by have : b = g8 := hb; omega)) (fun b hb => by have : b = g8 := hb; subst this; exact ⟨by omega, by simpa [World.setCell] using h82⟩), D.2.1, A7.out, D.2.2.1⟩
set_option maxRecDepth 100000 in
set_option maxHeartbeats 2000000 in
/-- tupleItems: a number, and no comma behind. -/
theorem tuple_no (w : World) (pb : Nat) (s : List UInt8) (t : Tk) (q : Nat) (deep : Int) (hP : ParAt w pb s t q) (hs : s.length ≤ 1048576) (hat : AtTok s t) (hT : Tabs w) (hq : q + 1 ≤ 4096) (hd : deep ≤ 15) (hd0 : 0 ≤ deep) (ho : pb ≠ 2 ∧ pb ≠ 0) (hk : t.kind = 48) (hn : numE t.text.data.toList = 0) (hc : ¬ (stepM s t).kind = 44) :
    Calls Tryz.prog 119 #[.pointer (some ⟨pb, 0, none⟩), .int .i64 deep] w fun e w' => e = gaveIn s 41 (stepM s t).off ∧ w.grownBy w' (some pb) := by
  have hadd : IntKind.i64.wrap (deep + 1) = deep + 1 := by rw [IntKind.wrap_i64]; omega
  have HK := hide (skip_no w pb s t q hP 41 (by rw [hk]; decide))
  have HV := hide (val_num w pb s t q (deep + 1) hP hs hat.room hT hq (by omega) ho hk hn)
  have HC := hide hc
  clear hP hT hc hat hk hn
  generalize stepM s t = t2 at *
  go_enter Tryz.func119, Tryz.ntmps119
  go_wp2_with (first
    | (go_at_call 126; refine HK.out.mono ?_; clear HK; rintro e w6 ⟨rfl, rfl⟩)
    | (go_at_call 91; refine HV.out.mono ?_; clear HV; rintro e w4 ⟨rfl, p4, g4⟩; have HX := hide (fun (o : Obj) => expect_no (w4.alloc o) pb s t2 (q + 1) ((Below.heap_alloc _ _ _ p4.lt).trans p4) hs 44 HC.out); have G4 := hide g4; clear p4 g4)
    | (go_at_call 92; refine (HX.out _).mono ?_; clear HX; rintro e w7 ⟨rfl, b7⟩; have B7 := hide b7; clear b7))
  exact ⟨rfl, rfl, grown_more G4.out (grown_more (grown_of_below (alloc_v (Below.refl _ _) _)) (grown_of_below B7.out))⟩
set_option maxRecDepth 100000 in
set_option maxHeartbeats 2000000 in
/-- value, at such a tuple. -/
theorem val_tuple_no (w : World) (pb : Nat) (s : List UInt8) (t : Tk) (q : Nat) (deep : Int) (hP : ParAt w pb s t q) (hs : s.length ≤ 1048576) (hat : AtTok s t) (hT : Tabs w) (hq : q + 2 ≤ 4096) (hd : deep ≤ 15) (hd0 : 0 ≤ deep) (ho : pb ≠ 2 ∧ pb ≠ 0) (hk : t.kind = 40) (hk2 : (stepM s t).kind = 48) (hn : numE (stepM s t).text.data.toList = 0) (hc : ¬ (stepM s (stepM s t)).kind = 44) :
    Calls Tryz.prog 91 #[.pointer (some ⟨pb, 0, none⟩), .int .i64 deep] w fun e w' => e = gaveIn s 41 (stepM s (stepM s t)).off ∧ w.grownBy w' (some pb) := by
  have ht := hat.room
  have hpb := hP.lt
  obtain ⟨W, hW⟩ : ∃ W, w.alloc (.cells zcells 46) = W := ⟨_, rfl⟩
  obtain ⟨bW, zW, e1, e2, e3, e4, e5, e6, e7⟩ := val_start w pb s t q hP W hW
  have HS := hide (step_k _ pb s t (q + 1) (e3 0) hs ht (hT.grown e6 (by have := hT.room; omega) (by have := hT.room; omega)))
  have x1 := cells_at e2 1 _ rfl
  have x2 := cells_at e2 2 _ rfl
  have x3 := cells_at e2 3 _ rfl
  have x4 := cells_at e2 4 _ rfl
  have z4 := frozen_at e2 4
  have HE := hide (And.intro e4 (And.intro e5 (And.intro e6 e7)))
  have HT := hide hT
  have hadd : IntKind.i64.wrap ((q : Int) + 1) = (q : Int) + 1 := by rw [IntKind.wrap_i64]; omega
  have hq1 : ¬ (4096 : Int) < (q : Int) + 1 := by omega
  have HB := hide (fun W => begins_yes t.kind (by rw [hk]; rfl) W)
  have hd' : ¬ (16 : Int) < deep := by omega
  have HO := hide ho
  have HQ := hide (And.intro hk2 (And.intro hn (And.intro hc hat.step)))
  clear hk2 hn hc
  generalize stepM s t = t2 at *
  obtain ⟨tk, to, tt⟩ := t
  simp only at hk
  subst hk
  clear hP hT e1 e2 e3 e4 e5 e6 e7 ho hat
  go_enter Tryz.func91, Tryz.ntmps91
  go_wp2_with (first
    | (go_at_call 116; refine (HB.out _).mono ?_; clear HB; rintro e w1 ⟨rfl, rfl⟩)
    | (go_at_call 118; refine HS.out.mono ?_; clear HS; rintro e w2 ⟨rfl, p2, g2⟩; have hz2 := g2.size; rw [HE.out.2.2.2] at hz2; have f1 := (g2.block w.heap.size (by rw [HE.out.2.2.2]; omega) (by simp; omega)).trans HE.out.1; have f2 := (g2.block (w.heap.size + 1) (by rw [HE.out.2.2.2]; omega) (by simp; omega)).trans HE.out.2.1; have G2 := hide (grown_more HE.out.2.2.1 g2); have P2 := hide p2; have F1 := hide f1; have F2 := hide f2; have y0 := cells_at f2 0 _ rfl; have y1 := cells_at f2 1 _ rfl; have y2 := cells_at f2 2 _ rfl; have HTU := hide (tuple_no w2 pb s t2 (q + 1) deep p2 hs HQ.out.2.2.2 (HT.out.grown (grown_more HE.out.2.2.1 g2) HO.out.1.symm HO.out.2.symm) (by omega) hd hd0 HO.out HQ.out.1 HQ.out.2.1 HQ.out.2.2.1); clear p2 g2 f1 f2)
    | (go_at_call 119; refine HTU.out.mono ?_; clear HTU; rintro e w7 ⟨rfl, g7⟩; have G7 := hide g7; clear g7))
  exact ⟨rfl, rfl, grown_more G2.out G7.out⟩
end Go.Proofs.YthmhcpghfbifiaaGreatDoor
