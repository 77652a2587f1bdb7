/- The two operations that heads asks for. -/
import Derived.Test.YtnmkggoampkekaaGreatDoorGHTl
namespace Go.Proofs.YtnmkggoampkekaaGreatDoor
open Go.RowKit Go.Maps

def oneVl (n : Int) : Vl := ⟨2, n, 0, ⟨#[]⟩, []⟩
def smallL : List Evn := [⟨1, [112], [113], [101, 110, 113], oneVl 1, 0, 0, 0⟩, ⟨1, [114], [113], [100, 101, 113], oneVl 0, 0, 0, 0⟩, ⟨2, [112], [], [], oneVl 0, 0, 0, 0⟩, ⟨2, [114], [], [], oneVl 1, 0, 0, 0⟩]
theorem right_one0 : rightV (oneVl 0) = true := by kernel_rfl
theorem right_one1 : rightV (oneVl 1) = true := by kernel_rfl
theorem sym_p : symB (bsN [112]) = true := by
  unfold symB
  rw [ByteArray.toList_eq]
  kernel_rfl
theorem sym_r : symB (bsN [114]) = true := by
  unfold symB
  rw [ByteArray.toList_eq]
  kernel_rfl
theorem sym_enq : symB (bsN [101, 110, 113]) = true := by
  unfold symB
  rw [ByteArray.toList_eq]
  kernel_rfl
theorem sym_deq : symB (bsN [100, 101, 113]) = true := by
  unfold symB
  rw [ByteArray.toList_eq]
  kernel_rfl
theorem any_q : anyB [113] = true := by kernel_rfl
theorem small_fine : Fine smallL smallL.length := by
  intro j hj _
  have h4 : j < 4 := hj
  rcases (by omega : j = 0 ∨ j = 1 ∨ j = 2 ∨ j = 3) with rfl | rfl | rfl | rfl
  · show faultE [] ⟨1, [112], [113], [101, 110, 113], oneVl 1, 0, 0, 0⟩ = 0
    have : rightE ⟨1, [112], [113], [101, 110, 113], oneVl 1, 0, 0, 0⟩ = true := by unfold rightE; simp [sym_p, any_q, sym_enq, right_one1]
    unfold faultE; simp [this]
  · show faultE [[112]] ⟨1, [114], [113], [100, 101, 113], oneVl 0, 0, 0, 0⟩ = 0
    have : rightE ⟨1, [114], [113], [100, 101, 113], oneVl 0, 0, 0, 0⟩ = true := by unfold rightE; simp [sym_r, any_q, sym_deq, right_one0]
    unfold faultE; simp [this]
  · show faultE [[114], [112]] ⟨2, [112], [], [], oneVl 0, 0, 0, 0⟩ = 0
    have : rightE ⟨2, [112], [], [], oneVl 0, 0, 0, 0⟩ = true := by unfold rightE; simp [sym_p, right_one0]
    unfold faultE; simp [this]
  · show faultE [[114]] ⟨2, [114], [], [], oneVl 1, 0, 0, 0⟩ = 0
    have : rightE ⟨2, [114], [], [], oneVl 1, 0, 0, 0⟩ = true := by unfold rightE; simp [sym_r, right_one1]
    unfold faultE; simp [this]
theorem small_no : NoLarge smallL := by
  intro j hj
  have h4 : j < 4 := hj
  rcases (by omega : j = 0 ∨ j = 1 ∨ j = 2 ∨ j = 3) with rfl | rfl | rfl | rfl <;> rfl
def callA : Cl := ⟨0, 0, [101, 110, 113], oneVl 1, 0, 2, oneVl 0⟩
def callB : Cl := ⟨1, 0, [100, 101, 113], oneVl 0, 1, 3, oneVl 1⟩
theorem small_g : gAt smallL smallL.length = ⟨[[112], [114]], [[113]], [callA, callB], []⟩ := by rfl
theorem two_fault : faultE (opensAt (smallL.drop 2) 0) (smallL.drop 2)[0] = 70 := by
  show faultE [] ⟨2, [112], [], [], oneVl 0, 0, 0, 0⟩ = 70
  have : rightE ⟨2, [112], [], [], oneVl 0, 0, 0, 0⟩ = true := by unfold rightE; simp [sym_p, right_one0]
  unfold faultE; simp [this]
theorem two_refused {k : Nat} {code : Int} (h : Refused (smallL.drop 2) k code) : k = 0 ∧ code = 70 := by
  have h1 : ∀ m, 0 < m → ¬ Fine (smallL.drop 2) m := fun m hm hf => by
    have := hf 0 (by decide) hm
    rw [two_fault] at this
    cases this
  rcases h with ⟨h2 | ⟨h3, h4, _, h5⟩, h0⟩ | ⟨h2, _⟩
  · exact absurd h2.1 h0
  · rcases Nat.eq_zero_or_pos k with rfl | hk
    · exact ⟨rfl, h4.trans two_fault⟩
    · exact absurd h5 (h1 k hk)
  · exact absurd h2 (h1 _ (by decide))
theorem two_not : ¬ Fine (smallL.drop 2) (smallL.drop 2).length := fun hf => by
  have := hf 0 (by decide) (by decide)
  rw [two_fault] at this
  cases this
/-- What the two operations tell. -/
theorem small_laid (s1 s2 s3 s4 : Value) : laidM [[112], [114]] [[113]] [hvOf (callA, s1, s2), hvOf (callB, s3, s4)] = some [(⟨1, [112], [113], [101, 110, 113], oneVl 1, 0, 0, 0⟩, s1), (⟨1, [114], [113], [100, 101, 113], oneVl 0, 0, 0, 0⟩, s3), (⟨2, [112], [], [], oneVl 0, 0, 0, 0⟩, s2), (⟨2, [114], [], [], oneVl 1, 0, 0, 0⟩, s4)] := by rfl
theorem small_agree (s1 s2 s3 s4 : Value) : AgreeM [[112], [114]] [[113]] [hvOf (callA, s1, s2), hvOf (callB, s3, s4)] smallL :=
  ⟨small_fine, small_no, by rw [small_g], by rw [small_g], by rw [small_g]; rfl⟩
theorem small_wid : (wid smallL smallL.length).2 = 2 := by rfl
theorem small_open (s1 s2 s3 s4 : Value) : opnTo [hvOf (callA, s1, s2), hvOf (callB, s3, s4)] 3 2 = [1] := by rfl
theorem small_idx : idxN [[112], [114]] [114] = 1 := by rfl
end Go.Proofs.YtnmkggoampkekaaGreatDoor

/- heads of layer 7's statements answers true. -/
namespace Go.Proofs.YtnmkggoampkekaaGreatDoor
open Go.RowKit Go.Maps

theorem one7_k (i : Int) (w : World) : Calls Tryz.prog 36 #[.int .i64 i] w fun e w' => e = .returned (.agg (vcells (oneVl i) (.slice none 0 0))) ∧ Below w.heap.size w w' := by
  obtain ⟨W, hW⟩ : ∃ W, w.alloc (.cells zcells 57) = W := ⟨_, rfl⟩
  have bW : Below w.heap.size w W := by rw [← hW]; exact alloc_v (Below.refl _ _) _
  have e1 : W.heap[w.heap.size]? = some (.cells zcells 57 (0, 0)) := by rw [← hW]; exact World.alloc_heap_new w _
  have x0 := cells_at e1 0 _ rfl
  have x1 := cells_at e1 1 _ rfl
  have x2 := cells_at e1 2 _ rfl
  have x3 := cells_at e1 3 _ rfl
  have x4 := cells_at e1 4 _ rfl
  have q0 := frozen_at e1 0
  have q1 := frozen_at e1 1
  have q2 := frozen_at e1 2
  have q3 := frozen_at e1 3
  have q4 := frozen_at e1 4
  have E := hide e1
  clear e1
  go_enter Tryz.func36, Tryz.ntmps36
  go_wp2
  have g := stored w W 2 i 0 ⟨#[]⟩ (.slice none 0 0) zcells w.heap.size (Nat.le_refl _) bW rfl E.out
  refine bodyPost_ret (results_cell_row rfl _ _ w.heap.size _ _ _ _ rfl g.1 Tryz.underlying57 rfl infoVal5) rfl ?_
  exact ⟨rfl, g.2⟩
def smallE : List EV := smallL.map (fun e => (e, .slice none 0 0))
theorem one_ok (i : Int) (h : i = 0 ∨ i = 1) : (oneVl i).ok ∧ (oneVl i).size ≤ 1000000000 := by
  refine ⟨⟨by show 0 ≤ 1048576; omega, ?_, ?_⟩, ?_⟩
  · show (-9223372036854775808 : Int) ≤ i ∧ i ≤ 9223372036854775807; omega
  · show (-9223372036854775808 : Int) ≤ 0 ∧ (0 : Int) ≤ 9223372036854775807; omega
  · rw [Vl.size_eq]; simp [oneVl]
theorem smallE_good (w : World) (B n : Nat) : EvsGood w B (n + 1) smallE := fun x hx => by
  have h0 := one_ok 0 (.inl rfl)
  have h1 := one_ok 1 (.inr rfl)
  have hi : ∀ i, ItemsAt w B (n + 1) (.slice none 0 0) (oneVl i).items := fun i => ⟨none, 0, rfl, by simp [oneVl], fun j h => absurd h (by simp [oneVl])⟩
  simp only [smallE, smallL, List.map_cons, List.map_nil, List.mem_cons, List.not_mem_nil, or_false] at hx
  rcases hx with rfl | rfl | rfl | rfl
  · exact ⟨hi 1, ⟨by simp, by simp, by simp, h1.1⟩, h1.2⟩
  · exact ⟨hi 0, ⟨by simp, by simp, by simp, h0.1⟩, h0.2⟩
  · exact ⟨hi 0, ⟨by simp, by simp, by simp, h0.1⟩, h0.2⟩
  · exact ⟨hi 1, ⟨by simp, by simp, by simp, h1.1⟩, h1.2⟩
theorem EvsAt.tail2 {w : World} {B n g c : Nat} {e0 e1 : Evn} {l : List Evn} (h : EvsAt w B n (.slice (some ⟨g, 0, none⟩) (l.length + 2) c) (e0 :: e1 :: l)) (c' : Nat) : EvsAt w B n (.slice (some ⟨g, 24, none⟩) l.length c') l := by
  obtain ⟨a', c0, e, hl, hc⟩ := h
  refine ⟨_, _, rfl, by simp at hl; omega, fun j hj => ?_⟩
  obtain ⟨b, off, s', ea, hb, h1, h2⟩ := hc (j + 2) (by simp; omega)
  cases e
  cases ea
  refine ⟨g, 24, s', rfl, hb, fun i v hv => ?_, ?_⟩
  · have := h1 i v (by simpa using hv)
    rw [← this]
    congr 2
    omega
  · simpa using h2
set_option maxRecDepth 100000 in
set_option maxHeartbeats 2000000 in
theorem small_k (w : World) (n : Nat) : Calls Tryz.prog 22 #[] w fun e w' => (∃ g, e = .returned (.slice (some ⟨g, 0, none⟩) 4 4) ∧ EvsAt w' w'.heap.size (n + 1) (.slice (some ⟨g, 0, none⟩) 4 4) smallL) ∧ Below w.heap.size w w' := by
  have HO := hide (fun (i : Int) (U : World) => one7_k i U)
  have BB := hide (Below.refl w.heap.size w)
  go_enter Tryz.func22, Tryz.ntmps22
  go_wp2_with (go_at_call 36; refine (HO.out _ _).mono ?_; rintro r w1 ⟨rfl, b1⟩; have BN := hide (trans_v BB.out b1); clear BB b1; have BB := BN; clear BN)
  go_ret
  refine ⟨⟨w1.heap.size, rfl, ?_⟩, alloc_v BB.out _⟩
  have r := World.ownsRow_lit (base := w1.heap.size) (e := 61) (size := 12) w1 (erow smallE).toArray 4 (Nat.le_refl _) (by unfold maxLen; omega) rfl
  exact evs_of_row (E := smallE) (B := 0) (n := n + 1) r (by decide) (smallE_good _ _ _) (Nat.zero_le _)
/-- What Make made, as operations made by hand. -/
theorem MadeAt.past {w : World} {h0 L n : Nat} {g : Gs} {v0 v1 v2 : Value} {rs : List CV} (h : MadeAt w h0 L n g v0 v1 v2 rs) (hp : g.procs.length ≤ 1000000000) (ho : g.objs.length ≤ 1000000000) (hc : g.calls.length ≤ 1000000000) (np : ∀ s ∈ g.procs, s.length ≤ 1048576) (no : ∀ s ∈ g.objs, s.length ≤ 1048576) : HPast w w.heap.size n v0 v1 v2 g.procs g.objs (rs.map hvOf) := by
  have hrl : rs.length = g.calls.length := by have := congrArg List.length h.same; simpa using this
  have hcl := h.cl
  rw [← hrl] at hcl
  refine ⟨NamesAt.row h.pr hp, NamesAt.row h.ob ho, HvsAt.row hcl (by omega), fun x hx => ?_, np, no⟩
  obtain ⟨y, hy, rfl⟩ := List.mem_map.1 hx
  exact ⟨(h.own y hy).1.in.at (fun b hb => hb.2.1), (h.own y hy).2.in.at (fun b hb => hb.2.1), h.oks y hy⟩
set_option maxRecDepth 100000 in
set_option maxHeartbeats 8000000 in
theorem heads7_k (w : World) (hT : TabL w) : Calls Tryz.prog 8 #[] w fun e w' => e = .returned (.bool true) ∧ Below w.heap.size w w' := by
  have HS := hide (small_k w 0)
  have HT := hide hT
  clear hT
  go_enter Tryz.func8, Tryz.ntmps8
  go_upto_region 1 with (fail)
  go_upto_region 2 with (first
    | (go_at_call 22; refine HS.out.mono ?_; clear HS; rintro r w1 ⟨⟨g, rfl, hev⟩, b1⟩; have HM := hide (make_k smallL w1 0 _ (HT.out.below b1) hev); have B1 := hide b1; clear b1 hev)
    | (go_at_call 21; refine HM.out.mono ?_; clear HM; rintro r w2 ⟨⟨v0, v1, v2, at', code, rfl, hres⟩, b2⟩; obtain ⟨⟨a0, m0, c0, rfl⟩, ⟨a1, m1, c1, rfl⟩, ⟨a2, m2, c2, rfl⟩⟩ := make_forms hres; have HRES := hide hres; have B2 := hide (trans_v B1.out b2); clear hres b2))
  obtain ⟨X, hX⟩ : ∃ X, w2.alloc (.cells #[.slice a0 m0 c0, .slice a1 m1 c1, .slice a2 m2 c2] 25) = X := ⟨_, rfl⟩
  have bX : Below w2.heap.size w2 X := by rw [← hX]; exact alloc_v (Below.refl _ _) _
  have zX : w2.heap.size < X.heap.size := by rw [← hX]; simp
  have eX : X.heap[w2.heap.size]? = some (.cells #[.slice a0 m0 c0, .slice a1 m1 c1, .slice a2 m2 c2] 25 (0, 0)) := by rw [← hX]; exact World.alloc_heap_new w2 _
  rw [hX]
  clear hX
  rcases HRES.out with ⟨hr, _⟩ | ⟨rfl, rfl, hfine, hnl, rs, L, hL1, hL2, hp⟩
  · exact absurd ⟨small_fine, small_no⟩ (refused_no hr).2
  clear HRES hfine hnl
  rw [small_g] at hp
  have hsm := hp.same
  rcases rs with _ | ⟨⟨x, s1, s2⟩, _ | ⟨⟨y, s3, s4⟩, _ | ⟨z, t⟩⟩⟩ <;> simp only [List.map_cons, List.map_nil, List.cons.injEq, reduceCtorEq, and_false, and_true] at hsm
  obtain ⟨rfl, rfl⟩ := hsm
  have hP : HPast w2 w2.heap.size 1 (.slice a0 m0 c0) (.slice a1 m1 c1) (.slice a2 m2 c2) [[112], [114]] [[113]] [hvOf (callA, s1, s2), hvOf (callB, s3, s4)] := hp.past (by decide) (by decide) (by decide) (by decide) (by decide)
  have hcl2 : w2.ownsRow L 69 15 (.slice a2 m2 c2) 2 (crow [(callA, s1, s2), (callB, s3, s4)]) := hp.cl
  obtain ⟨gc, cc, ec, lc, ltc⟩ := hcl2.form (by decide)
  have hgcell : w2.cell? ⟨gc, 24, none⟩ = some (.int .i64 3) := by
    rw [ec] at hcl2
    exact (hcl2.cellAt 24 (by decide)).trans rfl
  simp only [Value.slice.injEq] at ec
  obtain ⟨rfl, rfl, rfl⟩ := ec
  have hPX := (hP.below bX).up bX.size
  have HPX := hide hPX
  have HTX := hide (HT.out.below (trans_v B2.out bX))
  have HG := hide (fun (U : World) (b : Below X.heap.size X U) => ((trans_v bX b).cell (p := ⟨gc, 24, none⟩) ltc).trans hgcell)
  have HE := hide (fun (U : World) (b : Below X.heap.size X U) => (b.block w2.heap.size zX).trans eX)
  have BX := hide (trans_v B2.out bX)
  have x0 := cells_at eX 0 _ rfl
  have x1 := cells_at eX 1 _ rfl
  have x2 := cells_at eX 2 _ rfl
  clear hp hP hcl2 hPX eX bX hL1 hL2 lc hgcell
  have hlaid := small_laid s1 s2 s3 s4
  have hagr := small_agree s1 s2 s3 s4
  have HW := hide (widestY_k X 0 _ _ _ _ _ _ HTX.out HPX.out (by simp) _ hlaid hagr)
  have HOP := hide (fun (U : World) (b : Below X.heap.size X U) => openY_k U 0 _ _ _ _ _ _ (HTX.out.below b) ((HPX.out.below b).up b.size) (by simp) ⟨_, hlaid, hagr⟩ 3 (by decide) (by show (3 : Int) ≤ 4; decide))
  have HCK := hide (fun (U : World) (b : Below X.heap.size X U) => checkP_k U 0 _ _ _ _ _ _ (HTX.out.below b) ((HPX.out.below b).up b.size) (by simp))
  have HPR := hide (fun (U : World) (b : Below X.heap.size X U) => procP_k U (.slice a0 m0 c0) (.slice a1 m1 c1) (.slice (some ⟨gc, 0, none⟩) 2 c2) [[112], [114]] ((HPX.out.below b).up b.size).pr ⟨_, _, _, rfl⟩ ⟨_, _, _, rfl⟩ [114])
  have HLA := hide (show ToldOk _ _ _ from ⟨_, hlaid, hagr⟩)
  clear hlaid hagr
  go_upto_region 3 with (go_at_call 12; refine HW.out.mono ?_; clear HW; rintro r w3 ⟨rfl, b3⟩; have B3 := hide b3; clear b3)
  clear x0 x1 x2
  have f3 := HE.out _ B3.out
  have x0 := cells_at f3 0 _ rfl
  have x1 := cells_at f3 1 _ rfl
  have x2 := cells_at f3 2 _ rfl
  clear f3
  go_upto_region 4 with (go_at_call 10; refine (HOP.out _ B3.out).mono ?_; clear HOP; rintro r w4 ⟨⟨v, rfl, hrow⟩, b4⟩; have hrow2 : w4.ownsRow w3.heap.size 3 1 v 1 [.int .i64 1] := hrow; clear hrow; obtain ⟨go, co, rfl, lo, ltc4⟩ := hrow2.form (by decide); have o0 := (hrow2.cellAt 0 (by decide)).trans rfl; have O0 := hide (show w4.cell? ⟨go, 0, none⟩ = some (.int .i64 1) from o0); have B4 := hide (trans_v B3.out b4); clear b4 hrow2 o0)
  clear x0 x1 x2
  have HS2 := hide (small_k w4 0)
  go_upto_region 5 with (first
    | (go_at_call 22; refine HS2.out.mono ?_; clear HS2; rintro r w5 ⟨⟨g5, rfl, hev⟩, b5⟩; have HM2 := hide (make_k (smallL.drop 2) w5 0 (.slice (some ⟨g5, 24, none⟩) 2 2) (HTX.out.below (trans_v B4.out b5)) (EvsAt.tail2 (l := smallL.drop 2) hev 2)); have B5 := hide (trans_v B4.out b5); have O5 := hide ((b5.cell (p := ⟨go, 0, none⟩) ltc4).trans O0.out); have l5 := Nat.lt_of_lt_of_le ltc4 b5.size; clear b5 hev)
    | (go_at_call 21; refine HM2.out.mono ?_; clear HM2; rintro r w6 ⟨⟨u0, u1, u2, at2, code2, rfl, hres⟩, b6⟩; obtain ⟨⟨d0, k0, e0, rfl⟩, ⟨d1, k1, e1, rfl⟩, ⟨d2, k2, e2, rfl⟩⟩ := make_forms hres; have hz : at2 = 0 ∧ code2 = 70 := (by rcases hres with ⟨hr, _⟩ | ⟨_, _, hf, _⟩; exact two_refused hr; exact absurd hf two_not); obtain ⟨rfl, rfl⟩ := hz; have B6 := hide (trans_v B5.out b6); have O6 := hide ((b6.cell (p := ⟨go, 0, none⟩) l5).trans O5.out); have l6 := Nat.lt_of_lt_of_le l5 b6.size; clear hres b6))
  obtain ⟨Y, hY⟩ : ∃ Y, w6.alloc (.cells #[.slice d0 k0 e0, .slice d1 k1 e1, .slice d2 k2 e2] 25) = Y := ⟨_, rfl⟩
  have bY : Below w6.heap.size w6 Y := by rw [← hY]; exact alloc_v (Below.refl _ _) _
  rw [hY]
  clear hY
  have bXY := trans_v B6.out bY
  have f7 := HE.out _ bXY
  have x0 := cells_at f7 0 _ rfl
  have x1 := cells_at f7 1 _ rfl
  have x2 := cells_at f7 2 _ rfl
  have x3 := HG.out _ bXY
  have x4 := (bY.cell (p := ⟨go, 0, none⟩) l6).trans O6.out
  have HX := hide (fun (U : World) (b : Below X.heap.size X U) => (show U.cell? ⟨w2.heap.size, 0, none⟩ = some (.slice a0 m0 c0) ∧ U.cell? ⟨w2.heap.size, 1, none⟩ = some (.slice a1 m1 c1) ∧ U.cell? ⟨w2.heap.size, 2, none⟩ = some (.slice (some ⟨gc, 0, none⟩) 2 c2) from ⟨cells_at (HE.out U b) 0 _ rfl, cells_at (HE.out U b) 1 _ rfl, cells_at (HE.out U b) 2 _ rfl⟩))
  have BXY := hide bXY
  have hwd := small_wid
  have hix := small_idx
  rw [hix] at HPR
  clear f7 bXY hix
  go_wp2_with (first
    | (go_at_call 23; refine (HCK.out _ BXY.out).mono ?_; clear HCK; rintro r w8 ⟨⟨kk, rfl, hk⟩, b8⟩; have hk0 : kk = 0 := (by rcases hk with ⟨h, _⟩ | ⟨_, h⟩; exact h; exact absurd HLA.out h); subst hk0; have B8 := hide (trans_v BXY.out b8); obtain ⟨y0, y1, y2⟩ := HX.out _ B8.out; clear hk b8)
    | (go_at_call 24; refine (HPR.out _ B8.out).mono ?_; clear HPR; rintro r w9 ⟨rfl, b9⟩; have B9 := hide (trans_v B8.out b9); clear b9))
  go_ret
  exact ⟨rfl, trans_v BX.out B9.out⟩
end Go.Proofs.YtnmkggoampkekaaGreatDoor
