/- Open and Widest of both, of all operations. -/
import Derived.Test.YtnmkggoampkekaaGreatDoorGHTlA
import Derived.Test.YtnmkggoampkekaaGreatDoorGHRfE
import Derived.Test.YtnmkggoampkekaaGreatDoorGHChG
namespace Go.Proofs.YtnmkggoampkekaaGreatDoor
open Go.RowKit Go.Maps

/-- What the reference's Events answers, told ahead: the code and the events. -/
structure REv (n : Nat) (v0 v1 v2 : Value) (c : Int) (L : List Evn) (U : World) : Prop where
  rev : Calls Tryz.prog 26 #[.agg #[v0, v1, v2]] U fun e w' => (∃ va vm vc, e = .returned (.tuple #[.slice va vm vc, .int .i64 c]) ∧ EvsAt w' w'.heap.size (n + 1) (.slice va vm vc) L) ∧ Below U.heap.size U w'
theorem rev_yes (n : Nat) (v0 v1 v2 : Value) (P O : List (List UInt8)) (cs : List HV) (hcs : cs.length ≤ 100000000) (E : List EV) (hlm : laidM P O cs = some E) (hag : AgreeM P O cs (E.map (·.1))) (U : World) (h : HPast U U.heap.size (n + 1) v0 v1 v2 P O cs) : REv n v0 v1 v2 0 (E.map (·.1)) U := by
  obtain ⟨hmb, hlr⟩ := told_laidR hlm hag
  refine ⟨(refEvents_k U n v0 v1 v2 P O cs h hcs).mono ?_⟩
  rintro e w' ⟨⟨v, code, rfl, hr⟩, hb⟩
  refine ⟨?_, hb⟩
  rcases hr with ⟨rfl, E2, h1, _, h3⟩ | ⟨_, _, hno⟩
  · obtain rfl : E.map (·.1) = E2 := Option.some.inj (hlr.symm.trans h1)
    obtain ⟨a, c, rfl, _⟩ := h3.len
    exact ⟨_, _, _, rfl, h3⟩
  · exact absurd hmb (hno _ hlr)
theorem rev_no (n : Nat) (v0 v1 v2 : Value) (P O : List (List UInt8)) (cs : List HV) (hcs : cs.length ≤ 100000000) (ht : ¬ ToldOk P O cs) (U : World) (h : HPast U U.heap.size (n + 1) v0 v1 v2 P O cs) : REv n v0 v1 v2 2 [] U := by
  refine ⟨(refEvents_k U n v0 v1 v2 P O cs h hcs).mono ?_⟩
  rintro e w' ⟨⟨v, code, rfl, hr⟩, hb⟩
  refine ⟨?_, hb⟩
  rcases hr with ⟨_, E2, h1, h2, h3⟩ | ⟨rfl, rfl, _⟩
  · obtain ⟨E', k1, _, k3⟩ := h2.told
    exact absurd ⟨E', k1, k3⟩ ht
  · exact ⟨_, _, _, rfl, ⟨none, 0, rfl, Nat.zero_le _, fun j hj => by simp at hj⟩⟩

set_option maxRecDepth 100000 in
set_option maxHeartbeats 4000000 in
/-- Open of the reference where it refuses. -/
theorem refOpenN_k (w : World) (n : Nat) (v0 v1 v2 : Value) (P O : List (List UInt8)) (cs : List HV) (h : HPast w w.heap.size (n + 1) v0 v1 v2 P O cs) (c : Int) (L : List Evn) (hr : ∀ U, Below w.heap.size w U → REv n v0 v1 v2 c L U) (t : Int) (hc : c ≠ 0 ∨ t < 0 ∨ (L.length : Int) < t) :
    Calls Tryz.prog 11 #[.agg #[v0, v1, v2], .int .i64 t] w fun e w' => e = .returned (.tuple #[.slice none 0 0, .int .i64 2]) ∧ Below w.heap.size w w' := by
  obtain ⟨a0, c0, rfl, hl0⟩ := h.pr.len
  obtain ⟨a1, c1, rfl, hl1⟩ := h.ob.len
  obtain ⟨a2, c2, rfl, hl2⟩ := h.cl.len
  obtain ⟨W, hW⟩ : ∃ W, w.alloc (.cells #[.slice a0 P.length c0, .slice a1 O.length c1, .slice a2 cs.length c2] 25) = W := ⟨_, rfl⟩
  have bW : Below w.heap.size w W := by rw [← hW]; exact alloc_v (Below.refl _ _) _
  have e1 : W.heap[w.heap.size]? = some (.cells #[.slice a0 P.length c0, .slice a1 O.length c1, .slice a2 cs.length c2] 25 (0, 0)) := by rw [← hW]; exact World.alloc_heap_new w _
  have HE := hide (hr W bW).rev
  have x0 := cells_at e1 0 _ rfl
  have x1 := cells_at e1 1 _ rfl
  have x2 := cells_at e1 2 _ rfl
  clear h hr e1
  by_cases hcz : c = 0
  · subst hcz
    by_cases ht0 : t < 0
    · clear hc
      go_enter Tryz.func11, Tryz.ntmps11
      go_wp2_with (go_at_call 26; refine HE.out.mono ?_; clear HE; rintro r w1 ⟨⟨va, vm, vc, rfl, _⟩, b1⟩; have HB := hide (trans_v bW b1); clear b1)
      go_ret2
      exact ⟨rfl, HB.out⟩
    · have ht1 : (L.length : Int) < t := by rcases hc with h | h | h <;> first | exact absurd rfl h | omega
      clear hc
      go_enter Tryz.func11, Tryz.ntmps11
      go_wp2_with (go_at_call 26; refine HE.out.mono ?_; clear HE; rintro r w1 ⟨⟨va, vm, vc, rfl, hev⟩, b1⟩; have HB := hide (trans_v bW b1); obtain ⟨ea, ec, eq, _⟩ := hev.len; cases eq; clear b1 hev)
      go_ret2
      exact ⟨rfl, HB.out⟩
  · have hcb : (c != 0) = true := by simpa using hcz
    clear hc hcz
    go_enter Tryz.func11, Tryz.ntmps11
    go_wp2_with (go_at_call 26; refine HE.out.mono ?_; clear HE; rintro r w1 ⟨⟨va, vm, vc, rfl, _⟩, b1⟩; have HB := hide (trans_v bW b1); clear b1)
    go_ret2
    exact ⟨rfl, HB.out⟩
theorem row_down {w : World} {L L' : Nat} {t : TypeId} {z n : Nat} {v : Value} {xs : List Value} (h : w.ownsRow L t z v n xs) (hL : L' ≤ L) : w.ownsRow L' t z v n xs := by
  refine ⟨h.1, ?_⟩
  rcases h.2 with hn | ⟨g', cap', cur, e, hbg, rest⟩
  · exact .inl hn
  · exact .inr ⟨g', cap', cur, e, by omega, rest⟩
/-- Of made operations the response is none or a place. -/
theorem isOpn_ref {x : HV} {t : Int} (h : -1 ≤ x.1.res) : isOpn x t = (decide (x.1.inv < t) && (decide (x.1.res < 0) || decide (t ≤ x.1.res))) := by
  unfold isOpn
  congr 2
  rw [decide_eq_decide]
  omega
set_option maxRecDepth 100000 in
set_option maxHeartbeats 8000000 in
/-- Open of the reference where it answers. -/
theorem refOpenY_k (w : World) (n : Nat) (v0 v1 v2 : Value) (P O : List (List UInt8)) (cs : List HV) (h : HPast w w.heap.size (n + 1) v0 v1 v2 P O cs) (hcs : cs.length ≤ 100000000) (L : List Evn) (hr : ∀ U, Below w.heap.size w U → REv n v0 v1 v2 0 L U) (hres : ∀ j (hj : j < cs.length), -1 ≤ cs[j].1.res) (t : Int) (ht0 : 0 ≤ t) (ht1 : t ≤ (L.length : Int)) :
    Calls Tryz.prog 11 #[.agg #[v0, v1, v2], .int .i64 t] w fun e w' => (∃ v, e = .returned (.tuple #[v, .int .i64 0]) ∧ w'.ownsRow w.heap.size 3 1 v (opnTo cs t cs.length).length (natsH (opnTo cs t cs.length))) ∧ Below w.heap.size w w' := by
  obtain ⟨i0, hi, hz0, hz1, hz2⟩ := info_partsV infoIntH
  have hsls := h.sls
  obtain ⟨a0, c0, rfl, hl0⟩ := h.pr.len
  obtain ⟨a1, c1, rfl, hl1⟩ := h.ob.len
  obtain ⟨a2, c2, rfl, hl2⟩ := h.cl.len
  obtain ⟨W, hW⟩ : ∃ W, w.alloc (.cells #[.slice a0 P.length c0, .slice a1 O.length c1, .slice a2 cs.length c2] 25) = W := ⟨_, rfl⟩
  have bW : Below w.heap.size w W := by rw [← hW]; exact alloc_v (Below.refl _ _) _
  have zW : W.heap.size = w.heap.size + 1 := by rw [← hW]; simp
  have e1 : W.heap[w.heap.size]? = some (.cells #[.slice a0 P.length c0, .slice a1 O.length c1, .slice a2 cs.length c2] 25 (0, 0)) := by rw [← hW]; exact World.alloc_heap_new w _
  have HE := hide (hr W bW).rev
  have HBL := hide (fun (U : World) (b : Below W.heap.size W U) => (b.block w.heap.size (by omega)).trans e1)
  have x0 := cells_at e1 0 _ rfl
  have x1 := cells_at e1 1 _ rfl
  have x2 := cells_at e1 2 _ rfl
  have hn0 : ¬ (t < 0) := by omega
  have hn1 : ¬ ((L.length : Int) < t) := by omega
  have HH := hide h
  have HRS := hide hres
  have ZW := hide zW
  clear h hr e1 ht0 ht1 zW hres
  go_enter Tryz.func11, Tryz.ntmps11
  go_wp2_with (go_at_call 26; refine HE.out.mono ?_; clear HE; rintro r w1 ⟨⟨va, vm, vc, rfl, hev⟩, b1⟩; have B1 := hide b1; obtain ⟨ea, ec, eq, _⟩ := hev.len; cases eq; clear b1 hev)
  clear x0 x1 x2 hn0 hn1
  have ZZ := ZW.out
  go_loopw [8, 9] (fun v i wr => ∃ k : Nat, k ≤ cs.length ∧ i = .int .i64 k ∧ wr.ownsRow W.heap.size 3 1 v (opnTo cs t k).length (natsH (opnTo cs t k)) ∧ Below W.heap.size W wr) (fun _ i _ => cs.length - (intOf i).toNat)
  case atStart => exact ⟨0, Nat.zero_le _, rfl, World.ownsRow_nil _ _ _ _, B1.out⟩
  case round =>
    obtain ⟨k, hk, rfl, hrow, hbel⟩ := hrel
    have f2 := HBL.out _ hbel
    have x2 := cells_at f2 2 _ rfl
    clear f2
    by_cases hlt : k < cs.length
    · obtain ⟨b3, o3, rfl, g3, p0, p1, p2, p3, p4, p5, p6, p7, p8, p9, p10, p11, p12, p13, p14⟩ := (HH.out.cl.below (trans_v bW hbel)).item k hlt
      have hon := opnTo_len cs t k
      have hrs := HRS.out k hlt
      have HY := hide (fun e => opnTo_yes (cs := cs) (t := t) hlt e)
      have HN := hide (fun e => opnTo_no (cs := cs) (t := t) hlt e)
      obtain ⟨⟨s1, s2, s3, es⟩, ⟨t1, t2, t3, et⟩⟩ := hsls _ (List.getElem_mem hlt)
      rw [es] at p7
      rw [et] at p14
      clear es et
      have hsz := hbel.size
      have l3 : b3 < wr.heap.size := by omega
      have k0 : (0 : Int) ≤ (k : Int) := by omega
      have k1 : (k : Int) < (cs.length : Int) := by omega
      have HB := hide hbel
      have HR := hide hrow
      have HZZ := hide ZZ
      clear hbel g3 hrow ZZ
      generalize cs[k] = x at *
      by_cases h1 : x.1.inv < t
      rotate_left
      · have HF := hide (HN.out (by rw [isOpn_ref hrs]; simp [h1]))
        clear HY HN
        go_wp2
        go_roundw
        case rel => exact ⟨k + 1, by omega, by go_num, by rw [HF.out]; exact HR.out.alloc _, alloc_v HB.out _⟩
        case measure => simp [intOf]; omega
      by_cases h2 : x.1.res < 0
      · have HF := hide (HY.out (by rw [isOpn_ref hrs]; simp [h1, h2]))
        clear HY HN
        obtain ⟨V, hV⟩ : ∃ V, wr.alloc (.cells #[.int .i64 x.1.proc, .int .i64 x.1.obj, .string (bsN x.1.op), .int .i64 x.1.arg.kind, .int .i64 x.1.arg.int, .int .i64 x.1.arg.im, .string x.1.arg.text, .slice s1 s2 s3, .int .i64 x.1.inv, .int .i64 x.1.res, .int .i64 x.1.reply.kind, .int .i64 x.1.reply.int, .int .i64 x.1.reply.im, .string x.1.reply.text, .slice t1 t2 t3] 69) = V := ⟨_, rfl⟩
        have HRV := hide (show V.ownsRow W.heap.size 3 1 _ (opnTo cs t k).length (natsH (opnTo cs t k)) from by rw [← hV]; exact HR.out.alloc _)
        have HBV := hide (show Below W.heap.size W V from by rw [← hV]; exact alloc_v HB.out _)
        have hszV : W.heap.size ≤ V.heap.size := HBV.out.size
        have eV : V.heap[wr.heap.size]? = some (.cells #[.int .i64 x.1.proc, .int .i64 x.1.obj, .string (bsN x.1.op), .int .i64 x.1.arg.kind, .int .i64 x.1.arg.int, .int .i64 x.1.arg.im, .string x.1.arg.text, .slice s1 s2 s3, .int .i64 x.1.inv, .int .i64 x.1.res, .int .i64 x.1.reply.kind, .int .i64 x.1.reply.int, .int .i64 x.1.reply.im, .string x.1.reply.text, .slice t1 t2 t3] 69 (0, 0)) := by rw [← hV]; exact World.alloc_heap_new wr _
        have g8 := cells_at eV 8 _ rfl
        have g9 := cells_at eV 9 _ rfl
        clear eV
        go_wp2_with (at_builtin; refine wpList_append_own _ rfl _ _ 36 rfl W.heap.size 3 i0 (.int .i64 0) 1 8 Tryz.underlying36 hi hz0 hz1 hz2 rfl (by decide) _ _ _ rfl (HRV.out.alloc _) ⟨V.heap.size, 0, none⟩ 1 1 [.int .i64 (k : Int)] rfl rfl (cell_one_new _ _ _) (by simp [Value.oneCell']) (by unfold maxLen; omega) (by omega) (by simp; omega) ?_; intro v' w4 hown hgrow _; have R := hide (show w4.ownsRow W.heap.size 3 1 v' (opnTo cs t (k + 1)).length (natsH (opnTo cs t (k + 1))) from by rw [HF.out, natsH_snoc, List.length_append]; exact hown); have RB := hide (show Below W.heap.size W w4 from ((HBV.out.alloc HBV.out.size _).grown hgrow (by have := HBV.out.size; simp; omega) (fun r e => (HRV.out.lt r e).1))); clear hown hgrow)
        go_roundw
        case rel => exact ⟨k + 1, by omega, by go_num, R.out, RB.out⟩
        case measure => simp [intOf]; omega
      by_cases h3 : t ≤ x.1.res
      · have HF := hide (HY.out (by rw [isOpn_ref hrs]; simp [h1, h3]))
        clear HY HN
        obtain ⟨V, hV⟩ : ∃ V, wr.alloc (.cells #[.int .i64 x.1.proc, .int .i64 x.1.obj, .string (bsN x.1.op), .int .i64 x.1.arg.kind, .int .i64 x.1.arg.int, .int .i64 x.1.arg.im, .string x.1.arg.text, .slice s1 s2 s3, .int .i64 x.1.inv, .int .i64 x.1.res, .int .i64 x.1.reply.kind, .int .i64 x.1.reply.int, .int .i64 x.1.reply.im, .string x.1.reply.text, .slice t1 t2 t3] 69) = V := ⟨_, rfl⟩
        have HRV := hide (show V.ownsRow W.heap.size 3 1 _ (opnTo cs t k).length (natsH (opnTo cs t k)) from by rw [← hV]; exact HR.out.alloc _)
        have HBV := hide (show Below W.heap.size W V from by rw [← hV]; exact alloc_v HB.out _)
        have hszV : W.heap.size ≤ V.heap.size := HBV.out.size
        have eV : V.heap[wr.heap.size]? = some (.cells #[.int .i64 x.1.proc, .int .i64 x.1.obj, .string (bsN x.1.op), .int .i64 x.1.arg.kind, .int .i64 x.1.arg.int, .int .i64 x.1.arg.im, .string x.1.arg.text, .slice s1 s2 s3, .int .i64 x.1.inv, .int .i64 x.1.res, .int .i64 x.1.reply.kind, .int .i64 x.1.reply.int, .int .i64 x.1.reply.im, .string x.1.reply.text, .slice t1 t2 t3] 69 (0, 0)) := by rw [← hV]; exact World.alloc_heap_new wr _
        have g8 := cells_at eV 8 _ rfl
        have g9 := cells_at eV 9 _ rfl
        clear eV
        go_wp2_with (at_builtin; refine wpList_append_own _ rfl _ _ 36 rfl W.heap.size 3 i0 (.int .i64 0) 1 8 Tryz.underlying36 hi hz0 hz1 hz2 rfl (by decide) _ _ _ rfl (HRV.out.alloc _) ⟨V.heap.size, 0, none⟩ 1 1 [.int .i64 (k : Int)] rfl rfl (cell_one_new _ _ _) (by simp [Value.oneCell']) (by unfold maxLen; omega) (by omega) (by simp; omega) ?_; intro v' w4 hown hgrow _; have R := hide (show w4.ownsRow W.heap.size 3 1 v' (opnTo cs t (k + 1)).length (natsH (opnTo cs t (k + 1))) from by rw [HF.out, natsH_snoc, List.length_append]; exact hown); have RB := hide (show Below W.heap.size W w4 from ((HBV.out.alloc HBV.out.size _).grown hgrow (by have := HBV.out.size; simp; omega) (fun r e => (HRV.out.lt r e).1))); clear hown hgrow)
        go_roundw
        case rel => exact ⟨k + 1, by omega, by go_num, R.out, RB.out⟩
        case measure => simp [intOf]; omega
      · have HF := hide (HN.out (by rw [isOpn_ref hrs]; simp [h1]; omega))
        clear HY HN
        go_wp2
        go_roundw
        case rel => exact ⟨k + 1, by omega, by go_num, by rw [HF.out]; exact HR.out.alloc _, alloc_v HB.out _⟩
        case measure => simp [intOf]; omega
    · have he : k = cs.length := by omega
      subst he
      have R := hide (And.intro (row_down hrow (show w.heap.size ≤ W.heap.size by omega)) (trans_v bW hbel))
      clear hrow hbel
      go_wp2
      go_ret2
      exact ⟨⟨_, rfl, R.out.1⟩, R.out.2⟩
end Go.Proofs.YtnmkggoampkekaaGreatDoor

/- Open and Widest where the program refuses; the reference's Widest. -/
namespace Go.Proofs.YtnmkggoampkekaaGreatDoor
open Go.RowKit Go.Maps

set_option maxRecDepth 100000 in
set_option maxHeartbeats 4000000 in
theorem openN_k (w : World) (n : Nat) (v0 v1 v2 : Value) (P O : List (List UInt8)) (cs : List HV) (hT : TabL w) (h : HPast w w.heap.size (n + 1) v0 v1 v2 P O cs) (hcs : cs.length ≤ 100000000) (t : Int) (hno : ¬ ToldOk P O cs ∨ t < 0 ∨ (placesM cs : Int) < t) :
    Calls Tryz.prog 10 #[.agg #[v0, v1, v2], .int .i64 t] w fun e w' => e = .returned (.tuple #[.slice none 0 0, .int .i64 2]) ∧ Below w.heap.size w w' := by
  have hsls := h.sls
  obtain ⟨a0, c0, rfl, hl0⟩ := h.pr.len
  obtain ⟨a1, c1, rfl, hl1⟩ := h.ob.len
  obtain ⟨a2, c2, rfl, hl2⟩ := h.cl.len
  obtain ⟨W, hW⟩ : ∃ W, w.alloc (.cells #[.slice a0 P.length c0, .slice a1 O.length c1, .slice a2 cs.length c2] 25) = W := ⟨_, rfl⟩
  have bW : Below w.heap.size w W := by rw [← hW]; exact alloc_v (Below.refl _ _) _
  have zW : W.heap.size = w.heap.size + 1 := by rw [← hW]; simp
  have e1 : W.heap[w.heap.size]? = some (.cells #[.slice a0 P.length c0, .slice a1 O.length c1, .slice a2 cs.length c2] 25 (0, 0)) := by rw [← hW]; exact World.alloc_heap_new w _
  have HPL := hide (places_k W (.slice a0 P.length c0) (.slice a1 O.length c1) (.slice a2 cs.length c2) ⟨_, _, _, rfl⟩ ⟨_, _, _, rfl⟩ cs hsls ((h.cl.below bW).up bW.size))
  have HCK := hide (fun (U : World) (b : Below W.heap.size W U) => checkP_k U n _ _ _ P O cs (hT.below (trans_v bW b)) ((h.below (trans_v bW b)).up (trans_v bW b).size) hcs)
  have HE := hide (fun (U : World) (b : Below W.heap.size W U) => (b.block w.heap.size (by omega)).trans e1)
  have x0 := cells_at e1 0 _ rfl
  have x1 := cells_at e1 1 _ rfl
  have x2 := cells_at e1 2 _ rfl
  have BW := hide bW
  clear h hT e1 zW bW hsls
  generalize placesM cs = pm at *
  by_cases ht0 : t < 0
  · clear hno HPL HCK
    go_enter Tryz.func10, Tryz.ntmps10
    go_wp2
    go_ret2
    exact ⟨rfl, BW.out⟩
  by_cases ht1 : (pm : Int) < t
  · clear hno HCK
    go_enter Tryz.func10, Tryz.ntmps10
    go_wp2_with (go_at_call 25; refine HPL.out.mono ?_; clear HPL; rintro r w1 ⟨rfl, b1⟩; have B1 := hide (trans_v BW.out b1); clear b1)
    go_ret2
    exact ⟨rfl, B1.out⟩
  have HNO := hide (show ¬ ToldOk P O cs from by rcases hno with h | h | h <;> first | exact h | exact absurd h ht0 | exact absurd h ht1)
  clear hno
  go_enter Tryz.func10, Tryz.ntmps10
  go_wp2_with (first
    | (go_at_call 25; refine HPL.out.mono ?_; clear HPL; rintro r w1 ⟨rfl, b1⟩; have B1 := hide b1; have f1 := HE.out _ b1; have y0 := cells_at f1 0 _ rfl; have y1 := cells_at f1 1 _ rfl; have y2 := cells_at f1 2 _ rfl; clear b1 f1)
    | (go_at_call 23; refine (HCK.out _ B1.out).mono ?_; clear HCK; rintro r w2 ⟨⟨kk, rfl, hk⟩, b2⟩; have hk0 : kk = 2 := (by rcases hk with ⟨_, h⟩ | ⟨h, _⟩; exact absurd h HNO.out; exact h); subst hk0; have B2 := hide (trans_v BW.out (trans_v B1.out b2)); clear b2 hk))
  go_ret2
  exact ⟨rfl, B2.out⟩
set_option maxRecDepth 100000 in
set_option maxHeartbeats 4000000 in
theorem widestN_k (w : World) (n : Nat) (v0 v1 v2 : Value) (P O : List (List UInt8)) (cs : List HV) (hT : TabL w) (h : HPast w w.heap.size (n + 1) v0 v1 v2 P O cs) (hcs : cs.length ≤ 100000000) (hno : ¬ ToldOk P O cs) :
    Calls Tryz.prog 12 #[.agg #[v0, v1, v2]] w fun e w' => e = .returned (.tuple #[.int .i64 0, .int .i64 2]) ∧ Below w.heap.size w w' := by
  obtain ⟨a0, c0, rfl, hl0⟩ := h.pr.len
  obtain ⟨a1, c1, rfl, hl1⟩ := h.ob.len
  obtain ⟨a2, c2, rfl, hl2⟩ := h.cl.len
  obtain ⟨W, hW⟩ : ∃ W, w.alloc (.cells #[.slice a0 P.length c0, .slice a1 O.length c1, .slice a2 cs.length c2] 25) = W := ⟨_, rfl⟩
  have bW : Below w.heap.size w W := by rw [← hW]; exact alloc_v (Below.refl _ _) _
  have e1 : W.heap[w.heap.size]? = some (.cells #[.slice a0 P.length c0, .slice a1 O.length c1, .slice a2 cs.length c2] 25 (0, 0)) := by rw [← hW]; exact World.alloc_heap_new w _
  have HLD : Hid (Calls Tryz.prog 14 #[.agg #[.slice a0 P.length c0, .slice a1 O.length c1, .slice a2 cs.length c2]] W fun e w1 => e = .returned (.tuple #[.slice none 0 0, .int .i64 2]) ∧ Below w.heap.size w w1) := by
    refine hide ((told_k W n _ _ _ P O cs (hT.below bW) ((h.below bW).up bW.size) hcs).mono ?_)
    rintro r w1 ⟨⟨v, rfl, hres⟩, b1⟩
    rcases hres with ⟨rfl, _⟩ | ⟨E1, g, L, hl1', hag, _⟩
    · exact ⟨rfl, trans_v bW b1⟩
    · exact absurd ⟨E1, hl1', hag⟩ hno
  have x0 := cells_at e1 0 _ rfl
  have x1 := cells_at e1 1 _ rfl
  have x2 := cells_at e1 2 _ rfl
  clear h hT e1 hno
  go_enter Tryz.func12, Tryz.ntmps12
  go_wp2_with (go_at_call 14; refine HLD.out.mono ?_; clear HLD; rintro r w1 ⟨rfl, b1⟩; have HB := hide b1; clear b1)
  clear x0 x1 x2
  go_loopw [6, 7, 9, 17] (fun o m _ i wr => i = .int .i64 0 ∧ o = .int .i64 0 ∧ m = .int .i64 0 ∧ Below w.heap.size w wr) (fun _ _ _ _ _ => 0)
  case atStart => exact ⟨rfl, rfl, rfl, HB.out⟩
  case round =>
    clear HB
    obtain ⟨rfl, rfl, rfl, hb⟩ := hrel
    go_wp2
    go_ret2
    exact ⟨rfl, hb⟩
/-- The most that are open at the first k places. -/
def mxO (cs : List HV) : Nat → Nat
  | 0 => 0
  | k + 1 => max (mxO cs k) (opnN cs (k : Int))
theorem mxO_max (cs : List HV) : ∀ k, mxO cs (k + 1) = maxO cs k
  | 0 => by simp [mxO, maxO]
  | k + 1 => by rw [mxO, mxO_max cs k, maxO]
theorem mxO_le (cs : List HV) : ∀ k, mxO cs k ≤ cs.length
  | 0 => Nat.zero_le _
  | k + 1 => by
    have h1 := mxO_le cs k
    have h2 := opnTo_len cs (k : Int) cs.length
    rw [mxO]
    unfold opnN
    omega
set_option maxRecDepth 100000 in
set_option maxHeartbeats 4000000 in
theorem refWidestN_k (w : World) (n : Nat) (v0 v1 v2 : Value) (P O : List (List UInt8)) (cs : List HV) (h : HPast w w.heap.size (n + 1) v0 v1 v2 P O cs) (L : List Evn) (hr : ∀ U, Below w.heap.size w U → REv n v0 v1 v2 2 L U) :
    Calls Tryz.prog 13 #[.agg #[v0, v1, v2]] w fun e w' => e = .returned (.tuple #[.int .i64 0, .int .i64 2]) ∧ Below w.heap.size w w' := by
  obtain ⟨a0, c0, rfl, hl0⟩ := h.pr.len
  obtain ⟨a1, c1, rfl, hl1⟩ := h.ob.len
  obtain ⟨a2, c2, rfl, hl2⟩ := h.cl.len
  obtain ⟨W, hW⟩ : ∃ W, w.alloc (.cells #[.slice a0 P.length c0, .slice a1 O.length c1, .slice a2 cs.length c2] 25) = W := ⟨_, rfl⟩
  have bW : Below w.heap.size w W := by rw [← hW]; exact alloc_v (Below.refl _ _) _
  have e1 : W.heap[w.heap.size]? = some (.cells #[.slice a0 P.length c0, .slice a1 O.length c1, .slice a2 cs.length c2] 25 (0, 0)) := by rw [← hW]; exact World.alloc_heap_new w _
  have HE := hide (hr W bW).rev
  have x0 := cells_at e1 0 _ rfl
  have x1 := cells_at e1 1 _ rfl
  have x2 := cells_at e1 2 _ rfl
  clear h hr e1
  go_enter Tryz.func13, Tryz.ntmps13
  go_wp2_with (go_at_call 26; refine HE.out.mono ?_; clear HE; rintro r w1 ⟨⟨va, vm, vc, rfl, _⟩, b1⟩; have HB := hide (trans_v bW b1); clear b1)
  go_ret2
  exact ⟨rfl, HB.out⟩
set_option maxRecDepth 100000 in
set_option maxHeartbeats 8000000 in
theorem refWidestY_k (w : World) (n : Nat) (v0 v1 v2 : Value) (P O : List (List UInt8)) (cs : List HV) (h : HPast w w.heap.size (n + 1) v0 v1 v2 P O cs) (hcs : cs.length ≤ 100000000) (L : List Evn) (hLl : L.length ≤ 1000000000) (hr : ∀ U, Below w.heap.size w U → REv n v0 v1 v2 0 L U) (hres : ∀ j (hj : j < cs.length), -1 ≤ cs[j].1.res) :
    Calls Tryz.prog 13 #[.agg #[v0, v1, v2]] w fun e w' => e = .returned (.tuple #[.int .i64 (maxO cs L.length : Nat), .int .i64 0]) ∧ Below w.heap.size w w' := by
  obtain ⟨a0, c0, rfl, hl0⟩ := h.pr.len
  obtain ⟨a1, c1, rfl, hl1⟩ := h.ob.len
  obtain ⟨a2, c2, rfl, hl2⟩ := h.cl.len
  obtain ⟨W, hW⟩ : ∃ W, w.alloc (.cells #[.slice a0 P.length c0, .slice a1 O.length c1, .slice a2 cs.length c2] 25) = W := ⟨_, rfl⟩
  have bW : Below w.heap.size w W := by rw [← hW]; exact alloc_v (Below.refl _ _) _
  have zW : W.heap.size = w.heap.size + 1 := by rw [← hW]; simp
  have e1 : W.heap[w.heap.size]? = some (.cells #[.slice a0 P.length c0, .slice a1 O.length c1, .slice a2 cs.length c2] 25 (0, 0)) := by rw [← hW]; exact World.alloc_heap_new w _
  have HE := hide (hr W bW).rev
  have HOP := hide (fun (U : World) (b : Below w.heap.size w U) (k : Nat) (hk : k ≤ L.length) => refOpenY_k U n _ _ _ P O cs ((h.below b).up b.size) hcs L (fun V hV => hr V (b.trans (hV.mono b.size))) hres (k : Int) (by omega) (by omega))
  have HBL := hide (fun (U : World) (b : Below W.heap.size W U) => (b.block w.heap.size (by omega)).trans e1)
  have x0 := cells_at e1 0 _ rfl
  have x1 := cells_at e1 1 _ rfl
  have x2 := cells_at e1 2 _ rfl
  clear h hr e1 zW hres
  go_enter Tryz.func13, Tryz.ntmps13
  go_wp2_with (go_at_call 26; refine HE.out.mono ?_; clear HE; rintro r w1 ⟨⟨va, vm, vc, rfl, hev⟩, b1⟩; have B1 := hide b1; obtain ⟨ea, ec, eq, _⟩ := hev.len; cases eq; clear b1 hev)
  clear x0 x1 x2
  go_loopw [6, 7] (fun m i wr => ∃ k : Nat, k ≤ L.length + 1 ∧ i = .int .i64 k ∧ m = .int .i64 (mxO cs k : Nat) ∧ Below W.heap.size W wr) (fun _ i _ => L.length + 1 - (intOf i).toNat)
  case atStart => exact ⟨0, Nat.zero_le _, rfl, rfl, B1.out⟩
  case round =>
    obtain ⟨k, hk, rfl, rfl, hbel⟩ := hrel
    have f2 := HBL.out _ hbel
    have x0 := cells_at f2 0 _ rfl
    have x1 := cells_at f2 1 _ rfl
    have x2 := cells_at f2 2 _ rfl
    clear f2
    have hm := mxO_le cs k
    by_cases hlt : k ≤ L.length
    · have hle : (k : Int) ≤ (L.length : Int) := by omega
      have HO := hide (HOP.out wr (trans_v bW hbel) k hlt)
      have HB := hide hbel
      have ho2 := opnTo_len cs (k : Int) cs.length
      have HMX : Hid (((mxO cs (k + 1) : Nat) : Int) = max ((mxO cs k : Nat) : Int) (((opnTo cs (k : Int) cs.length).length : Nat) : Int)) := hide (by rw [mxO]; unfold opnN; omega)
      generalize hmm : mxO cs k = mm at *
      clear hbel hmm
      go_wp2_with (go_at_call 11; refine HO.out.mono ?_; clear HO; rintro r w3 ⟨⟨v, rfl, hrow⟩, b3⟩; obtain ⟨ra, rc, re⟩ := rowLen hrow; subst re; have HB3 := hide (trans_v HB.out b3); clear b3 hrow)
      go_roundw
      case rel => exact ⟨k + 1, by omega, by go_num, by rw [HMX.out], HB3.out⟩
      case measure => simp [intOf]; omega
    · have he : k = L.length + 1 := by omega
      subst he
      have hn : ¬ (((L.length + 1 : Nat) : Int) ≤ (L.length : Int)) := by omega
      rw [mxO_max]
      have HB := hide (trans_v bW hbel)
      clear hbel
      go_wp2
      go_ret2
      exact ⟨rfl, HB.out⟩
end Go.Proofs.YtnmkggoampkekaaGreatDoor
