/- Widest, Open, Proc: of operations that are right. -/
import Derived.Test.YtooddjfkibbkeaaDoorZHTold
namespace Go.Proofs.YtooddjfkibbkeaaDoor
open Go.RowKit Go.Maps

/-- How many operations are open behind k events, and how many at most so far. -/
def wid (l : List Evn) : Nat → Int × Int
  | 0 => (0, 0)
  | k + 1 => if h : k < l.length then ((if l[k].kind = 1 then (wid l k).1 + 1 else (wid l k).1 - 1), max (wid l k).2 (if l[k].kind = 1 then (wid l k).1 + 1 else (wid l k).1 - 1)) else wid l k
theorem wid_succ (l : List Evn) (k : Nat) (h : k < l.length) : wid l (k + 1) = ((if l[k].kind = 1 then (wid l k).1 + 1 else (wid l k).1 - 1), max (wid l k).2 (if l[k].kind = 1 then (wid l k).1 + 1 else (wid l k).1 - 1)) := by
  rw [wid, dif_pos h]
theorem wid_small (l : List Evn) : ∀ k : Nat, (-(k : Int) ≤ (wid l k).1 ∧ (wid l k).1 ≤ k) ∧ (0 ≤ (wid l k).2 ∧ (wid l k).2 ≤ k)
  | 0 => by simp [wid]
  | k + 1 => by
    have h := wid_small l k
    rw [wid]
    split
    · dsimp only
      split <;> omega
    · omega
set_option maxRecDepth 100000 in
set_option maxHeartbeats 2000000 in
theorem widestY_k (w : World) (n : Nat) (v0 v1 v2 : Value) (P O : List (List UInt8)) (cs : List HV) (hT : TabL w) (h : HPast w w.heap.size (n + 1) v0 v1 v2 P O cs) (hcs : cs.length ≤ 100000000) (E : List EV) (hlm : laidM P O cs = some E) (hag : AgreeM P O cs (E.map (·.1))) :
    Calls Tryd.prog 31 #[.agg #[v0, v1, v2]] w fun e w' => e = .returned (.tuple #[.int .i64 (wid (E.map (·.1)) (E.map (·.1)).length).2, .int .i64 0]) ∧ Below w.heap.size w w' := by
  obtain ⟨a0, c0, rfl, hl0⟩ := h.pr.len
  obtain ⟨a1, c1, rfl, hl1⟩ := h.ob.len
  obtain ⟨a2, c2, rfl, hl2⟩ := h.cl.len
  obtain ⟨W, hW⟩ : ∃ W, w.alloc (.cells #[.slice a0 P.length c0, .slice a1 O.length c1, .slice a2 cs.length c2] 27) = W := ⟨_, rfl⟩
  have bW : Below w.heap.size w W := by rw [← hW]; exact alloc_v (Below.refl _ _) _
  have e1 : W.heap[w.heap.size]? = some (.cells #[.slice a0 P.length c0, .slice a1 O.length c1, .slice a2 cs.length c2] 27 (0, 0)) := by rw [← hW]; exact World.alloc_heap_new w _
  have hPW := (h.below bW).up bW.size
  have HLD := hide (told_k W n _ _ _ P O cs (hT.below bW) hPW hcs)
  have HG := hide (laidN_good hPW _ _ hlm)
  have hEl : E.length = placesM cs := laidN_len _ _ hlm
  have hEb : E.length ≤ 200000000 := by have := placesN_le cs cs.length; unfold placesM at hEl; omega
  have x0 := cells_at e1 0 _ rfl
  have x1 := cells_at e1 1 _ rfl
  have x2 := cells_at e1 2 _ rfl
  have HLM := hide hlm
  have HAG := hide hag
  clear h hT e1 hPW hEl hlm hag
  go_enter Tryd.func31, Tryd.ntmps31
  go_wp2_with (go_at_call 33; refine HLD.out.mono ?_; clear HLD; rintro r w1 ⟨⟨v, rfl, hres⟩, b1⟩; have B1 := hide b1; have hr2 : ∃ g L, v = .tuple #[.slice (some ⟨g, 0, none⟩) E.length E.length, .int .i64 0] ∧ w1.ownsRow L 46 12 (.slice (some ⟨g, 0, none⟩) E.length E.length) E.length (erow E) := (by rcases hres with ⟨_, hn⟩ | ⟨E', g, L, h1, _, h3, _, h5⟩; exact absurd HAG.out (hn E HLM.out); have e := HLM.out.symm.trans h1; cases e; exact ⟨g, L, h3, h5⟩); obtain ⟨g, L, rfl, hrow⟩ := hr2; have HROW := hide hrow; clear b1 hrow hres)
  clear x0 x1 x2 hW
  have hiv := evs_of_row HROW.out (by omega) (HG.out.below B1.out) B1.out.size
  have HI := hide hiv
  have hlm : (E.map (·.1)).length = E.length := List.length_map _
  clear hiv
  generalize hle : E.map (·.1) = l at *
  have HL2 := hide hle
  clear hle
  have hlb : l.length ≤ 200000000 := by omega
  have HLE := hide hlm
  go_loopw [6, 7, 9, 17] (fun o m _ i wr => ∃ k : Nat, k ≤ l.length ∧ i = .int .i64 k ∧ o = .int .i64 (wid l k).1 ∧ m = .int .i64 (wid l k).2 ∧ Below w1.heap.size w1 wr) (fun _ _ _ i _ => l.length - (intOf i).toNat)
  case atStart => exact ⟨0, Nat.zero_le _, rfl, rfl, rfl, Below.refl _ _⟩
  case round =>
    obtain ⟨k, hk, rfl, rfl, rfl, hbel⟩ := hrel
    obtain ⟨⟨w1a, w1b⟩, w2a, w2b⟩ := wid_small l k
    by_cases hlt : k < l.length
    · obtain ⟨b3, o3, s3, hs3, g3, p0, p1, p2, p3, p4, p5, p6, p7, p8, p9, p10, p11, pi, pk, pz⟩ := (HI.out.below hbel).item k hlt
      cases hs3
      simp only [Nat.zero_add] at p0 p1 p2 p3 p4 p5 p6 p7 p8 p9 p10 p11
      have hws := wid_succ l k hlt
      have HWS := hide hws
      have hsz := hbel.size
      have l3 : g < wr.heap.size := by omega
      have k0 : (0 : Int) ≤ (k : Int) := by omega
      have k1 : (k : Int) < (l.length : Int) := by omega
      have k2 : (k : Int) < (E.length : Int) := by omega
      obtain ⟨sa, sc, rfl, _⟩ := pi.len
      have HB := hide hbel
      clear hbel g3 hws pi pk pz
      generalize l[k] = x at *
      generalize hww : wid l k = ww at *
      obtain ⟨wo, wm⟩ := ww
      (try dsimp only at w1a w1b w2a w2b)
      by_cases hkd : x.kind = 1
      · have hkb : (x.kind == 1) = true := by simpa using hkd
        go_wp2
        go_roundw
        case rel => exact ⟨k + 1, by omega, by go_num, by rw [HWS.out, if_pos hkd], by rw [HWS.out, if_pos hkd], alloc_v HB.out _⟩
        case measure => simp [intOf]; omega
      · have hkb : (x.kind == 1) = false := by simpa using hkd
        go_wp2
        go_roundw
        case rel => exact ⟨k + 1, by omega, by go_num, by rw [HWS.out, if_neg hkd], by rw [HWS.out, if_neg hkd], alloc_v HB.out _⟩
        case measure => simp [intOf]; omega
    · have he : k = l.length := by omega
      subst he
      have k2 : ¬ ((l.length : Int) < (E.length : Int)) := by omega
      have HB := hide hbel
      clear hbel
      go_wp2
      go_ret2
      exact ⟨by rw [HL2.out]; rfl, trans_v (trans_v bW B1.out) HB.out⟩
theorem infoIntH : (Tryd.prog.info? 3).map (fun i => (i.zero, i.size, i.bytes)) = some (some (.int .i64 0), 1, 8) := by kernel_rfl
/-- Is an operation open at a place? -/
def isOpn (x : HV) (t : Int) : Bool := decide (x.1.inv < t) && (decide (x.1.res = -1) || decide (t ≤ x.1.res))
def opnTo (cs : List HV) (t : Int) : Nat → List Nat
  | 0 => []
  | k + 1 => if h : k < cs.length then (if isOpn cs[k] t = true then opnTo cs t k ++ [k] else opnTo cs t k) else opnTo cs t k
def natsH (l : List Nat) : List Value := l.map fun k : Nat => .int .i64 (k : Int)
theorem natsH_snoc (l : List Nat) (k : Nat) : natsH (l ++ [k]) = natsH l ++ [.int .i64 (k : Int)] := by simp [natsH]
theorem opnTo_len (cs : List HV) (t : Int) : ∀ k, (opnTo cs t k).length ≤ k
  | 0 => Nat.le_refl _
  | k + 1 => by
    have := opnTo_len cs t k
    rw [opnTo]
    split
    · split
      · simp; omega
      · omega
    · omega
theorem opnTo_yes {cs : List HV} {t : Int} {k : Nat} (h : k < cs.length) (e : isOpn cs[k] t = true) : opnTo cs t (k + 1) = opnTo cs t k ++ [k] := by rw [opnTo, dif_pos h, if_pos e]
theorem opnTo_no {cs : List HV} {t : Int} {k : Nat} (h : k < cs.length) (e : ¬ isOpn cs[k] t = true) : opnTo cs t (k + 1) = opnTo cs t k := by rw [opnTo, dif_pos h, if_neg e]
set_option maxRecDepth 100000 in
set_option maxHeartbeats 2000000 in
theorem openY_k (w : World) (n : Nat) (v0 v1 v2 : Value) (P O : List (List UInt8)) (cs : List HV) (hT : TabL w) (h : HPast w w.heap.size (n + 1) v0 v1 v2 P O cs) (hcs : cs.length ≤ 100000000) (hok : ToldOk P O cs) (t : Int) (ht0 : 0 ≤ t) (ht1 : t ≤ (placesM cs : Int)) :
    Calls Tryd.prog 32 #[.agg #[v0, v1, v2], .int .i64 t] w fun e w' => (∃ v, e = .returned (.tuple #[v, .int .i64 0]) ∧ w'.ownsRow w.heap.size 3 1 v (opnTo cs t cs.length).length (natsH (opnTo cs t cs.length))) ∧ Below w.heap.size w w' := by
  obtain ⟨i0, hi, hz0, hz1, hz2⟩ := info_partsV infoIntH
  have hsls := h.sls
  obtain ⟨a0, c0, rfl, hl0⟩ := h.pr.len
  obtain ⟨a1, c1, rfl, hl1⟩ := h.ob.len
  obtain ⟨a2, c2, rfl, hl2⟩ := h.cl.len
  obtain ⟨W, hW⟩ : ∃ W, w.alloc (.cells #[.slice a0 P.length c0, .slice a1 O.length c1, .slice a2 cs.length c2] 27) = W := ⟨_, rfl⟩
  have bW : Below w.heap.size w W := by rw [← hW]; exact alloc_v (Below.refl _ _) _
  have zW : W.heap.size = w.heap.size + 1 := by rw [← hW]; simp
  have e1 : W.heap[w.heap.size]? = some (.cells #[.slice a0 P.length c0, .slice a1 O.length c1, .slice a2 cs.length c2] 27 (0, 0)) := by rw [← hW]; exact World.alloc_heap_new w _
  have HPL := hide (places_k W (.slice a0 P.length c0) (.slice a1 O.length c1) (.slice a2 cs.length c2) ⟨_, _, _, rfl⟩ ⟨_, _, _, rfl⟩ cs hsls ((h.cl.below bW).up bW.size))
  have HCK := hide (fun (U : World) (b : Below W.heap.size W U) => checkP_k U n _ _ _ P O cs (hT.below (trans_v bW b)) ((h.below (trans_v bW b)).up (trans_v bW b).size) hcs)
  have HE := hide (fun (U : World) (b : Below W.heap.size W U) => (b.block w.heap.size (by omega)).trans e1)
  have hn0 : ¬ (t < 0) := by omega
  have hn1 : ¬ ((placesM cs : Int) < t) := by omega
  have x0 := cells_at e1 0 _ rfl
  have x1 := cells_at e1 1 _ rfl
  have x2 := cells_at e1 2 _ rfl
  have HH := hide h
  have HOK := hide hok
  have ZW := hide zW
  have BW := hide bW
  clear h hT e1 hok ht0 ht1 zW bW
  generalize hpm : placesM cs = pm at *
  clear hpm
  go_enter Tryd.func32, Tryd.ntmps32
  go_upto_region 4 with (first
    | (go_at_call 49; refine HPL.out.mono ?_; clear HPL; rintro r w1 ⟨rfl, b1⟩; have B1 := hide b1; have f1 := HE.out _ b1; have y0 := cells_at f1 0 _ rfl; have y1 := cells_at f1 1 _ rfl; have y2 := cells_at f1 2 _ rfl; clear b1 f1)
    | (go_at_call 15; refine (HCK.out _ B1.out).mono ?_; clear HCK; rintro r w2 ⟨⟨kk, rfl, hk⟩, b2⟩; have hk0 : kk = 0 := (by rcases hk with ⟨h, _⟩ | ⟨_, h⟩; exact h; exact absurd HOK.out h); subst hk0; have B2 := hide (trans_v B1.out b2); clear hk b2))
  clear x0 x1 x2 y0 y1 y2 hW hn0 hn1
  have hb2 := B2.out.size
  have f2 := HE.out _ B2.out
  have x2 := cells_at f2 2 _ rfl
  have bw2 := trans_v BW.out B2.out
  clear f2
  go_wp2
  clear x2
  have ZZ := ZW.out
  go_loopw [6, 7, 8, 25] (fun v _ _ i wr => ∃ k : Nat, k ≤ cs.length ∧ i = .int .i64 k ∧ wr.ownsRow w.heap.size 3 1 v (opnTo cs t k).length (natsH (opnTo cs t k)) ∧ Below w.heap.size w wr) (fun _ _ _ i _ => cs.length - (intOf i).toNat)
  case atStart => exact ⟨0, Nat.zero_le _, rfl, World.ownsRow_nil _ _ _ _, bw2⟩
  case round =>
    obtain ⟨k, hk, rfl, hrow, hbel⟩ := hrel
    by_cases hlt : k < cs.length
    · obtain ⟨b3, o3, rfl, g3, p0, p1, p2, p3, p4, p5, p6, p7, p8, p9, p10, p11, p12, p13, p14⟩ := (HH.out.cl.below hbel).item k hlt
      have hon := opnTo_len cs t k
      have HY := hide (fun e => opnTo_yes (cs := cs) (t := t) hlt e)
      have HN := hide (fun e => opnTo_no (cs := cs) (t := t) hlt e)
      obtain ⟨⟨s1, s2, s3, es⟩, ⟨t1, t2, t3, et⟩⟩ := hsls _ (List.getElem_mem hlt)
      rw [es] at p7
      rw [et] at p14
      clear es et
      have hsz := hbel.size
      have l3 : b3 < wr.heap.size := by omega
      have k0 : (0 : Int) ≤ (k : Int) := by omega
      have k1 : (k : Int) < (cs.length : Int) := by omega
      have HB := hide hbel
      have HR := hide hrow
      clear hbel g3 hrow
      generalize cs[k] = x at *
      by_cases h1 : x.1.inv < t
      rotate_left
      · have HF := hide (HN.out (by unfold isOpn; simp [h1]))
        have hd : decide (x.1.inv < t) = false := by simpa using h1
        clear HY HN
        go_wp2
        go_roundw
        case rel => exact ⟨k + 1, by omega, by go_num, by rw [HF.out]; exact HR.out.alloc _, alloc_v HB.out _⟩
        case measure => simp [intOf]; omega
      have hd : decide (x.1.inv < t) = true := by simpa using h1
      by_cases h2 : x.1.res = -1
      · have HF := hide (HY.out (by unfold isOpn; simp [h1, h2]))
        have hrb : (x.1.res == -1) = true := by simpa using h2
        clear HY HN h2
        obtain ⟨V, hV⟩ : ∃ V, wr.alloc (.cells #[.int .i64 x.1.proc, .int .i64 x.1.obj, .string (bsN x.1.op), .int .i64 x.1.arg.kind, .int .i64 x.1.arg.int, .int .i64 x.1.arg.im, .string x.1.arg.text, .slice s1 s2 s3, .int .i64 x.1.inv, .int .i64 x.1.res, .int .i64 x.1.reply.kind, .int .i64 x.1.reply.int, .int .i64 x.1.reply.im, .string x.1.reply.text, .slice t1 t2 t3] 49) = V := ⟨_, rfl⟩
        have HRV := hide (show V.ownsRow w.heap.size 3 1 _ (opnTo cs t k).length (natsH (opnTo cs t k)) from by rw [← hV]; exact HR.out.alloc _)
        have HBV := hide (show Below w.heap.size w V from by rw [← hV]; exact alloc_v HB.out _)
        have hszV : w.heap.size ≤ V.heap.size := HBV.out.size
        have eV : V.heap[wr.heap.size]? = some (.cells #[.int .i64 x.1.proc, .int .i64 x.1.obj, .string (bsN x.1.op), .int .i64 x.1.arg.kind, .int .i64 x.1.arg.int, .int .i64 x.1.arg.im, .string x.1.arg.text, .slice s1 s2 s3, .int .i64 x.1.inv, .int .i64 x.1.res, .int .i64 x.1.reply.kind, .int .i64 x.1.reply.int, .int .i64 x.1.reply.im, .string x.1.reply.text, .slice t1 t2 t3] 49 (0, 0)) := by rw [← hV]; exact World.alloc_heap_new wr _
        have g8 := cells_at eV 8 _ rfl
        have g9 := cells_at eV 9 _ rfl
        clear eV
        go_wp2_with (at_builtin; refine wpList_append_own _ rfl _ _ 70 rfl w.heap.size 3 i0 (.int .i64 0) 1 8 Tryd.underlying70 hi hz0 hz1 hz2 rfl (by decide) _ _ _ rfl (HRV.out.alloc _) ⟨V.heap.size, 0, none⟩ 1 1 [.int .i64 (k : Int)] rfl rfl (cell_one_new _ _ _) (by simp [Value.oneCell']) (by unfold maxLen; omega) (by omega) (by simp; omega) ?_; intro v' w4 hown hgrow _; have R := hide (show w4.ownsRow w.heap.size 3 1 v' (opnTo cs t (k + 1)).length (natsH (opnTo cs t (k + 1))) from by rw [HF.out, natsH_snoc, List.length_append]; exact hown); have RB := hide (show Below w.heap.size w w4 from ((HBV.out.alloc HBV.out.size _).grown hgrow (by have := HBV.out.size; simp; omega) (fun r e => (HRV.out.lt r e).1))); clear hown hgrow)
        go_roundw
        case rel => exact ⟨k + 1, by omega, by go_num, R.out, RB.out⟩
        case measure => simp [intOf]; omega
      have hrb : (x.1.res == -1) = false := by simpa using h2
      by_cases h3 : t ≤ x.1.res
      · have HF := hide (HY.out (by unfold isOpn; simp [h1, h3]))
        have hd2 : decide (t ≤ x.1.res) = true := by simpa using h3
        clear HY HN
        obtain ⟨V, hV⟩ : ∃ V, wr.alloc (.cells #[.int .i64 x.1.proc, .int .i64 x.1.obj, .string (bsN x.1.op), .int .i64 x.1.arg.kind, .int .i64 x.1.arg.int, .int .i64 x.1.arg.im, .string x.1.arg.text, .slice s1 s2 s3, .int .i64 x.1.inv, .int .i64 x.1.res, .int .i64 x.1.reply.kind, .int .i64 x.1.reply.int, .int .i64 x.1.reply.im, .string x.1.reply.text, .slice t1 t2 t3] 49) = V := ⟨_, rfl⟩
        have HRV := hide (show V.ownsRow w.heap.size 3 1 _ (opnTo cs t k).length (natsH (opnTo cs t k)) from by rw [← hV]; exact HR.out.alloc _)
        have HBV := hide (show Below w.heap.size w V from by rw [← hV]; exact alloc_v HB.out _)
        have hszV : w.heap.size ≤ V.heap.size := HBV.out.size
        have eV : V.heap[wr.heap.size]? = some (.cells #[.int .i64 x.1.proc, .int .i64 x.1.obj, .string (bsN x.1.op), .int .i64 x.1.arg.kind, .int .i64 x.1.arg.int, .int .i64 x.1.arg.im, .string x.1.arg.text, .slice s1 s2 s3, .int .i64 x.1.inv, .int .i64 x.1.res, .int .i64 x.1.reply.kind, .int .i64 x.1.reply.int, .int .i64 x.1.reply.im, .string x.1.reply.text, .slice t1 t2 t3] 49 (0, 0)) := by rw [← hV]; exact World.alloc_heap_new wr _
        have g8 := cells_at eV 8 _ rfl
        have g9 := cells_at eV 9 _ rfl
        clear eV
        go_wp2_with (at_builtin; refine wpList_append_own _ rfl _ _ 70 rfl w.heap.size 3 i0 (.int .i64 0) 1 8 Tryd.underlying70 hi hz0 hz1 hz2 rfl (by decide) _ _ _ rfl (HRV.out.alloc _) ⟨V.heap.size, 0, none⟩ 1 1 [.int .i64 (k : Int)] rfl rfl (cell_one_new _ _ _) (by simp [Value.oneCell']) (by unfold maxLen; omega) (by omega) (by simp; omega) ?_; intro v' w4 hown hgrow _; have R := hide (show w4.ownsRow w.heap.size 3 1 v' (opnTo cs t (k + 1)).length (natsH (opnTo cs t (k + 1))) from by rw [HF.out, natsH_snoc, List.length_append]; exact hown); have RB := hide (show Below w.heap.size w w4 from ((HBV.out.alloc HBV.out.size _).grown hgrow (by have := HBV.out.size; simp; omega) (fun r e => (HRV.out.lt r e).1))); clear hown hgrow)
        go_roundw
        case rel => exact ⟨k + 1, by omega, by go_num, R.out, RB.out⟩
        case measure => simp [intOf]; omega
      · have HF := hide (HN.out (by unfold isOpn; simp [h1, h2]; omega))
        have hd2 : decide (t ≤ x.1.res) = false := by simpa using h3
        clear HY HN
        go_wp2
        go_roundw
        case rel => exact ⟨k + 1, by omega, by go_num, by rw [HF.out]; exact HR.out.alloc _, alloc_v HB.out _⟩
        case measure => simp [intOf]; omega
    · have he : k = cs.length := by omega
      subst he
      have R := hide (And.intro hrow hbel)
      clear hrow hbel
      go_wp2
      go_ret2
      exact ⟨⟨_, rfl, R.out.1⟩, R.out.2⟩
/-- The number of a name. -/
def idxN (l : List (List UInt8)) (s : List UInt8) : Int := Lib.idxOfS (l.map bsN) (bsN s)
set_option maxRecDepth 100000 in
set_option maxHeartbeats 1000000 in
theorem procP_k (w : World) (v0 v1 v2 : Value) (P : List (List UInt8)) (h0 : NamesAt w w.heap.size v0 P) (hv1 : ∃ a m c, v1 = .slice a m c) (hv2 : ∃ a m c, v2 = .slice a m c) (s : List UInt8) :
    Calls Tryd.prog 17 #[.agg #[v0, v1, v2], .string (bsN s)] w fun e w' => e = .returned (.int .i64 (idxN P s)) ∧ Below w.heap.size w w' := by
  obtain ⟨a0, c0, rfl, hl0⟩ := h0.len
  obtain ⟨a1, m1, c1, rfl⟩ := hv1
  obtain ⟨a2, m2, c2, rfl⟩ := hv2
  obtain ⟨W, hW⟩ : ∃ W, w.alloc (.cells #[.slice a0 P.length c0, .slice a1 m1 c1, .slice a2 m2 c2] 27) = W := ⟨_, rfl⟩
  have bW : Below w.heap.size w W := by rw [← hW]; exact alloc_v (Below.refl _ _) _
  have e1 : W.heap[w.heap.size]? = some (.cells #[.slice a0 P.length c0, .slice a1 m1 c1, .slice a2 m2 c2] 27 (0, 0)) := by rw [← hW]; exact World.alloc_heap_new w _
  have hC : Calls Tryd.prog 34 #[.slice a0 P.length c0, .string (bsN s)] W fun e w' => e = .returned (.int .i64 (idxN P s)) ∧ W = w' := by
    rcases Nat.eq_zero_or_pos P.length with hp | hp
    · have e : P = [] := List.eq_nil_of_length_eq_zero hp
      subst e
      refine (Tryd.slices_Index_string_empty a0 c0 (bsN s) W).mono ?_
      rintro e w' ⟨rfl, rfl⟩
      exact ⟨rfl, rfl⟩
    · obtain ⟨b1, o1, rfl, hc⟩ := (h0.below bW).rowS hp
      refine (Tryd.slices_Index_string b1 o1 P.length c0 (P.map bsN) (bsN s) W (by simp) (by omega) hc).mono ?_
      rintro e w' ⟨rfl, rfl⟩
      refine ⟨?_, rfl⟩
      rw [List.take_of_length_le (by simp)]
      rfl
  have HC := hide hC
  have x0 := cells_at e1 0 _ rfl
  clear hC h0 e1
  go_enter Tryd.func17, Tryd.ntmps17
  go_wp2_with (go_at_call 34; refine HC.out.mono ?_; clear HC; rintro r w1 ⟨rfl, rfl⟩)
  go_ret
  exact ⟨rfl, bW⟩
end Go.Proofs.YtooddjfkibbkeaaDoor
