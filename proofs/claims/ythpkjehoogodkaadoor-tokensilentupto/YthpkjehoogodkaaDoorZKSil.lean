/- TokenSilent: the walk. -/
import Derived.Test.YthpkjehoogodkaaDoorZKBack
import Derived.ProofKit
import Derived.OpenShut
import Derived.Deep.Slices
import Derived.ChangeMaps5
namespace Go.Proofs.YthpkjehoogodkaaDoor
open Go.RowKit

/-- A row of numbers. -/
def GapsAt (w : World) (B : Nat) (v : Value) (l : List Int) : Prop := ∃ a c, v = .slice a l.length c ∧ l.length ≤ 1048576 ∧ ∀ j (h : j < l.length), ∃ b off, a = some ⟨b, off, none⟩ ∧ b < B ∧ w.cell? ⟨b, off + j, none⟩ = some (.int .i64 l[j])
theorem GapsAt.below {w w' : World} {B : Nat} {v : Value} {l : List Int} (h : GapsAt w B v l) (hb : Below B w w') : GapsAt w' B v l := by
  obtain ⟨a, c, e, hl, hc⟩ := h
  refine ⟨a, c, e, hl, fun j hj => ?_⟩
  obtain ⟨b, off, e, hB, h0⟩ := hc j hj
  exact ⟨b, off, e, hB, (hb.cell (p := ⟨b, off + j, none⟩) hB).trans h0⟩
theorem GapsAt.item {w : World} {B : Nat} {a : Option Addr} {m c : Nat} {l : List Int} (h : GapsAt w B (.slice a m c) l) (j : Nat) (hj : j < l.length) : ∃ b off, a = some ⟨b, off, none⟩ ∧ w.cell? ⟨b, off + j, none⟩ = some (.int .i64 l[j]) := by
  obtain ⟨a', c', e, _, hc⟩ := h
  cases e
  obtain ⟨b, off, e, _, h0⟩ := hc j hj
  exact ⟨b, off, e, h0⟩
theorem GapsAt.len {w : World} {B : Nat} {v : Value} {l : List Int} (h : GapsAt w B v l) : ∃ a c, v = .slice a l.length c ∧ l.length ≤ 1048576 := by
  obtain ⟨a, c, e, hl, _⟩ := h
  exact ⟨a, c, e, hl⟩
/-- Blanks and a comment by a number. -/
def fillL (n : Int) : List UInt8 := if n = 1 then [9, 32] else if n = 2 then 32 :: cmt ++ [10] else if n = 3 then [13, 10] else [32]
theorem fillL_gap (n : Int) : Gap (fillL n) := by
  unfold fillL
  split
  · exact gap1
  · split
    · exact gap2
    · split
      · exact gap3
      · exact gap0
theorem fillL_len (n : Int) : (fillL n).length ≤ 11 := by
  unfold fillL
  split
  · decide
  · split
    · decide
    · split
      · decide
      · decide
set_option maxRecDepth 100000 in
theorem fill_k (n : Int) (w : World) : Calls Tryd.prog 16 #[.int .i64 n] w fun e w' => e = .returned (.string (str (fillL n))) ∧ w = w' := by
  unfold fillL
  by_cases h1 : n = 1
  · subst h1
    go_enter Tryd.func16, Tryd.ntmps16
    go_wp2
    go_ret
    exact ⟨rfl, rfl⟩
  rw [if_neg h1]
  have e1 : (n == 1) = false := by simpa using h1
  by_cases h2 : n = 2
  · subst h2
    clear h1 e1
    go_enter Tryd.func16, Tryd.ntmps16
    go_wp2
    go_ret
    exact ⟨rfl, rfl⟩
  rw [if_neg h2]
  have e2 : (n == 2) = false := by simpa using h2
  by_cases h3 : n = 3
  · subst h3
    clear h1 e1 h2 e2
    go_enter Tryd.func16, Tryd.ntmps16
    go_wp2
    go_ret
    exact ⟨rfl, rfl⟩
  rw [if_neg h3]
  have e3 : (n == 3) = false := by simpa using h3
  clear h1 h2 h3
  go_enter Tryd.func16, Tryd.ntmps16
  go_wp2
  go_ret
  exact ⟨rfl, rfl⟩
theorem gaps_len (f : Nat → List UInt8) (hf : ∀ j, (f j).length ≤ 11) : ∀ (m : List Tq) (j : Nat), (∀ x ∈ m, x.ok) → (gapsF f j (m.map Tq.tk)).length ≤ (m.map fun x => x.t.size).sum + m.length * 31
  | [], _, _ => by simp [gapsF]
  | x :: r, j, h => by
    have h1 := gaps_len f hf r (j + 1) (fun y hy => h y (by simp [hy]))
    have h2 := wrT_len x (h x (by simp))
    have h3 := hf j
    rw [List.map_cons, gapsF, List.length_append, List.length_append, List.length_cons, List.map_cons, List.sum_cons]
    omega
/-- Scan of a text whose tokens are known. -/
theorem scan_ts (L : List UInt8) (E : List Tkn) (h : ts L = (E, Option.none)) (hb : L.length ≤ 4294967296) (w : World) (hT : KT w) :
    Calls Tryd.prog 7 #[.string (str L)] w fun e w' => ∃ v m, e = .returned (.tuple #[v, .agg #[.int .i64 0, .int .i64 0, .int .i64 0, .int .i64 0]]) ∧ RawAt w' w'.heap.size v m ∧ Hid (m.map Tq.strip = E.map tq0) ∧ Below w.heap.size w w' := by
  refine (scan_k (str L) (by rw [str_size]; exact hb) w hT).mono ?_
  rintro e w' ⟨v, he, h1, _, hbel⟩
  rw [bytes_str] at he h1
  have ht := sc_ts L
  rw [h] at ht
  have hf : (sc L 0).2 = Option.none := by
    have := congrArg Prod.snd ht
    simpa using this
  have hm : (sc L 0).1.map Prod.fst = E := congrArg Prod.fst ht
  have h1 := h1 hf
  rw [tqs_row, ← tqs_len L] at h1
  refine ⟨v, tqs L (sc L 0).1, ?_, raw_row h1 ?_, ?_, hbel⟩
  · rw [he, hf]
    rfl
  · rw [tqs_len]
    have := sc_len L
    omega
  · exact hide (by rw [strip_tqs, hm])

set_option maxRecDepth 100000 in
set_option maxHeartbeats 8000000 in
theorem tokenSilent_walk (l : List Tq) (gs : List Int) (sl sg : Value) (w : World) (hT : KT w) (hi : TqAt w w.heap.size sl l) (hg : GapsAt w w.heap.size sg gs) (hs : (l.map fun x => x.t.size).sum ≤ 1048576) :
    Calls Tryd.prog 6 #[sl, sg] w fun e w' => e = .returned (.bool true) ∧ Below w.heap.size w w' := by
  have HJ := hide (join_k l sl w hT hi)
  have HI := hide hi
  have HG := hide hg
  have HT := hide hT
  have hok := hi.oks
  have hjl := jn_len2 l hok
  obtain ⟨a, cp, rfl, hlen⟩ := hi.len
  obtain ⟨ag, cg, rfl, hglen⟩ := hg.len
  have hjb : (jn (l.map Tq.tk)).length ≤ 4294967296 := by omega
  clear hi hT hjl hg
  cases hk : okJ (l.map Tq.tk) with
  | false =>
    rw [hk] at HJ
    simp only [cond_false] at HJ
    clear hjb hk
    go_enter Tryd.func6, Tryd.ntmps6
    go_wp2_with (first
      | (go_at_call 13; refine HJ.out.mono ?_; clear HJ; rintro e w1 ⟨rfl, b1⟩; have B1 := hide b1; clear b1)
      | (go_at_call 10; refine (heads9_k _ (HT.out.below B1.out)).mono ?_; rintro e w2 ⟨rfl, b2⟩; have B2 := hide b2; clear b2))
    go_ret
    exact ⟨rfl, ktrans B1.out B2.out⟩
  | true =>
    rw [hk] at HJ
    simp only [cond_true] at HJ
    by_cases hn0 : l.length = 0
    · have hn1 : ((l.length : Int) == 0) = true := by simpa using hn0
      clear hn0 hjb hk
      go_enter Tryd.func6, Tryd.ntmps6
      go_wp2_with (first
        | (go_at_call 13; refine HJ.out.mono ?_; clear HJ; rintro e w1 ⟨rfl, b1⟩; have B1 := hide b1; clear b1)
        | (go_at_call 10; refine (heads9_k _ (HT.out.below B1.out)).mono ?_; rintro e w2 ⟨rfl, b2⟩; have B2 := hide b2; clear b2))
      go_ret
      exact ⟨rfl, ktrans B1.out B2.out⟩
    · have hn1 : ((l.length : Int) == 0) = false := by simpa using hn0
      have HSC := hide (fun (W : World) (h : KT W) => scan_ts (jn (l.map Tq.tk)) _ (ts_jn _ hk) hjb W h)
      have HK := hide hk
      have HN0 := hide hn0
      have HOK := hide hok
      have HS := hide hs
      have HJB := hide hjb
      clear hjb hk hn0 hok hs
      generalize hJ : str (jn (l.map Tq.tk)) = J at *
      clear hJ
      obtain ⟨f, hf⟩ : ∃ f : Nat → List UInt8, (fun j => fillL (gs.getD j 0)) = f := ⟨_, rfl⟩
      have HF := hide hf
      clear hf
      have HFG : Hid (∀ j, Gap (f j)) := hide (fun j => by rw [← HF.out]; exact fillL_gap _)
      have HFL : Hid (∀ j, (f j).length ≤ 11) := hide (fun j => by rw [← HF.out]; exact fillL_len _)
      go_enter Tryd.func6, Tryd.ntmps6
      go_wp2_with (go_at_call 13; refine HJ.out.mono ?_; clear HJ; rintro e w1 ⟨rfl, b1⟩; have B1 := hide b1; clear b1)
      go_loopw [7, 8] (fun v vi wr => ∃ j : Nat, vi = .int .i64 (j : Int) ∧ j ≤ l.length ∧ v = .string (str (gapsF f 0 ((l.take j).map Tq.tk))) ∧ Below w.heap.size w wr) (fun _ v _ => l.length - (Lib.intOf v).toNat)
      case atStart => exact ⟨0, rfl, Nat.zero_le _, rfl, B1.out⟩
      case round =>
        obtain ⟨j, rfl, hj, rfl, hbel⟩ := hrel
        by_cases hlt : j < l.length
        · obtain ⟨b, off, rfl, hbb, p0, p1, p2, p3, p4, p5, hxk⟩ := (HI.out.below hbel).item j hlt
          have hsp : spOK l[j].tk = true := by
            have := (okJ_drop (l.map Tq.tk) j (by simpa using hlt) HK.out).1
            simpa using this
          have HSP := hide (fun (U : World) (h : KT U) => spell_k l[j] hxk U h)
          rw [hsp] at HSP
          simp only [cond_true] at HSP
          have hal := gaps_len f HFL.out (l.take j) 0 (fun x hx => HOK.out x (List.mem_of_mem_take hx))
          have hsum : ((l.take j).map fun x => x.t.size).sum ≤ 1048576 := by
            have h := HS.out
            have e : l = l.take j ++ l.drop j := (List.take_append_drop j l).symm
            rw [e, List.map_append, List.sum_append] at h
            omega
          have hwl := wrT_len l[j] hxk
          have hxt := hxk.t
          have hcat : gapsF f 0 ((l.take (j + 1)).map Tq.tk) = gapsF f 0 ((l.take j).map Tq.tk) ++ wrT l[j].tk ++ f j := by
            rw [List.take_succ_eq_append_getElem hlt, List.map_append, List.map_cons, List.map_nil, gapsF_snoc]
            rw [List.length_map, List.length_take, Nat.zero_add, Nat.min_eq_left (by omega)]
          have hA : (gapsF f 0 ((l.take j).map Tq.tk)).length ≤ 40000000 := by
            rw [List.length_take] at hal
            omega
          have hFl := HFL.out j
          have hfj : fillL (gs.getD j 0) = f j := by rw [← HF.out]
          generalize gapsF f 0 ((l.take j).map Tq.tk) = acc at *
          generalize wrT l[j].tk = wt at *
          have HCAT := hide hcat
          have sA : (str acc).size ≤ 40000000 := by rw [str_size]; exact hA
          have sX : (str wt).size ≤ 2000000 := by rw [str_size]; omega
          have sF : (str (f j)).size ≤ 11 := by rw [str_size]; exact hFl
          have hq : (str acc ++ str wt) ++ str (f j) = str (acc ++ wt ++ f j) := by rw [str_app, str_app, bytes_str, bytes_str, bytes_str, bytes_str]
          have HFILL := hide (fun (n : Int) (e : n = gs.getD j 0) (U : World) => show Calls Tryd.prog 16 #[.int .i64 n] U fun e w' => e = .returned (.string (str (f j))) ∧ U = w' by rw [← hfj, ← e]; exact fill_k n U)
          generalize str acc = A at *
          generalize str wt = X at *
          generalize str (f j) = FJ at *
          generalize hB : str (acc ++ wt ++ f j) = B at *
          have HBE := hide hB
          have HB := hide hbel
          clear hB hcat hwl hal hsum hsp hA hFl hfj hxk hbel hbb
          generalize l[j] = x at *
          obtain ⟨k, o, ln, c, t, i⟩ := x
          dsimp only at *
          by_cases hjg : j < gs.length
          · obtain ⟨b2, off2, rfl, gc⟩ := (HG.out.below HB.out).item j hjg
            have egs : gs[j] = gs.getD j 0 := by rw [List.getD_eq_getElem?_getD, List.getElem?_eq_getElem hjg]; rfl
            have HFILL := hide (HFILL.out gs[j] egs)
            have HGG := hide (HG.out.below HB.out)
            clear egs
            generalize gs[j] = gj at *
            go_wp2_with (first
              | (go_at_call 11; refine (HSP.out _ (KT.below HT.out HB.out)).mono ?_; clear HSP; rintro e w2 ⟨rfl, b2'⟩; have g2 := kkeepCell gc b2'; have B2 := hide (ktrans HB.out b2'); clear b2')
              | (go_at_call 16; refine (HFILL.out _).mono ?_; clear HFILL; rintro e w3 ⟨rfl, rfl⟩))
            go_roundw
            case rel => exact ⟨j + 1, by simp, by omega, by rw [HCAT.out, HBE.out], B2.out⟩
            case measure =>
              simp [Lib.intOf]
              omega
          · have egs : (0 : Int) = gs.getD j 0 := by rw [List.getD_eq_getElem?_getD, List.getElem?_eq_none (by omega)]; rfl
            have HFILL := hide (HFILL.out 0 egs)
            clear egs
            go_wp2_with (first
              | (go_at_call 11; refine (HSP.out _ (KT.below HT.out HB.out)).mono ?_; clear HSP; rintro e w2 ⟨rfl, b2'⟩; have B2 := hide (ktrans HB.out b2'); clear b2')
              | (go_at_call 16; refine (HFILL.out _).mono ?_; clear HFILL; rintro e w3 ⟨rfl, rfl⟩))
            go_roundw
            case rel => exact ⟨j + 1, by simp, by omega, by rw [HCAT.out, HBE.out], B2.out⟩
            case measure =>
              simp [Lib.intOf]
              omega
        · have hj2 : j = l.length := by omega
          subst hj2
          rw [List.take_length]
          have hgl := gaps_len f HFL.out l 0 HOK.out
          have hgb : (gapsF f 0 (l.map Tq.tk)).length ≤ 4294967296 := by have := HS.out; omega
          have HSG := hide (fun (W : World) (h : KT W) => scan_ts (gapsF f 0 (l.map Tq.tk)) _ (ts_gaps f HFG.out (l.map Tq.tk) 0 HK.out) hgb W h)
          generalize str (gapsF f 0 (l.map Tq.tk)) = T at *
          have HB := hide hbel
          clear hgl hgb hbel hj
          go_wp2_with (go_at_call 7; refine (HSC.out _ (KT.below HT.out HB.out)).mono ?_)
          rintro e w2 ⟨v2, m2, rfl, r2, hm2, b2⟩
          have B2 := hide (ktrans HB.out b2)
          obtain ⟨a2, c2, rfl, hl2⟩ := r2.len
          have e2 := World.alloc_heap_new w2 (.cells #[.int .i64 0, .int .i64 0, .int .i64 0, .int .i64 0] 27)
          have b2' : Below w2.heap.size w2 (w2.alloc (.cells #[.int .i64 0, .int .i64 0, .int .i64 0, .int .i64 0] 27)) := kalloc (Below.refl _ _) _
          have z2 : w2.heap.size < (w2.alloc (.cells #[.int .i64 0, .int .i64 0, .int .i64 0, .int .i64 0] 27)).heap.size := by simp
          have E2 := hide e2
          have B2' := hide (ktrans B2.out b2')
          have Z2 := hide z2
          have R2 := hide ((r2.below b2').up b2'.size)
          clear e2 b2' z2 r2 b2 B2 HSC HB
          go_wp2_with (go_at_call 7; refine (HSG.out _ (KT.below HT.out B2'.out)).mono ?_)
          rintro e w3 ⟨v3, m3, rfl, r3, hm3, b3⟩
          have B3 := hide (ktrans B2'.out b3)
          have E3 := hide ((b3.block _ Z2.out).trans E2.out)
          have R2 := hide ((R2.out.below b3).up b3.size)
          have y3 : w2.heap.size < w3.heap.size := by have := b3.size; have := Z2.out; omega
          obtain ⟨a3, c3, rfl, hl3⟩ := r3.len
          have e3 := World.alloc_heap_new w3 (.cells #[.int .i64 0, .int .i64 0, .int .i64 0, .int .i64 0] 27)
          have b3' : Below w3.heap.size w3 (w3.alloc (.cells #[.int .i64 0, .int .i64 0, .int .i64 0, .int .i64 0] 27)) := kalloc (Below.refl _ _) _
          have z3 : w3.heap.size < (w3.alloc (.cells #[.int .i64 0, .int .i64 0, .int .i64 0, .int .i64 0] 27)).heap.size := by simp
          have B3' := hide (ktrans B3.out b3')
          have E2 := hide ((b3'.block _ y3).trans E3.out)
          have E3 := hide e3
          have R2 := hide ((R2.out.below b3').up b3'.size)
          have R3 := hide ((r3.below b3').up b3'.size)
          have Z3 := hide z3
          have Y3 : Hid (w2.heap.size < (w3.alloc (.cells #[.int .i64 0, .int .i64 0, .int .i64 0, .int .i64 0] 27)).heap.size) := hide (by have := Z3.out; omega)
          clear e3 b3' z3 r3 b3 B3 B2' Z2 HSG y3
          go_wp2_with (go_at_call 15; refine (plain_k m2 _ _ R2.out).mono ?_)
          rintro e w4 ⟨v4, rfl, r4, b4⟩
          have B4 := hide (ktrans B3'.out b4)
          have F2 := hide ((b4.block _ Y3.out).trans E2.out)
          have F3 := hide ((b4.block _ Z3.out).trans E3.out)
          have y4 : w2.heap.size < w4.heap.size := by have := b4.size; have := Y3.out; omega
          have z4 : w3.heap.size < w4.heap.size := by have := b4.size; have := Z3.out; omega
          have R3 := hide ((R3.out.below b4).up b4.size)
          have P4 := hide (raw_row r4 (by rw [List.length_map]; omega))
          rw [hm2.out] at P4
          clear r4 b4 B3' E2 E3 Y3 Z3 R2
          go_wp2_with (go_at_call 15; refine (plain_k m3 _ _ R3.out).mono ?_)
          rintro e w5 ⟨v5, rfl, r5, b5⟩
          have B5 := hide (ktrans B4.out b5)
          have F2 := hide ((b5.block _ y4).trans F2.out)
          have F3 := hide ((b5.block _ z4).trans F3.out)
          have y5 : w2.heap.size < w5.heap.size := by have := b5.size; omega
          have z5 : w3.heap.size < w5.heap.size := by have := b5.size; omega
          have P4 := hide ((P4.out.below b5).up b5.size)
          have P5 := hide (raw_row r5 (by rw [List.length_map]; omega))
          rw [hm3.out] at P5
          clear r5 b5 B4 y4 z4 R3
          go_wp2_with (go_at_call 9; refine (same_yes _ _ _ _ P4.out P5.out).mono ?_)
          rintro e w6 ⟨rfl, b6⟩
          have g2 := (b6.block _ y5).trans F2.out
          have g3 := (b6.block _ z5).trans F3.out
          have f0 := kcells_at g2 0 _ rfl
          have f1 := kcells_at g2 1 _ rfl
          have f2 := kcells_at g2 2 _ rfl
          have f3 := kcells_at g2 3 _ rfl
          have d0 := kcells_at g3 0 _ rfl
          have d1 := kcells_at g3 1 _ rfl
          have d2 := kcells_at g3 2 _ rfl
          have d3 := kcells_at g3 3 _ rfl
          have B6 := hide (ktrans B5.out b6)
          clear b6 g2 g3 F2 F3 y5 z5 P4 P5 B5
          go_wp2_with (go_at_call 10; refine (heads9_k _ (HT.out.below B6.out)).mono ?_; rintro e w7 ⟨rfl, b7⟩; have B7 := hide (ktrans B6.out b7); clear b7)
          go_ret
          exact ⟨rfl, B7.out⟩
end Go.Proofs.YthpkjehoogodkaaDoor
