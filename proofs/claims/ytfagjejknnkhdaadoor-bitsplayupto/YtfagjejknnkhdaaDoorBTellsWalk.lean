/- tells' walk. -/
import Derived.Test.YtfagjejknnkhdaaDoorBTells
namespace Go.Proofs.YtfagjejknnkhdaaDoor
open Go.RowKit
attribute [local go_sem] Oper.semAt_some

/-- What Has answers, whatever the number. -/
theorem has_any {w : World} {sb g cap n : Nat} {ws : List Nat} {bs : List Bool} (h : SetAt w sb g cap n ws) (hr : Rel ws bs) (hn : bs.length = n) (i : Int) :
    Calls Tryd.prog 30 #[.pointer (some ⟨sb, 0, none⟩), .int .i64 i] w fun e w' => e = .returned (.bool (rhas bs i)) ∧ ∃ m, w' = w.drewN m := by
  by_cases hi : 0 ≤ i ∧ i < (n : Int)
  · obtain ⟨k, rfl⟩ : ∃ k : Nat, i = (k : Int) := ⟨i.toNat, by omega⟩
    have hb := hr.bit k (by have := hr.len; omega)
    have e : rhas bs (k : Int) = hasW ws k := by
      rw [hb]
      unfold rhas
      rw [decide_eq_true (by omega), Int.toNat_natCast, Bool.true_and]
    rw [e]
    exact has_k h k (by omega)
  · have e : rhas bs i = false := by
      unfold rhas
      rw [decide_eq_false (by omega)]
      rfl
    rw [e]
    exact has_out h i hi

set_option maxRecDepth 100000 in
set_option maxHeartbeats 4000000 in
theorem tells_k {w : World} {sb g cap n pb gb cb : Nat} {ws : List Nat} {bs : List Bool} (hs : SetAt w sb g cap n ws) (hp : RefAt w pb gb cb bs) (hr : Rel ws bs) (hn : bs.length = n) (i : Int) (ht : Tab w) (hgt : g ≠ 0) :
    Calls Tryd.prog 8 #[.pointer (some ⟨sb, 0, none⟩), .pointer (some ⟨pb, 0, none⟩), .int .i64 i] w fun e w' => e = .returned (.bool true) ∧ SetAt w' sb g cap n ws ∧ w.grownBy w' (some g) := by
  obtain ⟨i0, hi, hz0, hz1, hz2⟩ := info_parts infoInt
  have hn1 := allNil
  have hsl := hs.lt
  have hgl := hs.glt
  have hpl := hp.lt
  have hbl := hp.glt
  have hap := hp.apart hs
  have hel := hr.elems
  have hin : ∀ x ∈ elems ws, x < n := by rw [hel, ← hn]; exact yes_lt
  have hyl : (elems ws).length ≤ 4096 := by
    rw [hel]
    have := List.length_filter_le (fun i => bs.getD i false) (List.range bs.length)
    rw [List.length_range] at this
    have := hp.room
    unfold yes
    omega
  have htl := ht.lt
  have HE := hide hel
  clear hel
  refine (callsIn_wide (n := 9)).1 ?_
  refine callsIn_of_wp_marks Tryd.func8 rfl trivial ?_ rfl
  simp only [Tryd.ntmps8, List.size_toArray, List.length_cons, List.length_nil, Nat.reduceAdd, Nat.reduceSub, Array.replicate_succ, Array.replicate_zero, List.push_toArray, List.append_toArray, List.nil_append, List.cons_append]
  gi_wp2_with ((first | refine ⟨trivial, ?_⟩ | skip); gi_at_call 15; refine (callsIn_wide.2 (allMake_k _ _)).mono ?_; rintro e w1 ⟨rfl, rfl⟩)
  clear hn1
  have bS := ((Boxed.new w 23 (.pointer (some ⟨sb, 0, none⟩))).alloc (.cells #[.pointer (some ⟨sb, 0, none⟩)] 23)).alloc (.cells #[.slice none 0 0] 55)
  have bA := (Boxed.new (w.alloc (.cells #[.pointer (some ⟨sb, 0, none⟩)] 23)) 23 (.pointer (some ⟨sb, 0, none⟩))).alloc (.cells #[.slice none 0 0] 55)
  have bL := Boxed.new ((w.alloc (.cells #[.pointer (some ⟨sb, 0, none⟩)] 23)).alloc (.cells #[.pointer (some ⟨sb, 0, none⟩)] 23)) 55 (.slice none 0 0)
  rw [World.size_alloc] at bA
  rw [World.size_alloc, World.size_alloc] at bL
  have hB : Below w.heap.size w (((w.alloc (.cells #[.pointer (some ⟨sb, 0, none⟩)] 23)).alloc (.cells #[.pointer (some ⟨sb, 0, none⟩)] 23)).alloc (.cells #[.slice none 0 0] 55)) := (((Below.refl _ w).alloc (Nat.le_refl _) _).alloc (by simp) _).alloc (by simp; omega) _
  obtain ⟨X1, hX1⟩ : ∃ X1, ((w.alloc (.cells #[.pointer (some ⟨sb, 0, none⟩)] 23)).alloc (.cells #[.pointer (some ⟨sb, 0, none⟩)] 23)).alloc (.cells #[.slice none 0 0] 55) = X1 := ⟨_, rfl⟩
  have hz3 : X1.heap.size = w.heap.size + 3 := by rw [← hX1]; simp
  rw [hX1] at bS bA bL hB ⊢
  clear hX1
  have sX := hs.below hB hsl hgl
  have tX := ht.below hB htl
  have hO := TIn.own (w := w) (sb := sb) (g := g) (cap := cap) (n := n) (ws := ws) hsl hgl
  refine seqp_law (gf := 38) (lb := #[.pointer (some ⟨w.heap.size + 1, 0, none⟩)]) rfl (enters_of Tryd.func38 (by kernel_rfl) rfl) (K := boxTab (w.heap.size + 1)) (fun k hk => by rcases hk with rfl | rfl <;> omega)
    (all_seq _ _ _ _ _ _ _ X1 bA sX tX) (fun _ _ _ _ h => by rw [h.1]; rfl)
    (TIn w sb g cap n ws) (fun _ _ _ _ => False) (by rw [hz3]; exact hO) (fun _ => ownL_false _) ⟨_, bL, World.ownsRow_nil _ _ _ _, fun r h => by simp [Value.ownBlock] at h, bS, sX, ⟨hB.os, hB.tape, hB.output, hB.size, fun k hk _ => hB.block k hk⟩, fun _ h => h.elim⟩ ?round ?done ?stop
  case stop =>
    rintro c S pre x W _ h _
    exact h.elim
  case round =>
    rintro l pre x S vs W hC hS ⟨post, hpost⟩ ⟨rfl, hSlt⟩ hsz
    have hxn : x < n := hin x (by rw [hpost]; simp)
    have hpl2 : pre.length + 1 ≤ 4096 := by rw [hpost] at hyl; simp at hyl; omega
    clear hpost hin hyl
    gi_wp2
    refine ⟨KeptP.refl _ _ _ _, fun W => TIn w sb g cap n ws pre S W ∧ ∀ k, S k → k < W.heap.size, fun X Y row h hg hr => ⟨hO.grown pre S X Y row h.1 hg (fun r e => .inl (by have := hr r e; rw [hz3] at this; exact this)), fun k hk => Nat.lt_of_lt_of_le (h.2 k hk) hg.size⟩, ⟨hC, hSlt⟩, ?_⟩
    clear hC hSlt hS
    rintro W₂ ⟨⟨v, hC⟩, hSlt⟩ hsz2
    have c1 := hC.lbox.cell
    have c3 := hC.sbox.cell
    have hw2 := hC.lbox.lt
    gi_wp2_with (gi_at_builtin; refine append_in _ rfl _ _ 55 rfl (w.heap.size + 3) 3 i0 (.int .i64 0) 1 8 Tryd.underlying55 hi hz0 hz1 hz2 rfl (by decide) _ _ _ rfl (hC.row.alloc _) ⟨W₂.heap.size, 0, none⟩ 1 1 [.int .i64 (x : Int)] rfl rfl (cell_one_new _ _ _) (by simp [Value.oneCell']) (by unfold maxLen; omega) (by omega) (by simp; omega) ?_; intro v' w1 hown' hgrow hat; obtain ⟨g', cap', rfl⟩ := ownsRow_succ hown'; obtain ⟨q0, q3, q4, q5, q6, q7⟩ := app_step hC.lbox (by decide) hC.row hown' hgrow; have q1 := q0.cell; have q2 := q0.frozen; have c3' := (q7 w.heap.size (by omega) (by omega) (fun e => by have := (hC.row.lt _ e.symm).1; omega)).trans hC.sbox; have c4 := Boxed.cell c3'; have HD := hide (drop_k (SetAt.blocks hC.set (hC.low q7 (by omega)) (hC.low q7 (by omega))) x hxn))
    gi_wp2_with ((first | refine ⟨trivial, ?_⟩ | skip); gi_at_call 18; refine (callsIn_wide.2 HD.out).mono ?_; rintro e w4 ⟨rfl, A1, A2⟩; have R := hide (hC.step hSlt hgl hgt htl q3 q4 q5 q6 q7 (by rcases hat with h | h; exact .inl h; right; simpa [Value.ownBlock] using h) A1 A2); clear A1 A2)
    rw [hz3]
    exact ⟨R.out.2, _, R.out.1⟩
  case done =>
    rintro S W ⟨v, hC⟩ hK
    rw [hz3] at hK ⊢
    obtain ⟨av, cv, rfl⟩ := row_any hC.row
    have HA := hide (again hs.fit)
    have hwl := hC.lbox.lt
    have pW : RefAt W pb gb cb bs := hp.kept hC.fr (by simp; exact hap.1.symm) (by simp; exact hap.2.1.symm)
    have HL := hide hC.lbox
    have HB := hide hC.sbox
    have HR := hide hC.row
    have HF := hide hC.fr
    have hset := hC.set
    generalize elems ws = L at *
    clear hC hO bS bA bL hB sX tX
    have c8 := HL.out.cell
    gi_wp2
    clear c8
    gi_loopw [10] (fun i wr => ∃ (k nd : Nat) (U : World), wr = U.drewN nd ∧ k ≤ L.length ∧ i = .int .i64 k ∧ SetAt U sb g cap n (putAll (dropAll ws L) (L.take k)) ∧ W.grownBy U (some g)) (fun i _ => L.length - (intOf i).toNat)
    case atStart => exact ⟨0, 0, W, rfl, Nat.zero_le _, rfl, hset, grown_refl _ _⟩
    case round =>
      obtain ⟨k, nd, U, rfl, hk, rfl, hU, hWU⟩ := hrel
      clear hset
      have b8 := HL.out.kept hWU (by simp; omega)
      have b3 := HB.out.kept hWU (by simp; omega)
      have c8 := b8.cell
      have c3 := b3.cell
      by_cases hlt : k < L.length
      · have hrow := HR.out.kept hWU (by by_cases hv : (Value.slice av L.length cv).ownBlock = none; exact .inl hv; right; intro e; have := (HR.out.lt g e).1; omega)
        obtain ⟨gl, rfl⟩ : ∃ gl, av = some ⟨gl, 0, none⟩ := by
          rcases hrow.2 with ⟨h, h0⟩ | ⟨g', cap', cur, h, _⟩
          · omega
          · simp only [Value.slice.injEq] at h
            exact ⟨g', h.1⟩
        have hcl := (hrow.cellAt k (by omega)).trans (nats_get L k hlt)
        have hxn : L[k] < n := hin _ (List.getElem_mem hlt)
        have hst : (L.take (k + 1)) = L.take k ++ [L[k]] := List.take_succ_eq_append_getElem hlt
        have HP := hide (fun m => put_k (hU.drewN m) L[k] hxn)
        have e1 : putW (putAll (dropAll ws L) (L.take k)) L[k] = putAll (dropAll ws L) (L.take (k + 1)) := by rw [hst, putAll_snoc]
        rw [e1] at HP
        have p0 : (0 : Int) ≤ (k : Int) := by omega
        have p1 : (k : Int) < (L.length : Int) := by omega
        clear hrow hst e1 b8 b3 hU
        generalize L[k] = x at *
        gi_wp2
        refine wpIn_mono (Q := NoPanic _) ?_ NoPanic.imp
        gi_region_with (first
          | ((first | refine ⟨trivial, ?_⟩ | skip); gi_at_call 13; refine (callsIn_wide.2 (HP.out _)).mono ?_; rintro e w4 ⟨rfl, A1, A2⟩; have R := hide (And.intro A1 A2); clear A1 A2)
          | (gi_at_call 13; refine (callsIn_wide.2 (HP.out _)).mono ?_; rintro e w4 ⟨rfl, A1, A2⟩; have R := hide (And.intro A1 A2); clear A1 A2))
        all_goals
          refine NoPanic.normal ?_
          gi_wp2
          go_roundw
          case rel => exact ⟨k + 1, 0, w4, rfl, by omega, by go_num, R.out.1, grown_trans hWU ⟨R.out.2.os, R.out.2.tape, R.out.2.output, R.out.2.size, R.out.2.block⟩⟩
          case measure => simp [intOf]; omega
      · have e : k = L.length := by omega
        subst e
        rw [List.take_length, HA.out] at hU
        have hfr := grown_trans HF.out hWU
        have setV : SetAt (U.drewN nd) sb g cap n ws := hU.drewN nd
        have refV : RefAt (U.drewN nd) pb gb cb bs := (pW.kept hWU (by simp; exact hap.1.symm) (by simp; exact hap.2.1.symm)).drewN nd
        have hrow := HR.out.kept hWU (by by_cases hv : (Value.slice av L.length cv).ownBlock = none; exact .inl hv; right; intro e; have := (HR.out.lt g e).1; omega)
        have cn : CellsN (U.drewN nd) av L := cellsN_row hrow
        have hKU : (U.drewN nd).heap[w.heap.size + 3]? = some (.deferred (some [])) := (hWU.block _ (Array.getElem?_eq_some_iff.1 hK).1 (by simp; omega)).trans hK
        have b8' : Boxed (U.drewN nd) (w.heap.size + 1 + 1) 55 (.slice av L.length cv) := b8
        have b3' : Boxed (U.drewN nd) w.heap.size 23 (.pointer (some ⟨sb, 0, none⟩)) := b3
        have hfrV : w.grownBy (U.drewN nd) (some g) := ⟨hfr.os, hfr.tape, hfr.output, hfr.size, hfr.block⟩
        obtain ⟨V, hV⟩ : ∃ V, U.drewN nd = V := ⟨_, rfl⟩
        have c8' : V.cell? ⟨w.heap.size + 1 + 1, 0, none⟩ = some (.slice av L.length cv) := by rw [← hV]; exact c8
        have c3' : V.cell? ⟨w.heap.size, 0, none⟩ = some (.pointer (some ⟨sb, 0, none⟩)) := by rw [← hV]; exact c3
        rw [hV] at setV refV cn hKU b8' b3' hfrV
        clear hU hWU hrow hK HA HF HR HL HB pW b8 b3 hfr c8 c3
        gi_wp2
        clear hV
        have HW := hide (words_k setV)
        gi_wp2_with ((first | refine ⟨trivial, ?_⟩ | skip); gi_at_call 14; refine (callsIn_wide.2 HW.out).mono ?_; clear HW; rintro e w5 ⟨gw, cw, rfl, A1, A2⟩; have R5 := hide A1; have B5 := hide A2; clear A1 A2)
        have HQ := hide (refWords_k (refV.below B5.out refV.lt refV.glt))
        gi_wp2_with ((first | refine ⟨trivial, ?_⟩ | skip); gi_at_call 26; refine (callsIn_wide.2 HQ.out).mono ?_; clear HQ; rintro e w6 ⟨vs, hrel, rfl, A1, A2⟩; obtain rfl := hrel.eq hr; have R6 := hide A1; have B6 := hide A2; clear A1 A2 hrel)
        have hgw : V.heap.size ≤ gw ∧ gw < w5.heap.size := R5.out.lt gw rfl
        have hvl := setV.lt
        have h5 := B5.out.size
        have h6 := B6.out.size
        have r5 := below_row R5.out B6.out (Nat.le_refl _)
        have hlw : vs.length ≤ 64 := by have := setV.len; have := setV.room; omega
        have hnl : ((vs.length : Int) != (vs.length : Int)) = false := by simp
        gi_wp2
        clear hnl
        gi_loopw [13] (fun i wr => ∃ (k nd : Nat) (xs : List Value) (U : World), wr = U.drewN nd ∧ k ≤ vs.length ∧ i = .int .i64 k ∧ U.ownsRow 0 56 1 (.slice (some ⟨gw, 0, none⟩) vs.length cw) vs.length xs ∧ (∀ j, k ≤ j → xs[j]? = (u64s vs)[j]?) ∧ w6.grownBy U (some gw)) (fun i _ => vs.length - (intOf i).toNat)
        case atStart => exact ⟨0, 0, _, w6, rfl, Nat.zero_le _, rfl, row_from r5 (Nat.zero_le _), fun _ _ => rfl, grown_refl _ _⟩
        case round =>
          obtain ⟨k, nd2, xs, U2, rfl, hk, rfl, hx, hxs, hgr⟩ := hrel
          clear r5
          have rv := R6.out.kept hgr (.inr (by simp [Value.ownBlock]; omega))
          by_cases hlt2 : k < vs.length
          · have d1 := (hx.cellAt k (by omega)).trans ((hxs k (Nat.le_refl _)).trans (u64s_get vs k hlt2))
            have d2 := (rv.cellAt k (by omega)).trans (u64s_get vs k hlt2)
            have hf := hx.frozenAt k
            have hst := hx.stored k (.int .u64 77)
            have hxs' : ∀ j, k + 1 ≤ j → (xs.set k (.int .u64 77))[j]? = (u64s vs)[j]? := fun j hj => by rw [List.getElem?_set_ne (by omega)]; exact hxs j (by omega)
            have p0 : (0 : Int) ≤ (k : Int) := by omega
            have p1 : (k : Int) < (vs.length : Int) := by omega
            have hb : (((vs[k] : Nat) : Int) != ((vs[k] : Nat) : Int)) = false := by simp
            have R := hide (And.intro hst.1 (And.intro hxs' (grown_trans hgr hst.2)))
            clear hst hxs' hx hxs rv
            generalize vs[k] = x at *
            gi_wp2
            gi_quiet (fail)
            gi_wp2
            go_roundw
            case rel => exact ⟨k + 1, _, _, _, rfl, by omega, by go_num, R.out.1, R.out.2.1, R.out.2.2⟩
            case measure => simp [intOf]; omega
          · have bV6 : Below V.heap.size V w6 := B5.out.trans (B6.out.mono h5)
            have ggw : gw ≠ sb ∧ gw ≠ g ∧ gw ≠ pb ∧ gw ≠ gb := by have := setV.glt; have := refV.lt; have := refV.glt; omega
            have setZ := ((setV.below bV6 setV.lt setV.glt).kept hgr (by simp; exact ggw.1) (by simp; exact ggw.2.1)).drewN nd2
            have refZ := ((refV.below bV6 refV.lt refV.glt).kept hgr (by simp; exact ggw.2.2.1) (by simp; exact ggw.2.2.2)).drewN nd2
            have hb8 := b8'.lt
            have b8U : Boxed U2 (w.heap.size + 1 + 1) 55 (.slice av L.length cv) := Boxed.kept (show Boxed w6 _ _ _ from (bV6.block _ b8'.lt).trans b8') hgr (by simp; omega)
            have b8Z : Boxed (U2.drewN nd2) (w.heap.size + 1 + 1) 55 (.slice av L.length cv) := b8U
            have b3U : Boxed U2 w.heap.size 23 (.pointer (some ⟨sb, 0, none⟩)) := Boxed.kept (show Boxed w6 _ _ _ from (bV6.block _ b3'.lt).trans b3') hgr (by simp; omega)
            have b3Z : Boxed (U2.drewN nd2) w.heap.size 23 (.pointer (some ⟨sb, 0, none⟩)) := b3U
            have cnZ : CellsN (U2.drewN nd2) av L := fun j hj => by
              obtain ⟨b, off, e, hc⟩ := cn j hj
              have hbl' := World.block_lt_of_cell? V _ hc
              refine ⟨b, off, e, ?_⟩
              have e1 : U2.heap[b]? = w6.heap[b]? := hgr.block b (by have := bV6.size; simp at hbl'; omega) (by simp at hbl' ⊢; omega)
              exact (World.cell?_of_block (w := w6) e1).trans ((bV6.cell hbl').trans hc)
            have hKZ : (U2.drewN nd2).heap[w.heap.size + 3]? = some (.deferred (some [])) := by
              have hl := (Array.getElem?_eq_some_iff.1 hKU).1
              exact (hgr.block _ (by have := bV6.size; omega) (by simp; omega)).trans ((bV6.block _ hl).trans hKU)
            have frU := grown_up (grown_none hfrV (grown_below bV6)) hgr (by have := hfrV.size; omega)
            have frZ : w.grownBy (U2.drewN nd2) (some g) := ⟨frU.os, frU.tape, frU.output, frU.size, frU.block⟩
            obtain ⟨Z, hZ⟩ : ∃ Z, U2.drewN nd2 = Z := ⟨_, rfl⟩
            rw [hZ] at setZ refZ b8Z b3Z cnZ hKZ frZ
            clear b8U b3U hx hxs hgr rv bV6 ggw frU B5 B6 R5 R6 setV refV cn hKU b8' b3' hfrV c8' c3' h5 h6 hgw
            gi_wp2
            clear hZ
            have k8 := b8Z.cell
            have k3 := b3Z.cell
            have kp := refZ.cells.2
            have hcnt : cnt vs = L.length := by rw [hr.cnt, ← HE.out]
            have hlen2 : ((bs.length : Nat) : Int) = (n : Int) := by omega
            have HAll : Hid (∀ m, Calls Tryd.prog 28 #[.pointer (some ⟨pb, 0, none⟩)] (Z.drewN m) fun e w' => ∃ v, e = .returned v ∧ w'.ownsRow Z.heap.size 3 1 v L.length (nats L) ∧ Below Z.heap.size Z w') := fun m => (refAll_k (refZ.drewN m)).mono fun e w' ⟨v, h1, h2, h3⟩ => ⟨v, h1, by rw [HE.out]; exact h2, ⟨h3.os, h3.tape, h3.output, h3.size, h3.block⟩⟩
            have HAft : Hid (∀ (a2 : Option Addr) (c2 : Nat) (w8 : World), w8.ownsRow Z.heap.size 3 1 (.slice a2 L.length c2) L.length (nats L) → Below Z.heap.size Z w8 →
                (w8.cell? ⟨w.heap.size + 1 + 1, 0, none⟩ = some (.slice av L.length cv) ∧ w8.cell? ⟨w.heap.size, 0, none⟩ = some (.pointer (some ⟨sb, 0, none⟩)) ∧ w8.cell? ⟨pb, 1, none⟩ = some (.slice (some ⟨gb, 0, none⟩) bs.length cb)) ∧
                (∀ m, Calls Tryd.prog 27 #[.slice av L.length cv, .slice a2 L.length c2] (w8.drewN m) fun e w' => e = .returned (.bool true) ∧ ∃ m, w' = w8.drewN m) ∧
                (∀ m, Calls Tryd.prog 29 #[.pointer (some ⟨sb, 0, none⟩)] (w8.drewN m) fun e w' => e = .returned (.int .i64 (L.length : Nat)) ∧ ∃ m, w' = w8.drewN m) ∧
                (∀ m, Calls Tryd.prog 30 #[.pointer (some ⟨sb, 0, none⟩), .int .i64 i] (w8.drewN m) fun e w' => e = .returned (.bool (rhas bs i)) ∧ ∃ k, w' = w8.drewN k) ∧
                (∀ m, Calls Tryd.prog 31 #[.pointer (some ⟨pb, 0, none⟩), .int .i64 i] (w8.drewN m) fun e w' => e = .returned (.bool (rhas bs i)) ∧ ∃ m, w' = w8.drewN m) ∧
                (∀ m, Calls Tryd.prog 25 #[.pointer (some ⟨sb, 0, none⟩)] (w8.drewN m) fun e w' => e = .returned (.int .i64 (n : Int)) ∧ ∃ m, w' = w8.drewN m)) := fun a2 c2 w8 A1 A2 => by
              have s8 := setZ.below A2 setZ.lt setZ.glt
              have r8 := refZ.below A2 refZ.lt refZ.glt
              have cn8 := cnZ.below A2
              have cn9 := cellsN_row A1
              refine ⟨⟨(A2.cell b8Z.lt).trans k8, (A2.cell b3Z.lt).trans k3, r8.cells.2⟩, fun m => (intsN_yes (w := w8.drewN m) (show CellsN (w8.drewN m) av L from cn8) (show CellsN (w8.drewN m) a2 L from cn9) hyl).mono fun _ _ ⟨p, q, r⟩ => ⟨p, _, r.trans (World.drewN_drewN _ _ _)⟩, fun m => ?_, fun m => ?_, fun m => (refHas_k (r8.drewN m) i).mono fun _ _ ⟨p, q⟩ => ⟨p, _, q.symm⟩, fun m => (room_k (s8.drewN m)).mono fun _ _ ⟨p, q⟩ => ⟨p, _, q.symm⟩⟩
              · have := count_k (s8.drewN m)
                rw [hcnt] at this
                exact this.mono fun _ _ ⟨p, q⟩ => ⟨p, _, q.symm⟩
              · exact (has_any (s8.drewN m) hr hn i).mono fun _ _ ⟨p, q, r⟩ => ⟨p, _, r.trans (World.drewN_drewN _ _ _)⟩
            have HF := hide (And.intro setZ (And.intro frZ hKZ))
            have HZl := hide (show w.heap.size + 3 < Z.heap.size from (Array.getElem?_eq_some_iff.1 hKZ).1)
            clear setZ refZ b8Z b3Z cnZ frZ hKZ hcnt hr hs hp ht hin hyl HE
            generalize rhas bs i = rb at *
            have hrb : (rb == rb) = true := by simp
            have f1 : Fence.wide.fn 27 := trivial
            have f2 : Fence.wide.fn 29 := trivial
            have f3 : Fence.wide.fn 30 := trivial
            have f4 : Fence.wide.fn 31 := trivial
            have f5 : Fence.wide.fn 25 := trivial
            refine wpIn_mono (Q := NoPanic _) ?_ NoPanic.imp
            refine wpIn_region_any (by kernel_rfl) ?_
            change wpAnyIn _ _ _ _ _ _ _ _ _ (World.drew _)
            refine wpAnyIn_ready (rs := [0, 1]) (by kernel_rfl) (by simp) ?_
            refine AllReadyIn.cons rfl (fun K hK => ?_) (AllReadyIn.cons rfl (fun K hK => ?_) AllReadyIn.nil)
            · go_simp
              refine hK _ _ ?_
              clear hK K
              refine wpAnyIn_ready (rs := [1]) (by kernel_rfl) (by simp) ?_
              refine AllReadyIn.cons rfl (fun K hK => ?_) AllReadyIn.nil
              go_simp
              refine hK _ _ ?_
              clear hK K
              refine wpAnyIn_ready (rs := [2]) (by kernel_rfl) (by simp) ?_
              refine AllReadyIn.cons rfl (fun K hK => ?_) AllReadyIn.nil
              go_simp
              gi_wp2_with ((first | refine ⟨trivial, ?_⟩ | skip); gi_at_call 28; refine (callsIn_wide.2 (HAll.out _)).mono ?_; rintro e w8 ⟨v2, rfl, A1, A2⟩; obtain ⟨a2, c2, rfl⟩ := row_any A1; obtain ⟨⟨m8, m3, mp⟩, I1, I2, I3, I4, I5⟩ := HAft.out a2 c2 w8 A1 A2; have J1 := hide I1; have J2 := hide I2; have J3 := hide I3; have J4 := hide I4; have J5 := hide I5; have JB := hide A2; clear I1 I2 I3 I4 I5 A1 A2)
              refine any_from (C := fun w' => ∃ m, w' = w8.drewN m) (Q := fun a' => ∀ w', (∃ m, w' = w8.drewN m) → NoPanic _ .normal a' w') 3 rfl (by kernel_rfl) (by kernel_rfl) (by kernel_rfl) ⟨0, rfl⟩ (fun _ _ hw h => h _ hw) ?_
              simp only [List.drop_succ_cons, List.drop_zero]
              repeat (gi_big_quiet_step (first
                | (gi_at_call 27; exact callsIn_wide.2 (J1.out _))
                | (gi_at_call 29; exact callsIn_wide.2 (J2.out _))
                | (gi_at_call 30; exact callsIn_wide.2 (J3.out _))
                | (gi_at_call 31; exact callsIn_wide.2 (J4.out _))
                | (gi_at_call 25; exact callsIn_wide.2 (J5.out _))))
              refine wpQuietIn_nil ?_
              intro w9 hw9
              obtain ⟨m9, rfl⟩ := hw9
              refine NoPanic.normal ?_
              obtain ⟨t1, t2, t3⟩ := tells_end hsl hgl HF.out.1 HF.out.2.1 HF.out.2.2 JB.out m9
              gi_wp2
              refine ⟨by simp, .inl ⟨_, _, rfl, run_takeDeferred t1, ?_⟩⟩
              exact ⟨_, results_tmp rfl _ _ _, rfl, t2, t3⟩
            · go_simp
              refine hK _ _ ?_
              clear hK K
              refine wpAnyIn_ready (rs := [0, 2]) (by kernel_rfl) (by simp) ?_
              refine AllReadyIn.cons rfl (fun K hK => ?_) (AllReadyIn.cons rfl (fun K hK => ?_) AllReadyIn.nil)
              · go_simp
                refine hK _ _ ?_
                clear hK K
                refine wpAnyIn_ready (rs := [2]) (by kernel_rfl) (by simp) ?_
                refine AllReadyIn.cons rfl (fun K hK => ?_) AllReadyIn.nil
                go_simp
                gi_wp2_with ((first | refine ⟨trivial, ?_⟩ | skip); gi_at_call 28; refine (callsIn_wide.2 (HAll.out _)).mono ?_; rintro e w8 ⟨v2, rfl, A1, A2⟩; obtain ⟨a2, c2, rfl⟩ := row_any A1; obtain ⟨⟨m8, m3, mp⟩, I1, I2, I3, I4, I5⟩ := HAft.out a2 c2 w8 A1 A2; have J1 := hide I1; have J2 := hide I2; have J3 := hide I3; have J4 := hide I4; have J5 := hide I5; have JB := hide A2; clear I1 I2 I3 I4 I5 A1 A2)
                refine any_from (C := fun w' => ∃ m, w' = w8.drewN m) (Q := fun a' => ∀ w', (∃ m, w' = w8.drewN m) → NoPanic _ .normal a' w') 3 rfl (by kernel_rfl) (by kernel_rfl) (by kernel_rfl) ⟨0, rfl⟩ (fun _ _ hw h => h _ hw) ?_
                simp only [List.drop_succ_cons, List.drop_zero]
                repeat (gi_big_quiet_step (first
                  | (gi_at_call 27; exact callsIn_wide.2 (J1.out _))
                  | (gi_at_call 29; exact callsIn_wide.2 (J2.out _))
                  | (gi_at_call 30; exact callsIn_wide.2 (J3.out _))
                  | (gi_at_call 31; exact callsIn_wide.2 (J4.out _))
                  | (gi_at_call 25; exact callsIn_wide.2 (J5.out _))))
                refine wpQuietIn_nil ?_
                intro w9 hw9
                obtain ⟨m9, rfl⟩ := hw9
                refine NoPanic.normal ?_
                obtain ⟨t1, t2, t3⟩ := tells_end hsl hgl HF.out.1 HF.out.2.1 HF.out.2.2 JB.out m9
                gi_wp2
                refine ⟨by simp, .inl ⟨_, _, rfl, run_takeDeferred t1, ?_⟩⟩
                exact ⟨_, results_tmp rfl _ _ _, rfl, t2, t3⟩
              · go_simp
                gi_wp2_with ((first | refine ⟨trivial, ?_⟩ | skip); gi_at_call 28; refine (callsIn_wide.2 (HAll.out _)).mono ?_; rintro e w8 ⟨v2, rfl, A1, A2⟩; obtain ⟨a2, c2, rfl⟩ := row_any A1; obtain ⟨⟨m8, m3, mp⟩, I1, I2, I3, I4, I5⟩ := HAft.out a2 c2 w8 A1 A2; have J1 := hide I1; have J2 := hide I2; have J3 := hide I3; have J4 := hide I4; have J5 := hide I5; have JB := hide A2; clear I1 I2 I3 I4 I5 A1 A2)
                refine wpAnyIn_ready (rs := [0]) (by kernel_rfl) (by simp) ?_
                refine AllReadyIn.cons rfl (fun K hK => ?_) AllReadyIn.nil
                go_simp
                refine hK _ _ ?_
                clear hK K
                refine any_from (C := fun w' => ∃ m, w' = w8.drewN m) (Q := fun a' => ∀ w', (∃ m, w' = w8.drewN m) → NoPanic _ .normal a' w') 3 rfl (by kernel_rfl) (by kernel_rfl) (by kernel_rfl) ⟨0, rfl⟩ (fun _ _ hw h => h _ hw) ?_
                simp only [List.drop_succ_cons, List.drop_zero]
                repeat (gi_big_quiet_step (first
                  | (gi_at_call 27; exact callsIn_wide.2 (J1.out _))
                  | (gi_at_call 29; exact callsIn_wide.2 (J2.out _))
                  | (gi_at_call 30; exact callsIn_wide.2 (J3.out _))
                  | (gi_at_call 31; exact callsIn_wide.2 (J4.out _))
                  | (gi_at_call 25; exact callsIn_wide.2 (J5.out _))))
                refine wpQuietIn_nil ?_
                intro w9 hw9
                obtain ⟨m9, rfl⟩ := hw9
                refine NoPanic.normal ?_
                obtain ⟨t1, t2, t3⟩ := tells_end hsl hgl HF.out.1 HF.out.2.1 HF.out.2.2 JB.out m9
                gi_wp2
                refine ⟨by simp, .inl ⟨_, _, rfl, run_takeDeferred t1, ?_⟩⟩
                exact ⟨_, results_tmp rfl _ _ _, rfl, t2, t3⟩
end Go.Proofs.YtfagjejknnkhdaaDoor
