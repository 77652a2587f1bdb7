/- HistoryOrder answers true, where heads does. -/
import Derived.Test.YtooddjfkibbkeaaDoorZHOrd
import Derived.Test.YtooddjfkibbkeaaDoorZHAgree
import Derived.Deep.Cut
import Derived.Deep.CutRange
import Derived.Deep.QuietTactic
import Derived.BigQuiet
namespace Go.Proofs.YtooddjfkibbkeaaDoor
open Go.RowKit Go.Maps

theorem idx_nat (a : Int) (m : Nat) (h0 : 0 < m) (hm : m ≤ 1000000000) : ∃ x : Nat, x < m ∧ wrap64 ((IntKind.u64.wrap a).tmod (m : Int)) = (x : Int) := by
  have h1 : 0 ≤ IntKind.u64.wrap a := by simp [IntKind.wrap, IntKind.bits, IntKind.signed]; omega
  have e : (IntKind.u64.wrap a).tmod (m : Int) = (IntKind.u64.wrap a) % (m : Int) := Int.tmod_eq_emod_of_nonneg h1
  have h2 : 0 ≤ (IntKind.u64.wrap a) % (m : Int) := Int.emod_nonneg _ (by omega)
  have h3 : (IntKind.u64.wrap a) % (m : Int) < (m : Int) := Int.emod_lt_of_pos _ (by omega)
  rw [e]
  generalize (IntKind.u64.wrap a) % (m : Int) = r at *
  refine ⟨r.toNat, by omega, ?_⟩
  unfold wrap64
  omega
/-- Does one operation of a row precede another, by their numbers? -/
def bfN (rs : List CV) (i j : Nat) : Bool := match rs[i]?, rs[j]? with
  | some x, some y => befB x.1 y.1
  | _, _ => false
theorem bfN_eq (rs : List CV) (i j : Nat) (hi : i < rs.length) (hj : j < rs.length) : bfN rs i j = befB rs[i].1 rs[j].1 := by
  unfold bfN
  rw [List.getElem?_eq_getElem hi, List.getElem?_eq_getElem hj]
/-- The statement's facts, by numbers. -/
structure OrdN (rs : List CV) : Prop where
  self : ∀ x, x < rs.length → bfN rs x x = false
  anti : ∀ x y, x < rs.length → y < rs.length → bfN rs x y = true → bfN rs y x = false
  trans : ∀ x y z, x < rs.length → y < rs.length → z < rs.length → bfN rs x y = true → bfN rs y z = true → bfN rs x z = true
  four : ∀ x y z u, x < rs.length → y < rs.length → z < rs.length → u < rs.length → bfN rs x y = true → bfN rs z u = true → bfN rs x u = false → bfN rs z y = true
  seq : ∀ x y (hx : x < rs.length) (hy : y < rs.length), x < y → rs[x].1.proc = rs[y].1.proc → bfN rs x y = true
theorem ordN {O : List (List UInt8)} {k : Nat} {g : Gs} (h : Good O k g) {rs : List CV} (hs : rs.map (·.1) = g.calls) : OrdN rs := by
  have hl : g.calls.length = rs.length := by rw [← hs]; simp
  have he : ∀ i (hi : i < rs.length), rs[i].1 = g.calls[i]'(by omega) := fun i hi => by simp only [← hs, List.getElem_map]
  have hb : ∀ i j (hi : i < rs.length) (hj : j < rs.length), bfN rs i j = befB (g.calls[i]'(by omega)) (g.calls[j]'(by omega)) := fun i j hi hj => by rw [bfN_eq rs i j hi hj, he i hi, he j hj]
  refine ⟨fun x hx => ?_, fun x y hx hy e => ?_, fun x y z hx hy hz e e2 => ?_, fun x y z u hx hy hz hu e e2 e3 => ?_, fun x y hx hy hxy e => ?_⟩
  · rw [hb x x hx hx]; exact bef_self h x (by omega)
  · rw [hb _ _ hx hy] at e; rw [hb _ _ hy hx]; exact bef_anti h x y (by omega) (by omega) e
  · rw [hb _ _ hx hy] at e; rw [hb _ _ hy hz] at e2; rw [hb _ _ hx hz]; exact bef_trans h x y z (by omega) (by omega) (by omega) e e2
  · rw [hb _ _ hx hy] at e; rw [hb _ _ hz hu] at e2; rw [hb _ _ hx hu] at e3; rw [hb _ _ hz hy]; exact bef_four h x y z u (by omega) (by omega) (by omega) (by omega) e e2 e3
  · rw [hb _ _ hx hy]; exact bef_seq h x y (by omega) (by omega) hxy (by rw [← he x hx, ← he y hy]; exact e)
set_option maxRecDepth 100000 in
set_option maxHeartbeats 4000000 in
theorem historyOrder_walk (l : List Evn) (a b c d : Int) (w : World) (n : Nat) (sl : Value) (hT : TabL w) (hi : EvsAt w w.heap.size (n + 1) sl l)
    (hh : ∀ U, Below w.heap.size w U → Calls Tryd.prog 11 #[] U fun e w' => e = .returned (.bool true) ∧ Below U.heap.size U w') :
    Calls Tryd.prog 5 #[sl, .int .i64 a, .int .i64 b, .int .i64 c, .int .i64 d] w fun e w' => e = .returned (.bool true) ∧ Below w.heap.size w w' := by
  have HM := hide (make_k l w n sl hT hi)
  have HH := hide hh
  obtain ⟨ea, ec, rfl, hlen⟩ := hi.len
  clear hi hh
  go_enter Tryd.func5, Tryd.ntmps5
  go_upto_region 2 with (go_at_call 7; refine HM.out.mono ?_; clear HM; rintro r w1 ⟨⟨v0, v1, v2, at', code, rfl, hres⟩, b1⟩; obtain ⟨⟨a0, m0, c0, rfl⟩, ⟨a1, m1, c1, rfl⟩, ⟨a2, m2, c2, rfl⟩⟩ := make_forms hres; have HRES := hide hres; have B1 := hide b1; clear hres b1)
  obtain ⟨X, hX⟩ : ∃ X, w1.alloc (.cells #[.slice a0 m0 c0, .slice a1 m1 c1, .slice a2 m2 c2] 27) = X := ⟨_, rfl⟩
  have bX : Below w1.heap.size w1 X := by rw [← hX]; exact alloc_v (Below.refl _ _) _
  have eX : X.heap[w1.heap.size]? = some (.cells #[.slice a0 m0 c0, .slice a1 m1 c1, .slice a2 m2 c2] 27 (0, 0)) := by rw [← hX]; exact World.alloc_heap_new w1 _
  have bwX := trans_v B1.out bX
  have x0 := cells_at eX 0 _ rfl
  have x1 := cells_at eX 1 _ rfl
  have x2 := cells_at eX 2 _ rfl
  rw [hX]
  clear hX
  have HHX := hide (HH.out X bwX)
  by_cases hc : code = 0
  rotate_left
  · have hcb : (code != 0) = true := by simpa using hc
    clear hc
    go_wp2_with (go_at_call 11; refine HHX.out.mono ?_; clear HHX; rintro r w3 ⟨rfl, b3⟩)
    go_ret
    exact ⟨rfl, trans_v bwX b3⟩
  by_cases hm : m2 = 0
  · subst hm
    have hcb : (code != 0) = false := by simp [hc]
    clear hc
    go_wp2_with (go_at_call 11; refine HHX.out.mono ?_; clear HHX; rintro r w3 ⟨rfl, b3⟩)
    go_ret
    exact ⟨rfl, trans_v bwX b3⟩
  have hcb : (code != 0) = false := by simp [hc]
  have hmz : ¬ ((m2 : Int) = 0) := by omega
  have hmb : ((m2 : Int) == 0) = false := by simpa using hm
  rcases HRES.out with ⟨hr, _⟩ | ⟨hc00, ha00, hfine, hnl, rs, L, hL1, hL2, hp⟩
  · exact absurd hc (by
      rcases hr with ⟨_, h⟩ | ⟨_, _, _, h⟩
      · exact h
      · omega)
  clear hc00 ha00 hnl
  have hgd := good_at l l.length (Nat.le_refl _) hfine
  have hN := ordN hgd hp.same
  have hrl : rs.length = (gAt l l.length).calls.length := by have := congrArg List.length hp.same; simpa using this
  have hrb : rs.length ≤ 1000000000 := by have := (gAt_small l l.length).2.2.1; omega
  have hcl := hp.cl
  rw [← hrl] at hcl
  obtain ⟨cx, cy, ce⟩ := rowLen hcl
  simp only [Value.slice.injEq] at ce
  obtain ⟨ce1, rfl, ce3⟩ := ce
  clear ce1 ce3 cx cy
  obtain ⟨gc, cc, ec, lc, ltc⟩ := hcl.form (by omega)
  simp only [Value.slice.injEq, true_and] at ec
  obtain ⟨rfl, rfl⟩ := ec
  have hclX := (Keeps.below (M := fun _ => False) bX).row hcl (fun _ _ h => h)
  have HB := hide (fun (U : World) (bU : Below X.heap.size X U) (i j : Nat) (hi : i < rs.length) (hj : j < rs.length) => (show Calls Tryd.prog 21 #[.agg #[.slice a0 m0 c0, .slice a1 m1 c1, .slice (some ⟨gc, 0, none⟩) rs.length c2], .int .i64 (i : Int), .int .i64 (j : Int)] U fun e w' => e = .returned (.bool (bfN rs i j)) ∧ Below U.heap.size U w' from by
    rw [bfN_eq rs i j hi hj]
    exact before_k U L gc c2 _ _ ⟨_, _, _, rfl⟩ ⟨_, _, _, rfl⟩ rs ((Keeps.below (M := fun _ => False) bU).row hclX (fun _ _ h => h)) i j hi hj))
  have hmw : IntKind.u64.wrap (rs.length : Int) = (rs.length : Int) := by rw [IntKind.wrap_u64]; omega
  obtain ⟨x, hx, ex⟩ := idx_nat a rs.length (by omega) hrb
  obtain ⟨y, hy, ey⟩ := idx_nat b rs.length (by omega) hrb
  obtain ⟨z, hz, ez⟩ := idx_nat c rs.length (by omega) hrb
  obtain ⟨u, hu, eu⟩ := idx_nat d rs.length (by omega) hrb
  have HC := hide hc
  have HEX := hide eX
  have HCX := hide hclX
  have HRL := hide hrl
  clear hc hgd hrl hcl hclX hp eX HRES
  go_upto_region 9 with (fail)
  rw [ex, ey, ez, eu]
  clear ex ey ez eu hmw hmb hmz hcb
  have HE1 := hide (fun (U : World) (bU : Below X.heap.size X U) => (bU.block w1.heap.size (Array.getElem?_eq_some_iff.1 HEX.out).1).trans HEX.out)
  have hQxx := hN.self x hx
  have BB := hide (Below.refl X.heap.size X)
  have HB1 := hide (HB.out X (Below.refl _ _) x y hx hy)
  go_upto_region 10 with (go_at_call 21; refine HB1.out.mono ?_; clear HB1; rintro r w2 ⟨rfl, b2⟩; have f2 := HE1.out w2 b2; have y0 := cells_at f2 0 _ rfl; have y1 := cells_at f2 1 _ rfl; have y2 := cells_at f2 2 _ rfl; have B2 := hide b2; clear b2 f2)
  clear x0 x1 x2
  have HB2 := hide (HB.out w2 B2.out z u hz hu)
  go_upto_region 11 with (go_at_call 21; refine HB2.out.mono ?_; clear HB2; rintro r w3 ⟨rfl, b3⟩; have B3 := hide (trans_v B2.out b3); have f3 := HE1.out w3 B3.out; have x0 := cells_at f3 0 _ rfl; have x1 := cells_at f3 1 _ rfl; have x2 := cells_at f3 2 _ rfl; clear b3 f3)
  clear y0 y1 y2 B2 BB
  have BB := B3
  clear B3
  have HHD := hide (fun (U : World) (b : Below X.heap.size X U) => HH.out U (trans_v bwX b))
  have hgl : gc < X.heap.size := (HCX.out.lt gc rfl).2
  have HCL := hide (fun (U : World) (bU : Below X.heap.size X U) (k : Nat) (hk : k < rs.length) => (show U.cell? ⟨gc, k * 15, none⟩ = some (.int .i64 (rs[k].1.proc : Int)) from by
    refine ((bcellV bU).1 _ _ hgl).trans ?_
    have := HCX.out.cellAt (k * 15 + 0) (by have := Nat.mul_le_mul_right 15 (show k + 1 ≤ rs.length by omega); omega)
    rw [crow_get rs k hk 0 (by omega)] at this
    exact this))
  have i0 : (0 : Int) ≤ (x : Int) := by omega
  have i1 : (x : Int) < (rs.length : Int) := by omega
  have j0 : (0 : Int) ≤ (y : Int) := by omega
  have j1 : (y : Int) < (rs.length : Int) := by omega
  clear HC HHX HEX HRL HCX hL1 hL2
  cases hxy : bfN rs x y
  · skip
    go_upto_region 15 with (go_at_call 21; refine (HB.out _ BB.out _ _ (by assumption) (by assumption)).mono ?_; rintro r w4 ⟨rfl, b4⟩; have BN := hide (trans_v BB.out b4); clear BB; have BB := BN; clear BN; have f4 := HE1.out _ BB.out; clear x0 x1 x2; have x0 := cells_at f4 0 _ rfl; have x1 := cells_at f4 1 _ rfl; have x2 := cells_at f4 2 _ rfl; clear b4 f4)
    have hw4 := BB.out.size
    have p1 := HCL.out _ BB.out x hx
    have p2 := HCL.out _ BB.out y hy
    by_cases hlt : x < y
    · have hl1 : (x : Int) < (y : Int) := by omega
      obtain ⟨px, hpx⟩ : ∃ px, rs[x].1.proc = px := ⟨_, rfl⟩
      obtain ⟨py, hpy⟩ : ∃ py, rs[y].1.proc = py := ⟨_, rfl⟩
      rw [hpx] at p1
      rw [hpy] at p2
      by_cases hpe : px = py
      · have := hN.seq x y hx hy hlt (by rw [hpx, hpy]; exact hpe)
        rw [hxy] at this
        cases this
      · have hpb : ((px : Int) == (py : Int)) = false := by simp; omega
        have hpn : ¬ ((px : Int) = (py : Int)) := by omega
        clear hpx hpy hlt
        go_quiet (fail)
        go_wp2_with (go_at_call 11; refine (HHD.out _ (trans_v BB.out (drewB _ _))).mono ?_; rintro r w9 ⟨rfl, b9⟩; have B9 := hide (trans_v (trans_v bwX BB.out) (trans_v (drewB _ _) b9)); clear b9)
        go_ret
        exact ⟨rfl, B9.out⟩
    · have hl1 : ¬ ((x : Int) < (y : Int)) := by omega
      have hl2 : decide (x < y) = false := by simpa using hlt
      have hl3 : decide ((x : Int) < (y : Int)) = false := by simpa using hlt
      clear hlt
      go_quiet (fail)
      go_wp2_with (go_at_call 11; refine (HHD.out _ (trans_v BB.out (drewB _ _))).mono ?_; rintro r w9 ⟨rfl, b9⟩; have B9 := hide (trans_v (trans_v bwX BB.out) (trans_v (drewB _ _) b9)); clear b9)
      go_ret
      exact ⟨rfl, B9.out⟩
  · have hyx := hN.anti x y hx hy hxy
    cases hyz : bfN rs y z
    · skip
      cases hzu : bfN rs z u
      · skip
        go_upto_region 15 with (go_at_call 21; refine (HB.out _ BB.out _ _ (by assumption) (by assumption)).mono ?_; rintro r w4 ⟨rfl, b4⟩; have BN := hide (trans_v BB.out b4); clear BB; have BB := BN; clear BN; have f4 := HE1.out _ BB.out; clear x0 x1 x2; have x0 := cells_at f4 0 _ rfl; have x1 := cells_at f4 1 _ rfl; have x2 := cells_at f4 2 _ rfl; clear b4 f4)
        have hw4 := BB.out.size
        have p1 := HCL.out _ BB.out x hx
        have p2 := HCL.out _ BB.out y hy
        by_cases hlt : x < y
        · have hl1 : (x : Int) < (y : Int) := by omega
          obtain ⟨px, hpx⟩ : ∃ px, rs[x].1.proc = px := ⟨_, rfl⟩
          obtain ⟨py, hpy⟩ : ∃ py, rs[y].1.proc = py := ⟨_, rfl⟩
          rw [hpx] at p1
          rw [hpy] at p2
          by_cases hpe : px = py
          · subst hpe
            clear hpx hpy hlt
            go_quiet (fail)
            go_wp2_with (go_at_call 11; refine (HHD.out _ (trans_v BB.out (drewB _ _))).mono ?_; rintro r w9 ⟨rfl, b9⟩; have B9 := hide (trans_v (trans_v bwX BB.out) (trans_v (drewB _ _) b9)); clear b9)
            go_ret
            exact ⟨rfl, B9.out⟩
          · have hpb : ((px : Int) == (py : Int)) = false := by simp; omega
            have hpn : ¬ ((px : Int) = (py : Int)) := by omega
            clear hpx hpy hlt
            go_quiet (fail)
            go_wp2_with (go_at_call 11; refine (HHD.out _ (trans_v BB.out (drewB _ _))).mono ?_; rintro r w9 ⟨rfl, b9⟩; have B9 := hide (trans_v (trans_v bwX BB.out) (trans_v (drewB _ _) b9)); clear b9)
            go_ret
            exact ⟨rfl, B9.out⟩
        · have hl1 : ¬ ((x : Int) < (y : Int)) := by omega
          have hl2 : decide (x < y) = false := by simpa using hlt
          have hl3 : decide ((x : Int) < (y : Int)) = false := by simpa using hlt
          clear hlt
          go_quiet (fail)
          go_wp2_with (go_at_call 11; refine (HHD.out _ (trans_v BB.out (drewB _ _))).mono ?_; rintro r w9 ⟨rfl, b9⟩; have B9 := hide (trans_v (trans_v bwX BB.out) (trans_v (drewB _ _) b9)); clear b9)
          go_ret
          exact ⟨rfl, B9.out⟩
      · cases hxu : bfN rs x u
        · have hzy := hN.four x y z u hx hy hz hu hxy hzu hxu
          go_upto_region 15 with (go_at_call 21; refine (HB.out _ BB.out _ _ (by assumption) (by assumption)).mono ?_; rintro r w4 ⟨rfl, b4⟩; have BN := hide (trans_v BB.out b4); clear BB; have BB := BN; clear BN; have f4 := HE1.out _ BB.out; clear x0 x1 x2; have x0 := cells_at f4 0 _ rfl; have x1 := cells_at f4 1 _ rfl; have x2 := cells_at f4 2 _ rfl; clear b4 f4)
          have hw4 := BB.out.size
          have p1 := HCL.out _ BB.out x hx
          have p2 := HCL.out _ BB.out y hy
          by_cases hlt : x < y
          · have hl1 : (x : Int) < (y : Int) := by omega
            obtain ⟨px, hpx⟩ : ∃ px, rs[x].1.proc = px := ⟨_, rfl⟩
            obtain ⟨py, hpy⟩ : ∃ py, rs[y].1.proc = py := ⟨_, rfl⟩
            rw [hpx] at p1
            rw [hpy] at p2
            by_cases hpe : px = py
            · subst hpe
              clear hpx hpy hlt
              go_quiet (fail)
              go_wp2_with (go_at_call 11; refine (HHD.out _ (trans_v BB.out (drewB _ _))).mono ?_; rintro r w9 ⟨rfl, b9⟩; have B9 := hide (trans_v (trans_v bwX BB.out) (trans_v (drewB _ _) b9)); clear b9)
              go_ret
              exact ⟨rfl, B9.out⟩
            · have hpb : ((px : Int) == (py : Int)) = false := by simp; omega
              have hpn : ¬ ((px : Int) = (py : Int)) := by omega
              clear hpx hpy hlt
              go_quiet (fail)
              go_wp2_with (go_at_call 11; refine (HHD.out _ (trans_v BB.out (drewB _ _))).mono ?_; rintro r w9 ⟨rfl, b9⟩; have B9 := hide (trans_v (trans_v bwX BB.out) (trans_v (drewB _ _) b9)); clear b9)
              go_ret
              exact ⟨rfl, B9.out⟩
          · have hl1 : ¬ ((x : Int) < (y : Int)) := by omega
            have hl2 : decide (x < y) = false := by simpa using hlt
            have hl3 : decide ((x : Int) < (y : Int)) = false := by simpa using hlt
            clear hlt
            go_quiet (fail)
            go_wp2_with (go_at_call 11; refine (HHD.out _ (trans_v BB.out (drewB _ _))).mono ?_; rintro r w9 ⟨rfl, b9⟩; have B9 := hide (trans_v (trans_v bwX BB.out) (trans_v (drewB _ _) b9)); clear b9)
            go_ret
            exact ⟨rfl, B9.out⟩
        · skip
          go_upto_region 15 with (go_at_call 21; refine (HB.out _ BB.out _ _ (by assumption) (by assumption)).mono ?_; rintro r w4 ⟨rfl, b4⟩; have BN := hide (trans_v BB.out b4); clear BB; have BB := BN; clear BN; have f4 := HE1.out _ BB.out; clear x0 x1 x2; have x0 := cells_at f4 0 _ rfl; have x1 := cells_at f4 1 _ rfl; have x2 := cells_at f4 2 _ rfl; clear b4 f4)
          have hw4 := BB.out.size
          have p1 := HCL.out _ BB.out x hx
          have p2 := HCL.out _ BB.out y hy
          by_cases hlt : x < y
          · have hl1 : (x : Int) < (y : Int) := by omega
            obtain ⟨px, hpx⟩ : ∃ px, rs[x].1.proc = px := ⟨_, rfl⟩
            obtain ⟨py, hpy⟩ : ∃ py, rs[y].1.proc = py := ⟨_, rfl⟩
            rw [hpx] at p1
            rw [hpy] at p2
            by_cases hpe : px = py
            · subst hpe
              clear hpx hpy hlt
              go_quiet (fail)
              go_wp2_with (go_at_call 11; refine (HHD.out _ (trans_v BB.out (drewB _ _))).mono ?_; rintro r w9 ⟨rfl, b9⟩; have B9 := hide (trans_v (trans_v bwX BB.out) (trans_v (drewB _ _) b9)); clear b9)
              go_ret
              exact ⟨rfl, B9.out⟩
            · have hpb : ((px : Int) == (py : Int)) = false := by simp; omega
              have hpn : ¬ ((px : Int) = (py : Int)) := by omega
              clear hpx hpy hlt
              go_quiet (fail)
              go_wp2_with (go_at_call 11; refine (HHD.out _ (trans_v BB.out (drewB _ _))).mono ?_; rintro r w9 ⟨rfl, b9⟩; have B9 := hide (trans_v (trans_v bwX BB.out) (trans_v (drewB _ _) b9)); clear b9)
              go_ret
              exact ⟨rfl, B9.out⟩
          · have hl1 : ¬ ((x : Int) < (y : Int)) := by omega
            have hl2 : decide (x < y) = false := by simpa using hlt
            have hl3 : decide ((x : Int) < (y : Int)) = false := by simpa using hlt
            clear hlt
            go_quiet (fail)
            go_wp2_with (go_at_call 11; refine (HHD.out _ (trans_v BB.out (drewB _ _))).mono ?_; rintro r w9 ⟨rfl, b9⟩; have B9 := hide (trans_v (trans_v bwX BB.out) (trans_v (drewB _ _) b9)); clear b9)
            go_ret
            exact ⟨rfl, B9.out⟩
    · have hxz := hN.trans x y z hx hy hz hxy hyz
      cases hzu : bfN rs z u
      · skip
        go_upto_region 15 with (go_at_call 21; refine (HB.out _ BB.out _ _ (by assumption) (by assumption)).mono ?_; rintro r w4 ⟨rfl, b4⟩; have BN := hide (trans_v BB.out b4); clear BB; have BB := BN; clear BN; have f4 := HE1.out _ BB.out; clear x0 x1 x2; have x0 := cells_at f4 0 _ rfl; have x1 := cells_at f4 1 _ rfl; have x2 := cells_at f4 2 _ rfl; clear b4 f4)
        have hw4 := BB.out.size
        have p1 := HCL.out _ BB.out x hx
        have p2 := HCL.out _ BB.out y hy
        by_cases hlt : x < y
        · have hl1 : (x : Int) < (y : Int) := by omega
          obtain ⟨px, hpx⟩ : ∃ px, rs[x].1.proc = px := ⟨_, rfl⟩
          obtain ⟨py, hpy⟩ : ∃ py, rs[y].1.proc = py := ⟨_, rfl⟩
          rw [hpx] at p1
          rw [hpy] at p2
          by_cases hpe : px = py
          · subst hpe
            clear hpx hpy hlt
            go_quiet (fail)
            go_wp2_with (go_at_call 11; refine (HHD.out _ (trans_v BB.out (drewB _ _))).mono ?_; rintro r w9 ⟨rfl, b9⟩; have B9 := hide (trans_v (trans_v bwX BB.out) (trans_v (drewB _ _) b9)); clear b9)
            go_ret
            exact ⟨rfl, B9.out⟩
          · have hpb : ((px : Int) == (py : Int)) = false := by simp; omega
            have hpn : ¬ ((px : Int) = (py : Int)) := by omega
            clear hpx hpy hlt
            go_quiet (fail)
            go_wp2_with (go_at_call 11; refine (HHD.out _ (trans_v BB.out (drewB _ _))).mono ?_; rintro r w9 ⟨rfl, b9⟩; have B9 := hide (trans_v (trans_v bwX BB.out) (trans_v (drewB _ _) b9)); clear b9)
            go_ret
            exact ⟨rfl, B9.out⟩
        · have hl1 : ¬ ((x : Int) < (y : Int)) := by omega
          have hl2 : decide (x < y) = false := by simpa using hlt
          have hl3 : decide ((x : Int) < (y : Int)) = false := by simpa using hlt
          clear hlt
          go_quiet (fail)
          go_wp2_with (go_at_call 11; refine (HHD.out _ (trans_v BB.out (drewB _ _))).mono ?_; rintro r w9 ⟨rfl, b9⟩; have B9 := hide (trans_v (trans_v bwX BB.out) (trans_v (drewB _ _) b9)); clear b9)
          go_ret
          exact ⟨rfl, B9.out⟩
      · cases hxu : bfN rs x u
        · have hzy := hN.four x y z u hx hy hz hu hxy hzu hxu
          go_upto_region 15 with (go_at_call 21; refine (HB.out _ BB.out _ _ (by assumption) (by assumption)).mono ?_; rintro r w4 ⟨rfl, b4⟩; have BN := hide (trans_v BB.out b4); clear BB; have BB := BN; clear BN; have f4 := HE1.out _ BB.out; clear x0 x1 x2; have x0 := cells_at f4 0 _ rfl; have x1 := cells_at f4 1 _ rfl; have x2 := cells_at f4 2 _ rfl; clear b4 f4)
          have hw4 := BB.out.size
          have p1 := HCL.out _ BB.out x hx
          have p2 := HCL.out _ BB.out y hy
          by_cases hlt : x < y
          · have hl1 : (x : Int) < (y : Int) := by omega
            obtain ⟨px, hpx⟩ : ∃ px, rs[x].1.proc = px := ⟨_, rfl⟩
            obtain ⟨py, hpy⟩ : ∃ py, rs[y].1.proc = py := ⟨_, rfl⟩
            rw [hpx] at p1
            rw [hpy] at p2
            by_cases hpe : px = py
            · subst hpe
              clear hpx hpy hlt
              go_quiet (fail)
              go_wp2_with (go_at_call 11; refine (HHD.out _ (trans_v BB.out (drewB _ _))).mono ?_; rintro r w9 ⟨rfl, b9⟩; have B9 := hide (trans_v (trans_v bwX BB.out) (trans_v (drewB _ _) b9)); clear b9)
              go_ret
              exact ⟨rfl, B9.out⟩
            · have hpb : ((px : Int) == (py : Int)) = false := by simp; omega
              have hpn : ¬ ((px : Int) = (py : Int)) := by omega
              clear hpx hpy hlt
              go_quiet (fail)
              go_wp2_with (go_at_call 11; refine (HHD.out _ (trans_v BB.out (drewB _ _))).mono ?_; rintro r w9 ⟨rfl, b9⟩; have B9 := hide (trans_v (trans_v bwX BB.out) (trans_v (drewB _ _) b9)); clear b9)
              go_ret
              exact ⟨rfl, B9.out⟩
          · have hl1 : ¬ ((x : Int) < (y : Int)) := by omega
            have hl2 : decide (x < y) = false := by simpa using hlt
            have hl3 : decide ((x : Int) < (y : Int)) = false := by simpa using hlt
            clear hlt
            go_quiet (fail)
            go_wp2_with (go_at_call 11; refine (HHD.out _ (trans_v BB.out (drewB _ _))).mono ?_; rintro r w9 ⟨rfl, b9⟩; have B9 := hide (trans_v (trans_v bwX BB.out) (trans_v (drewB _ _) b9)); clear b9)
            go_ret
            exact ⟨rfl, B9.out⟩
        · skip
          go_upto_region 15 with (go_at_call 21; refine (HB.out _ BB.out _ _ (by assumption) (by assumption)).mono ?_; rintro r w4 ⟨rfl, b4⟩; have BN := hide (trans_v BB.out b4); clear BB; have BB := BN; clear BN; have f4 := HE1.out _ BB.out; clear x0 x1 x2; have x0 := cells_at f4 0 _ rfl; have x1 := cells_at f4 1 _ rfl; have x2 := cells_at f4 2 _ rfl; clear b4 f4)
          have hw4 := BB.out.size
          have p1 := HCL.out _ BB.out x hx
          have p2 := HCL.out _ BB.out y hy
          by_cases hlt : x < y
          · have hl1 : (x : Int) < (y : Int) := by omega
            obtain ⟨px, hpx⟩ : ∃ px, rs[x].1.proc = px := ⟨_, rfl⟩
            obtain ⟨py, hpy⟩ : ∃ py, rs[y].1.proc = py := ⟨_, rfl⟩
            rw [hpx] at p1
            rw [hpy] at p2
            by_cases hpe : px = py
            · subst hpe
              clear hpx hpy hlt
              go_quiet (fail)
              go_wp2_with (go_at_call 11; refine (HHD.out _ (trans_v BB.out (drewB _ _))).mono ?_; rintro r w9 ⟨rfl, b9⟩; have B9 := hide (trans_v (trans_v bwX BB.out) (trans_v (drewB _ _) b9)); clear b9)
              go_ret
              exact ⟨rfl, B9.out⟩
            · have hpb : ((px : Int) == (py : Int)) = false := by simp; omega
              have hpn : ¬ ((px : Int) = (py : Int)) := by omega
              clear hpx hpy hlt
              go_quiet (fail)
              go_wp2_with (go_at_call 11; refine (HHD.out _ (trans_v BB.out (drewB _ _))).mono ?_; rintro r w9 ⟨rfl, b9⟩; have B9 := hide (trans_v (trans_v bwX BB.out) (trans_v (drewB _ _) b9)); clear b9)
              go_ret
              exact ⟨rfl, B9.out⟩
          · have hl1 : ¬ ((x : Int) < (y : Int)) := by omega
            have hl2 : decide (x < y) = false := by simpa using hlt
            have hl3 : decide ((x : Int) < (y : Int)) = false := by simpa using hlt
            clear hlt
            go_quiet (fail)
            go_wp2_with (go_at_call 11; refine (HHD.out _ (trans_v BB.out (drewB _ _))).mono ?_; rintro r w9 ⟨rfl, b9⟩; have B9 := hide (trans_v (trans_v bwX BB.out) (trans_v (drewB _ _) b9)); clear b9)
            go_ret
            exact ⟨rfl, B9.out⟩
end Go.Proofs.YtooddjfkibbkeaaDoor
