/- The document's first broken rune; the walk of the statement on places. -/
import Derived.Test.YtpbebcefnkbnlaaDoorTRefAt
import Derived.Test.YtpbebcefnkbnlaaDoorTRunesWalk
import Derived.Test.YtpbebcefnkbnlaaDoorTPadMath
import Derived.Laws.ResultCell
namespace Go.Proofs.YtpbebcefnkbnlaaDoor
open Go.RowKit

theorem ru_one : ∀ l : List UInt8, ∀ p ∈ ru l, 1 ≤ p.2 := by
  refine ru_ind (by simp [ru_nil]) ?_
  intro l hl ih p hp
  rw [ru_step l hl] at hp
  rcases List.mem_cons.1 hp with rfl | hp
  · exact wd_pos l
  · exact ih p hp
theorem results_cell_row_tmp {P : Program} {fn : Func} {p u : Tmp} {ty : TypeId} (h : fn.results = #[.cell p ty, .tmp u]) (tmps : Array Value) (w : World) (g : Nat) (t : TypeId) (cs : Array Value) (fr : Nat × Nat) (d : TypeDesc)
    (hp : tmps.getD p undef = .pointer (some ⟨g, 0, none⟩)) (hg : w.heap[g]? = some (.cells cs t fr))
    (hu : P.underlying ty = some d) (hd : (match d with | .struct _ | .array _ _ => true | _ => false) = true) (hi : (P.info? ty).map (·.size) = some cs.size) :
    (results fn tmps).run P w = .ok (.tuple #[.agg cs, tmps.getD u undef]) w := by
  rw [results_cell_tmp h, hp]
  simp [asAddr, run_loadVar_row w g t ty cs fr d hg hu hd hi]
/-- What is known of the way from a text's beginning to the rune that begins at k. -/
structure Way (s : ByteArray) (t0 : List (Int × Nat)) (i k line col : Nat) (t : List (Int × Nat)) : Prop where
  drop : (rsT 0 t0).drop i = rsT k t
  at' : ∀ o, k ≤ o → atR o 0 1 1 t0 = atR o k line col t
  pl : plR 0 1 1 t0 = plR k line col t
  one : ∀ p ∈ t, 1 ≤ p.2
  lo : ∀ p ∈ t, -1 ≤ p.1
  sum : k + (t.map Prod.snd).sum = s.size
theorem Way.start (s : ByteArray) : Way s (ru s.data.toList) 0 0 1 1 (ru s.data.toList) := by
  refine ⟨rfl, fun _ _ => rfl, rfl, ru_one _, fun p hp => (ru_bound _ p hp).1, ?_⟩
  rw [ru_sum, Array.length_toList, Nat.zero_add]
  rfl
theorem Way.next {s : ByteArray} {t0 : List (Int × Nat)} {i k line col : Nat} {r : Int} {n : Nat} {t : List (Int × Nat)} (h : Way s t0 i k line col ((r, n) :: t)) (hr : r ≠ -1) (hi : i < (rsT 0 t0).length) : Way s t0 (i + 1) (k + n) (bLine line r) (bCol col r) t := by
  have hn := h.one (r, n) (by simp)
  dsimp only at hn
  refine ⟨?_, fun o ho => ?_, ?_, fun p hp => h.one p (by simp [hp]), fun p hp => h.lo p (by simp [hp]), ?_⟩
  · have hd := h.drop
    rw [List.drop_eq_getElem_cons hi, rsT] at hd
    exact (List.cons.inj hd).2
  · rw [h.at' o (by omega), atR, if_pos (by omega)]
  · rw [h.pl, plR, if_neg hr]
  · have := h.sum
    rw [List.map_cons, List.sum_cons] at this
    omega
theorem Way.get {s : ByteArray} {t0 : List (Int × Nat)} {i k line col : Nat} {t : List (Int × Nat)} (h : Way s t0 i k line col t) (hi : i < (rsT 0 t0).length) : ∃ r n t', t = (r, n) :: t' ∧ (rsT 0 t0)[i] = (r, k, n) := by
  have hd := h.drop
  rw [List.drop_eq_getElem_cons hi] at hd
  match t, hd with
  | [], hd => rw [rsT] at hd; cases hd
  | (r, n) :: t', hd =>
    rw [rsT] at hd
    exact ⟨r, n, t', rfl, (List.cons.inj hd).1⟩
theorem Way.done {s : ByteArray} {t0 : List (Int × Nat)} {i k line col : Nat} {t : List (Int × Nat)} (h : Way s t0 i k line col t) (hi : ¬ i < (rsT 0 t0).length) : t = [] := by
  have hd := h.drop
  rw [List.drop_of_length_le (by omega)] at hd
  match t, hd with
  | [], _ => rfl
  | (r, k) :: t, hd => rw [rsT] at hd; cases hd

set_option maxRecDepth 100000 in
set_option maxHeartbeats 4000000 in
theorem refPlain_k (s : ByteArray) (hs : s.size ≤ 1048576) (w : World) :
    Calls Tryd.prog 10 #[.string s] w fun e w' => e = .returned (.tuple #[.agg (plV (plR 0 1 1 (ru s.data.toList))), .bool (plR 0 1 1 (ru s.data.toList)).isNone]) ∧ Below w.heap.size w w' := by
  have hr := refRunes_cells s hs
  have hle := rs_le s
  rw [rs_length] at hr hle
  unfold rs at hr
  have hway := Way.start s
  have hat := refAt_k s hs
  generalize ru s.data.toList = t0 at *
  obtain ⟨R, hR⟩ : ∃ R, plR 0 1 1 t0 = R := ⟨_, rfl⟩
  rw [hR]
  have HR := hide hR
  have HW := hide hway
  clear hR hway
  go_enter Tryd.func10, Tryd.ntmps10
  go_wp2_with (go_at_call 18; refine (hr _).mono ?_; clear hr; rintro e w1 ⟨a, cp, rfl, hx, hb⟩; have HX := hide hx; clear hx)
  have hsz1 := hb.size
  rw [World.size_alloc] at hsz1
  have hres : AtT 26 w1 w.heap.size 0 0 0 := AtT.below (heap_alloc_new w _) hb
  have hbw : Below w.heap.size w w1 := ((Below.refl _ w).alloc (Nat.le_refl _) _).trans (hb.mono (by simp))
  obtain ⟨r00, r01, r02, rf00, rf01, rf02⟩ := hres.cells
  have hlen : (rsT 0 t0).length = t0.length := rsT_length _ _
  go_loopw [5] (fun vi wr => ∃ (i k line col : Nat) (t : List (Int × Nat)), vi = .int .i64 (i : Int) ∧ i ≤ t0.length ∧ Hid (Way s t0 i k line col t) ∧ wr = w1) (fun v _ => t0.length - (Lib.intOf v).toNat)
  case atStart => exact ⟨0, 0, 1, 1, t0, rfl, Nat.zero_le _, HW, rfl⟩
  case round =>
    obtain ⟨i, k, line, col, t, rfl, hi, HWY, rfl⟩ := hrel
    by_cases hlt : i < t0.length
    · obtain ⟨r, n, t', rfl, hget⟩ := HWY.out.get (by omega)
      obtain ⟨g, rfl, d1, d2, -⟩ := HX.out i (by omega)
      rw [hget] at d1 d2
      dsimp only at d1 d2
      by_cases hr : r < 0
      · have hlo := HWY.out.lo (r, n) (by simp)
        have hr1 : r = -1 := by dsimp only at hlo; omega
        have hk : k ≤ s.size := by have := HWY.out.sum; omega
        have hRR := HWY.out.pl
        rw [HR.out, plR, if_pos hr1] at hRR
        have hAt := HWY.out.at' k (Nat.le_refl _)
        rw [atR, if_neg (Nat.lt_irrefl _)] at hAt
        have hck : clamp s (k : Int) = k := by unfold clamp; omega
        have hat1 := hat (k : Int) wr
        rw [hck, hAt] at hat1
        dsimp only at hat1
        subst hRR
        clear HR HWY hlo hget hat hAt hck hr1
        go_wp2_with (go_at_call 13; refine hat1.mono ?_; clear hat1; rintro e w2 ⟨rfl, b2⟩; have y0 := hres.below b2; obtain ⟨y00, y01, y02, yf00, yf01, yf02⟩ := y0.cells; have x1 := y0.set0 (k : Int); obtain ⟨x10, x11, x12, xf10, xf11, xf12⟩ := x1.cells; have x2 := x1.set1 (line : Int); obtain ⟨x20, x21, x22, xf20, xf21, xf22⟩ := x2.cells; have x3 := x2.set2 (col : Int))
        refine bodyPost_ret (results_cell_row_tmp rfl _ _ w.heap.size _ _ _ _ rfl x3 Tryd.underlying26 rfl infoRefSpot) rfl ?_
        exact ⟨rfl, below_set (below_set (below_set (hbw.trans (b2.mono hbw.size)) _ _ _ (Nat.le_refl _)) _ _ _ (Nat.le_refl _)) _ _ _ (Nat.le_refl _)⟩
      · have hnx := HWY.out.next (by omega) (by omega)
        have HN := hide hnx
        clear hnx HWY hget
        go_wp2
        go_roundw
        case rel => exact ⟨i + 1, k + n, bLine line r, bCol col r, t', by simp, by omega, HN, trivial⟩
        case measure =>
          simp [Lib.intOf]
          omega
    · have ht := HWY.out.done (by omega)
      subst ht
      have hRR := HWY.out.pl
      rw [HR.out, plR] at hRR
      subst hRR
      have x1 := hres.set0 0
      obtain ⟨x10, x11, x12, xf10, xf11, xf12⟩ := x1.cells
      have x2 := x1.set1 0
      obtain ⟨x20, x21, x22, xf20, xf21, xf22⟩ := x2.cells
      have x3 := x2.set2 0
      clear HR HWY
      go_wp2
      refine bodyPost_ret (results_cell_row_tmp rfl _ _ w.heap.size _ _ _ _ rfl x3 Tryd.underlying26 rfl infoRefSpot) rfl ?_
      exact ⟨rfl, below_set (below_set (below_set hbw _ _ _ (Nat.le_refl _)) _ _ _ (Nat.le_refl _)) _ _ _ (Nat.le_refl _)⟩

set_option maxRecDepth 100000 in
set_option maxHeartbeats 4000000 in
theorem textSpots_walk (s : ByteArray) (hs : s.size ≤ 1048576) (o : Int) (w : World) (ht : Tabs w) :
    Calls Tryd.prog 3 #[.string s, .int .i64 o] w fun e w' => e = .returned (.bool true) ∧ Below w.heap.size w w' := by
  have h1 := plain_k s hs
  have h2 := refPlain_k s hs
  have h3 := at_k s hs o
  have h4 := refAt_k s hs o
  have h5 := width_k s (by omega)
  have h6 := refWidth_k s hs
  have hal := alive_k
  have hq : (((ru s.data.toList).length : Int) == ((ru s.data.toList).length : Int)) = true := by simp
  generalize (ru s.data.toList).length = L at *
  generalize plR 0 1 1 (ru s.data.toList) = R at *
  generalize atR (clamp s o) 0 1 1 (ru s.data.toList) = C at *
  generalize clamp s o = q at *
  obtain ⟨x, y, z, b, e1, e2⟩ : ∃ (x y z : Int) (b : Bool), plV R = #[.int .i64 x, .int .i64 y, .int .i64 z] ∧ R.isNone = b := by
    match R with
    | none => exact ⟨0, 0, 0, true, rfl, rfl⟩
    | some (k, line, col) => exact ⟨k, line, col, false, rfl, rfl⟩
  rw [e1, e2] at h1 h2
  clear e1 e2
  have hs1 := fun w => same_yes (q : Int) C.1 C.2 w
  have hs2 := fun w => same_yes x y z w
  have hbb : (b == b) = true := by simp
  go_enter Tryd.func3, Tryd.ntmps3
  go_wp2_with (first
    | (go_at_call 9; refine (h1 _).mono ?_; clear h1; rintro e w1 ⟨rfl, b1⟩; have t1 := ht.below b1; have k1 : AtT 23 (w1.alloc (.cells #[.int .i64 x, .int .i64 y, .int .i64 z] 23)) w1.heap.size x y z := heap_alloc_new w1 _)
    | (go_at_call 10; refine (h2 _).mono ?_; clear h2; rintro e w2 ⟨rfl, b2⟩; have k2 : AtT 26 (w2.alloc (.cells #[.int .i64 x, .int .i64 y, .int .i64 z] 26)) w2.heap.size x y z := heap_alloc_new w2 _; have k3 := (k1.below b2).alloc (.cells #[.int .i64 x, .int .i64 y, .int .i64 z] 26))
    | (go_at_call 12; refine (h3 _).mono ?_; clear h3; rintro e w3 ⟨rfl, b3⟩)
    | (go_at_call 13; refine (h4 _).mono ?_; clear h4; rintro e w4 ⟨rfl, b4⟩)
    | (go_at_call 11; refine (hs1 _).mono ?_; clear hs1; rintro e w5 ⟨rfl, b5⟩; have m1 := ((k3.below b3).below b4).below b5; have m2 := ((k2.below b3).below b4).below b5; obtain ⟨c10, c11, c12, _, _, _⟩ := m1.cells; obtain ⟨c20, c21, c22, _, _, _⟩ := m2.cells)
    | (go_at_call 11; refine (hs2 _).mono ?_; clear hs2; rintro e w6 ⟨rfl, b6⟩)
    | (go_at_call 14; refine (h5 _).mono ?_; clear h5; rintro e w7 ⟨rfl, b7⟩)
    | (go_at_call 15; refine (h6 _).mono ?_; clear h6; rintro e w8 ⟨rfl, b8⟩; have t8 := (((((((((t1.below ((Below.refl _ _).alloc (Nat.le_refl _) _)).below b2).below ((Below.refl _ _).alloc (Nat.le_refl _) _)).below b3).below b4).below b5).below b6).below b7).below b8))
    | (go_at_call 16; refine (hal _ t8).mono ?_; rintro e w9 ⟨rfl, b9⟩))
  go_ret
  have s1 := b1.size
  have s2 := b2.size
  have s3 := b3.size
  have s4 := b4.size
  have s5 := b5.size
  have s6 := b6.size
  have s7 := b7.size
  have s8 := b8.size
  simp only [World.size_alloc] at s2 s3
  exact ⟨rfl, (((((((((b1.alloc (by omega) _).trans (b2.mono (by simp; omega))).alloc (by omega) _).trans (b3.mono (by simp; omega))).trans (b4.mono (by omega))).trans (b5.mono (by omega))).trans (b6.mono (by omega))).trans (b7.mono (by omega))).trans (b8.mono (by omega))).trans (b9.mono (by omega))⟩
end Go.Proofs.YtpbebcefnkbnlaaDoor
