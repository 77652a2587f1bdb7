/- The walk of the statement on how runes go. -/
import Derived.Test.YtpbebcefnkbnlaaDoorTRefPlain
namespace Go.Proofs.YtpbebcefnkbnlaaDoor
open Go.RowKit

theorem enc_str (r : Int) (h0 : 0 ≤ r) : Utf8.encode r = str (Lib.encodeRune r) := by
  obtain ⟨n, rfl⟩ : ∃ n : Nat, r = (n : Int) := ⟨r.toNat, by omega⟩
  unfold Utf8.encode Lib.encodeRune Lib.encodeRuneZ str
  by_cases h1 : n ≤ 127
  · have hv : Utf8.valid (n : Int) = true := by unfold Utf8.valid; simp; omega
    rw [hv]
    simp only [if_true, Int.toNat_natCast]
    rw [if_pos (by omega), if_pos (by omega)]
    simp
  · have e1 : (192 + (n : Int) / 64).toNat = 192 + n / 64 := by omega
    have e2 : (128 + (n : Int) % 64).toNat = 128 + n % 64 := by omega
    have e3 : (224 + (n : Int) / 4096).toNat = 224 + n / 4096 := by omega
    have e4 : (128 + (n : Int) / 64 % 64).toNat = 128 + n / 64 % 64 := by omega
    have e5 : (240 + (n : Int) / 262144).toNat = 240 + n / 262144 := by omega
    have e6 : (128 + (n : Int) / 4096 % 64).toNat = 128 + n / 4096 % 64 := by omega
    have a1 : ¬ (0 ≤ (n : Int) ∧ (n : Int) ≤ 127) := by omega
    by_cases hv : Utf8.valid (n : Int) = true
    · have hr : n < 55296 ∨ (57344 ≤ n ∧ n ≤ 1114111) := by unfold Utf8.valid at hv; simp at hv; omega
      have b1 : ¬ n < 128 := by omega
      simp only [hv, if_true, Int.toNat_natCast, if_neg a1, if_neg b1]
      by_cases h2 : n ≤ 2047
      · have b2 : n < 2048 := by omega
        have a2 : 128 ≤ (n : Int) ∧ (n : Int) ≤ 2047 := by omega
        simp only [if_pos b2, if_pos a2, List.map_cons, List.map_nil, e1, e2]
      · have b2 : ¬ n < 2048 := by omega
        have a2 : ¬ (128 ≤ (n : Int) ∧ (n : Int) ≤ 2047) := by omega
        simp only [if_neg b2, if_neg a2]
        by_cases h3 : n ≤ 65535
        · have b3 : n < 65536 := by omega
          have a3 : (2048 ≤ (n : Int) ∧ (n : Int) < 55296) ∨ (57343 < (n : Int) ∧ (n : Int) ≤ 65535) := by omega
          simp only [if_pos b3, if_pos a3, List.map_cons, List.map_nil, e2, e3, e4]
        · have b3 : ¬ n < 65536 := by omega
          have a3 : ¬ ((2048 ≤ (n : Int) ∧ (n : Int) < 55296) ∨ (57343 < (n : Int) ∧ (n : Int) ≤ 65535)) := by omega
          have a4 : 65536 ≤ (n : Int) ∧ (n : Int) ≤ 1114111 := by omega
          simp only [if_neg b3, if_neg a3, if_pos a4, List.map_cons, List.map_nil, e2, e4, e5, e6]
    · have hr : ¬ (n < 55296 ∨ (57344 ≤ n ∧ n ≤ 1114111)) := by unfold Utf8.valid at hv; simp at hv; omega
      have a2 : ¬ (128 ≤ (n : Int) ∧ (n : Int) ≤ 2047) := by omega
      have a3 : ¬ ((2048 ≤ (n : Int) ∧ (n : Int) < 55296) ∨ (57343 < (n : Int) ∧ (n : Int) ≤ 65535)) := by omega
      have a4 : ¬ (65536 ≤ (n : Int) ∧ (n : Int) ≤ 1114111) := by omega
      have hvf : Utf8.valid (n : Int) = false := by simpa using hv
      simp only [hvf, if_neg a1, if_neg a2, if_neg a3, if_neg a4, Bool.false_eq_true, if_false]
      rfl

/-- Where one is: at the rune number i, which begins at k, in that line and column. -/
structure GoAt (s : ByteArray) (i k line col : Nat) : Prop where
  drop : (els s.data.toList).drop i = elS k line col (ru (s.data.toList.drop k))
  le : k ≤ s.size
  at' : ∀ o, k ≤ o → atR o 0 1 1 (ru s.data.toList) = atR o k line col (ru (s.data.toList.drop k))
  line : line ≤ i + 1
  col : col ≤ i + 1
theorem GoAt.start (s : ByteArray) : GoAt s 0 0 1 1 := ⟨rfl, Nat.zero_le _, fun _ _ => rfl, Nat.le_refl _, Nat.le_refl _⟩
theorem GoAt.get {s : ByteArray} {i k line col : Nat} (h : GoAt s i k line col) (hi : i < (els s.data.toList).length) : k < s.size ∧ (els s.data.toList)[i] = ⟨k, line, col, rv (s.data.toList.drop k)⟩ ∧ GoAt s (i + 1) (k + wd (s.data.toList.drop k)) (bLine line (rv (s.data.toList.drop k))) (bCol col (rv (s.data.toList.drop k))) := by
  have hlen : s.data.toList.length = s.size := by rw [Array.length_toList]; rfl
  have hd := h.drop
  rw [List.drop_eq_getElem_cons hi] at hd
  have hne : s.data.toList.drop k ≠ [] := by
    intro e
    rw [e, ru_nil, elS] at hd
    cases hd
  have hlt : k < s.size := by
    have := List.length_pos_iff.2 hne
    rw [List.length_drop, hlen] at this
    omega
  have hw := wd_room s k hlt
  have hp := wd_pos (s.data.toList.drop k)
  rw [ru_step _ hne, elS_step] at hd
  obtain ⟨h1, h2⟩ := List.cons.inj hd
  rw [List.drop_drop] at h2
  refine ⟨hlt, h1, h2, hw, fun o ho => ?_, ?_, ?_⟩
  · rw [h.at' o (by omega), ru_step _ hne, atR, if_pos (by omega), List.drop_drop]
  · have := bLine_le line (rv (s.data.toList.drop k))
    have := h.line
    omega
  · have := bCol_le col (rv (s.data.toList.drop k))
    have := h.col
    omega
theorem GoAt.done {s : ByteArray} {i k line col : Nat} (h : GoAt s i k line col) (hi : ¬ i < (els s.data.toList).length) : k = s.size := by
  have hlen : s.data.toList.length = s.size := by rw [Array.length_toList]; rfl
  have hd := h.drop
  rw [List.drop_of_length_le (by omega)] at hd
  by_cases hk : k < s.size
  · rw [ru_step _ (drop_ne s k hk), elS_step] at hd
    cases hd
  · have := h.le
    omega
theorem GoAt.spot {s : ByteArray} {i k line col : Nat} (h : GoAt s i k line col) : atR k 0 1 1 (ru s.data.toList) = (line, col) := by
  rw [h.at' k (Nat.le_refl _)]
  match ru (s.data.toList.drop k) with
  | [] => rfl
  | (r, n) :: t => rw [atR, if_neg (Nat.lt_irrefl _)]

theorem spotNe' (a b c : Int) (w : World) : (binOp BinOp.neq 23 (.agg #[.int .i64 a, .int .i64 b, .int .i64 c]) (.agg #[.int .i64 a, .int .i64 b, .int .i64 c])).run Tryd.prog w = .ok (.bool false) w := by
  simp [go_sem]

set_option maxRecDepth 100000 in
set_option maxHeartbeats 8000000 in
theorem textGoes_walk (s : ByteArray) (hs : s.size ≤ 1048576) (w : World) (ht : Tabs w) :
    Calls Tryd.prog 5 #[.string s] w fun e w' => e = .returned (.bool true) ∧ Below w.heap.size w w' := by
  have hlen : s.data.toList.length = s.size := by rw [Array.length_toList]; rfl
  have h1 := runes_cells s hs w
  have h2 := width_k s (by omega)
  have hat := at_k s hs
  have hal := alive_k
  have hMs : (ru s.data.toList).length ≤ s.size := by rw [← hlen]; exact ru_length_le _
  have hM0 : 0 < s.size → 0 < (ru s.data.toList).length := fun h => by
    have hne : s.data.toList ≠ [] := fun e => by rw [e] at hlen; simp at hlen; omega
    rw [ru_step _ hne]
    simp
  obtain ⟨M, hM⟩ : ∃ M, (ru s.data.toList).length = M := ⟨_, rfl⟩
  have hEM : (els s.data.toList).length = M := by rw [els_length, hM]
  rw [hM] at h1 h2 hMs hM0
  have hg0 := hide (GoAt.start s)
  have hs1 := fun k line col w => spotNe' (k : Int) line col w
  by_cases hz : s.size = 0
  · have hM00 : M = 0 := by omega
    subst hM00
    have hs0 : s = ⟨#[]⟩ := by
      rw [← str_bytes s, List.eq_nil_of_length_eq_zero (hlen.trans hz)]
      rfl
    subst hs0
    clear hM0
    go_enter Tryd.func5, Tryd.ntmps5
    go_wp2_with (first
      | (go_at_call 17; refine h1.mono ?_; clear h1; rintro e w1 ⟨a1, c1, a2, c2, rfl, _, _, b1⟩)
      | (go_at_call 14; refine (h2 _).mono ?_; clear h2; rintro e w2 ⟨rfl, b2⟩))
    have hA : AtT 23 (w2.alloc (.cells #[.int .i64 0, .int .i64 1, .int .i64 1] 23)) w2.heap.size 0 1 1 := heap_alloc_new w2 _
    obtain ⟨q0, _, _, _, _, _⟩ := hA.cells
    have t3 := ((ht.below b1).below b2).below ((Below.refl _ _).alloc (Nat.le_refl _) (.cells #[.int .i64 0, .int .i64 1, .int .i64 1] 23))
    go_loopw [6, 7, 8] (fun vi _ _ wr => vi = .int .i64 0 ∧ wr = w2.alloc (.cells #[.int .i64 0, .int .i64 1, .int .i64 1] 23)) (fun _ _ _ _ => 0)
    case atStart => exact ⟨rfl, rfl⟩
    case round =>
      obtain ⟨rfl, rfl⟩ := hrel
      go_wp2_with (go_at_call 16; refine (hal _ t3).mono ?_; rintro e w4 ⟨rfl, b4⟩)
      go_ret
      have z1 := b1.size
      have z2 := b2.size
      exact ⟨rfl, ((b1.trans (b2.mono z1)).alloc (by omega) _).trans (b4.mono (by simp; omega))⟩
  have hz' : (0 : Int) < (s.size : Int) := by omega
  have hMz : ((M : Int) == 0) = false := beq_eq_false_iff_ne.2 (by have := hM0 (by omega); omega)
  clear hM0
  go_enter Tryd.func5, Tryd.ntmps5
  go_wp2_with (first
    | (go_at_call 17; refine h1.mono ?_; clear h1; rintro e w1 ⟨a1, c1, a2, c2, rfl, p1, p2, b1⟩; have P1 := hide p1; have P2 := hide p2; clear p1 p2)
    | (go_at_call 14; refine (h2 _).mono ?_; clear h2; rintro e w2 ⟨rfl, b2⟩))
  clear hMz
  have hA : AtT 23 (w2.alloc (.cells #[.int .i64 0, .int .i64 1, .int .i64 1] 23)) w2.heap.size 0 1 1 := heap_alloc_new w2 _
  have Q1 := hide (P1.out.below b2)
  have Q2 := hide (P2.out.below b2)
  have s1 := b1.size
  have BB := hide (b1.trans (b2.mono s1))
  have t2 := (ht.below b1).below b2
  have hb3 : Below w2.heap.size w2 (w2.alloc (.cells #[.int .i64 0, .int .i64 1, .int .i64 1] 23)) := (Below.refl _ _).alloc (Nat.le_refl _) _
  clear P1 P2 b1 b2 s1
  go_loopw [6, 7, 8] (fun vi _ _ wr => ∃ (i k line col : Nat), vi = .int .i64 (i : Int) ∧ i ≤ M ∧ Hid (GoAt s i k line col) ∧ AtT 23 wr w2.heap.size k line col ∧ Below w2.heap.size w2 wr) (fun v _ _ _ => M - (Lib.intOf v).toNat)
  case atStart => exact ⟨0, 0, 1, 1, rfl, Nat.zero_le _, hg0, hA, hb3⟩
  case round =>
    obtain ⟨i, k, line, col, rfl, hi, HG, hat2, hbel⟩ := hrel
    clear hA hb3
    by_cases hlt : i < M
    · obtain ⟨hk, hget, hnext⟩ := HG.out.get (by omega)
      have hspot := HG.out.spot
      have hl1 := HG.out.line
      have hl2 := HG.out.col
      obtain ⟨g1, rfl, x1, x2, x3⟩ := Q1.out.below hbel i (by omega)
      obtain ⟨g2, rfl, y1⟩ := Q2.out.below hbel i (by omega)
      rw [hget] at x1 x2 x3 y1
      dsimp only at x1 x2 x3 y1
      have hck : clamp s (k : Int) = k := by unfold clamp; omega
      have hat1 := hat (k : Int)
      rw [hck, hspot] at hat1
      dsimp only at hat1
      have hne := drop_ne s k hk
      have hw1 := wd_pos (s.data.toList.drop k)
      have hw2 := wd_room s k hk
      have hex := extract_str s k (k + wd (s.data.toList.drop k))
      rw [Nat.add_sub_cancel_left] at hex
      have henc : 0 ≤ rv (s.data.toList.drop k) → Utf8.encode (rv (s.data.toList.drop k)) = str ((s.data.toList.drop k).take (wd (s.data.toList.drop k))) := fun h => by rw [enc_str _ h, rv_encode _ hne h]
      have hneg : rv (s.data.toList.drop k) < 0 → (str ((s.data.toList.drop k).take (wd (s.data.toList.drop k)))).size = 1 := fun h => by
        rw [str_size, List.length_take, rv_neg_wd _ h, List.length_drop, hlen]
        omega
      have hr1 := rv_lo (s.data.toList.drop k)
      have hr2 := rv_hi (s.data.toList.drop k)
      have hy0 := (Q2.out i (by omega))
      have hEnd : (∃ hlt1 : i + 1 < M, w2.cell? ⟨g1, (i + 1) * 3, none⟩ = some (.int .i64 ((k + wd (s.data.toList.drop k) : Nat) : Int))) ∨ (i + 1 = M ∧ k + wd (s.data.toList.drop k) = s.size) := by
        by_cases h : i + 1 < M
        · left
          refine ⟨h, ?_⟩
          obtain ⟨g, e, z1, _, _⟩ := Q1.out (i + 1) (by omega)
          cases e
          have hg := (hnext.get (by omega)).2.1
          rw [hg] at z1
          exact z1
        · right
          exact ⟨by omega, hnext.done (by omega)⟩
      have HN := hide hnext
      have HEND := hide hEnd
      obtain ⟨g2', eg, y0⟩ := hy0
      cases eg
      rw [hget] at y0
      dsimp only at y0
      clear hnext hget HG hspot hck hat hEnd
      obtain ⟨e, he⟩ : ∃ e, k + wd (s.data.toList.drop k) = e := ⟨_, rfl⟩
      rw [he] at hw2 HN HEND
      have hke : k < e := by omega
      have hex2 : s.extract k e = str ((s.data.toList.drop k).take (wd (s.data.toList.drop k))) := by rw [← he, extract_str, Nat.add_sub_cancel_left]
      clear hw1 he
      generalize str ((s.data.toList.drop k).take (wd (s.data.toList.drop k))) = sx at *
      generalize rv (s.data.toList.drop k) = r at *
      clear hne hex
      obtain ⟨q0, q1, q2, _, _, _⟩ := hat2.cells
      have hany := Wb.any wr
      have x1' := fun q : Wb wr => q.cell x1
      have x2' := fun q : Wb wr => q.cell x2
      have x3' := fun q : Wb wr => q.cell x3
      have q0' := fun q : Wb wr => q.cell q0
      have q1' := fun q : Wb wr => q.cell q1
      have q2' := fun q : Wb wr => q.cell q2
      have hil : (i : Int) < (M : Int) := by omega
      go_wp2
      refine wp_region_below (by kernel_rfl) (by kernel_rfl) ?_
      repeat (go_big_quiet_step ((go_at_call 12; exact Wb.calls _ (hat1 _))))
      refine wpQuiet_nil ?_
      intro qv hw'
      obtain ⟨⟨qx, qb⟩, hqe⟩ := hw'
      have hqe' : qv = qx := hqe
      clear hqe
      subst hqe'
      clear hany x1' x2' x3' q0' q1' q2' q0 q1 q2 hs1 hat1
      have hB := hbel.trans (qb.mono hbel.size)
      have hA1 := hat2.below qb
      have c1 := keepCell x1 qb
      have cy := keepCell y1 qb
      have hss : (sx.toList == sx.toList) = true := by simp
      have hsl : ∀ w', (Instr.slice 9 (.string s) (some (.int .i64 (k : Int))) (some (.int .i64 (e : Int))) none).run Tryd.prog w' = .ok (.string sx) w' := fun w' => by
        rw [run_slice_string _ _ s .i64 .i64 _ _ Tryd.underlying9 (by omega) (by omega) (by omega), Int.toNat_natCast, Int.toNat_natCast, hex2]
      clear hex2
      clear x1 x2 x3 y1 hat2
      have HA1 := hide hA1
      have HBQ := hide hB
      have hcn := fun (a : Addr) (v : Value) (h : w2.cell? a = some v) => keepCell h hB
      clear hA1
      rcases HEND.out with ⟨hi1, xn⟩ | ⟨hi1, hes⟩
      · have cn := hcn _ _ xn
        have hi1' : (i : Int) + 1 < (M : Int) := by omega
        clear HEND xn hcn hB
        by_cases hr0 : 0 ≤ r
        · have hen := henc hr0
          clear henc hneg
          by_cases hr10 : r = 10
          · subst hr10
            go_upto_region 18 with (fail)
            clear cy c1 cn
            have hA1 := HA1.out
            have hB := HBQ.out
            obtain ⟨_, v1, v2, f0, f1, f2⟩ := hA1.cells
            have hA2 := hA1.set0 (e : Int)
            obtain ⟨_, v11, v12, _, f11, f12⟩ := hA2.cells
            have hA3 := hA2.set1 (line : Int)
            obtain ⟨_, _, v22, _, _, f22⟩ := hA3.cells
            have hA4 := hA3.set2 ((col : Int) + 1)
            obtain ⟨v30, v31, v32, f30, f31, f32⟩ := hA4.cells
            have hB4 := below_set (below_set (below_set hB w2.heap.size 0 (.int .i64 (e : Int)) (Nat.le_refl _)) w2.heap.size 1 (.int .i64 (line : Int)) (Nat.le_refl _)) w2.heap.size 2 (.int .i64 ((col : Int) + 1)) (Nat.le_refl _)
            have cy4 := keepCell y0 hB4
            obtain ⟨v00, _, _, _, _, _⟩ := hA1.cells
            obtain ⟨v10, _, _, _, _, _⟩ := hA2.cells
            obtain ⟨v20, v21, _, _, _, _⟩ := hA3.cells
            have hA5 := hA4.set0 (e : Int)
            obtain ⟨v40, v41, v42, _, f41, f42⟩ := hA5.cells
            have hA6 := hA5.set1 ((line : Int) + 1)
            obtain ⟨v50, v51, v52, _, _, f52⟩ := hA6.cells
            have hA7 := hA6.set2 1
            have HA7 := hide hA7
            clear hA5 hA6 hA7
            have HA4 := hide hA4
            have HB4 := hide hB4
            clear hA1 hA2 hA3 hA4 hB4 hB
            go_wp2
            go_roundw
            case rel => exact ⟨i + 1, e, bLine line 10, bCol col 10, by simp, by omega, HN, HA7.out, below_set (below_set (below_set HB4.out _ _ _ (Nat.le_refl _)) _ _ _ (Nat.le_refl _)) _ _ _ (Nat.le_refl _)⟩
            case measure =>
              simp [Lib.intOf]
              omega
          · have hr10' : (r == 10) = false := beq_eq_false_iff_ne.2 hr10
            have e1 : bLine line r = line := by unfold bLine; rw [if_neg hr10]
            have e2 : bCol col r = col + 1 := by unfold bCol; rw [if_neg hr10]
            rw [e1, e2] at HN
            clear e1 e2
            go_upto_region 18 with (fail)
            clear cy c1 cn
            have hA1 := HA1.out
            have hB := HBQ.out
            obtain ⟨_, v1, v2, f0, f1, f2⟩ := hA1.cells
            have hA2 := hA1.set0 (e : Int)
            obtain ⟨_, v11, v12, _, f11, f12⟩ := hA2.cells
            have hA3 := hA2.set1 (line : Int)
            obtain ⟨_, _, v22, _, _, f22⟩ := hA3.cells
            have hA4 := hA3.set2 ((col : Int) + 1)
            obtain ⟨v30, v31, v32, f30, f31, f32⟩ := hA4.cells
            have hB4 := below_set (below_set (below_set hB w2.heap.size 0 (.int .i64 (e : Int)) (Nat.le_refl _)) w2.heap.size 1 (.int .i64 (line : Int)) (Nat.le_refl _)) w2.heap.size 2 (.int .i64 ((col : Int) + 1)) (Nat.le_refl _)
            have cy4 := keepCell y0 hB4
            obtain ⟨v00, _, _, _, _, _⟩ := hA1.cells
            obtain ⟨v10, _, _, _, _, _⟩ := hA2.cells
            obtain ⟨v20, v21, _, _, _, _⟩ := hA3.cells
            have HA4 := hide hA4
            have HB4 := hide hB4
            clear hA1 hA2 hA3 hA4 hB4 hB
            go_wp2
            go_roundw
            case rel => exact ⟨i + 1, e, line, col + 1, by simp, by omega, HN, HA4.out, HB4.out⟩
            case measure =>
              simp [Lib.intOf]
              omega
        · have hsz := hneg (by omega)
          have hr10 : r ≠ 10 := by omega
          have hr10' : (r == 10) = false := beq_eq_false_iff_ne.2 hr10
          have hrn : r < 0 := by omega
          have hsz' : (sx.size : Int) = 1 := by omega
          have e1 : bLine line r = line := by unfold bLine; rw [if_neg hr10]
          have e2 : bCol col r = col + 1 := by unfold bCol; rw [if_neg hr10]
          rw [e1, e2] at HN
          clear henc hneg e1 e2
          go_upto_region 18 with (fail)
          clear cy c1 cn
          have hA1 := HA1.out
          have hB := HBQ.out
          obtain ⟨_, v1, v2, f0, f1, f2⟩ := hA1.cells
          have hA2 := hA1.set0 (e : Int)
          obtain ⟨_, v11, v12, _, f11, f12⟩ := hA2.cells
          have hA3 := hA2.set1 (line : Int)
          obtain ⟨_, _, v22, _, _, f22⟩ := hA3.cells
          have hA4 := hA3.set2 ((col : Int) + 1)
          obtain ⟨v30, v31, v32, f30, f31, f32⟩ := hA4.cells
          have hB4 := below_set (below_set (below_set hB w2.heap.size 0 (.int .i64 (e : Int)) (Nat.le_refl _)) w2.heap.size 1 (.int .i64 (line : Int)) (Nat.le_refl _)) w2.heap.size 2 (.int .i64 ((col : Int) + 1)) (Nat.le_refl _)
          have cy4 := keepCell y0 hB4
          obtain ⟨v00, _, _, _, _, _⟩ := hA1.cells
          obtain ⟨v10, _, _, _, _, _⟩ := hA2.cells
          obtain ⟨v20, v21, _, _, _, _⟩ := hA3.cells
          have HA4 := hide hA4
          have HB4 := hide hB4
          clear hA1 hA2 hA3 hA4 hB4 hB
          go_wp2
          go_roundw
          case rel => exact ⟨i + 1, e, line, col + 1, by simp, by omega, HN, HA4.out, HB4.out⟩
          case measure =>
            simp [Lib.intOf]
            omega
      · have hi1' : ¬ (i : Int) + 1 < (M : Int) := by omega
        subst hes
        clear HEND hcn hB
        by_cases hr0 : 0 ≤ r
        · have hen := henc hr0
          clear henc hneg
          by_cases hr10 : r = 10
          · subst hr10
            go_upto_region 18 with (fail)
            clear cy c1
            have hA1 := HA1.out
            have hB := HBQ.out
            obtain ⟨_, v1, v2, f0, f1, f2⟩ := hA1.cells
            have hA2 := hA1.set0 (s.size : Int)
            obtain ⟨_, v11, v12, _, f11, f12⟩ := hA2.cells
            have hA3 := hA2.set1 (line : Int)
            obtain ⟨_, _, v22, _, _, f22⟩ := hA3.cells
            have hA4 := hA3.set2 ((col : Int) + 1)
            obtain ⟨v30, v31, v32, f30, f31, f32⟩ := hA4.cells
            have hB4 := below_set (below_set (below_set hB w2.heap.size 0 (.int .i64 (s.size : Int)) (Nat.le_refl _)) w2.heap.size 1 (.int .i64 (line : Int)) (Nat.le_refl _)) w2.heap.size 2 (.int .i64 ((col : Int) + 1)) (Nat.le_refl _)
            have cy4 := keepCell y0 hB4
            obtain ⟨v00, _, _, _, _, _⟩ := hA1.cells
            obtain ⟨v10, _, _, _, _, _⟩ := hA2.cells
            obtain ⟨v20, v21, _, _, _, _⟩ := hA3.cells
            have hA5 := hA4.set0 (s.size : Int)
            obtain ⟨v40, v41, v42, _, f41, f42⟩ := hA5.cells
            have hA6 := hA5.set1 ((line : Int) + 1)
            obtain ⟨v50, v51, v52, _, _, f52⟩ := hA6.cells
            have hA7 := hA6.set2 1
            have HA7 := hide hA7
            clear hA5 hA6 hA7
            have HA4 := hide hA4
            have HB4 := hide hB4
            clear hA1 hA2 hA3 hA4 hB4 hB
            go_wp2
            go_roundw
            case rel => exact ⟨i + 1, s.size, bLine line 10, bCol col 10, by simp, by omega, HN, HA7.out, below_set (below_set (below_set HB4.out _ _ _ (Nat.le_refl _)) _ _ _ (Nat.le_refl _)) _ _ _ (Nat.le_refl _)⟩
            case measure =>
              simp [Lib.intOf]
              omega
          · have hr10' : (r == 10) = false := beq_eq_false_iff_ne.2 hr10
            have e1 : bLine line r = line := by unfold bLine; rw [if_neg hr10]
            have e2 : bCol col r = col + 1 := by unfold bCol; rw [if_neg hr10]
            rw [e1, e2] at HN
            clear e1 e2
            go_upto_region 18 with (fail)
            clear cy c1
            have hA1 := HA1.out
            have hB := HBQ.out
            obtain ⟨_, v1, v2, f0, f1, f2⟩ := hA1.cells
            have hA2 := hA1.set0 (s.size : Int)
            obtain ⟨_, v11, v12, _, f11, f12⟩ := hA2.cells
            have hA3 := hA2.set1 (line : Int)
            obtain ⟨_, _, v22, _, _, f22⟩ := hA3.cells
            have hA4 := hA3.set2 ((col : Int) + 1)
            obtain ⟨v30, v31, v32, f30, f31, f32⟩ := hA4.cells
            have hB4 := below_set (below_set (below_set hB w2.heap.size 0 (.int .i64 (s.size : Int)) (Nat.le_refl _)) w2.heap.size 1 (.int .i64 (line : Int)) (Nat.le_refl _)) w2.heap.size 2 (.int .i64 ((col : Int) + 1)) (Nat.le_refl _)
            have cy4 := keepCell y0 hB4
            obtain ⟨v00, _, _, _, _, _⟩ := hA1.cells
            obtain ⟨v10, _, _, _, _, _⟩ := hA2.cells
            obtain ⟨v20, v21, _, _, _, _⟩ := hA3.cells
            have HA4 := hide hA4
            have HB4 := hide hB4
            clear hA1 hA2 hA3 hA4 hB4 hB
            go_wp2
            go_roundw
            case rel => exact ⟨i + 1, s.size, line, col + 1, by simp, by omega, HN, HA4.out, HB4.out⟩
            case measure =>
              simp [Lib.intOf]
              omega
        · have hsz := hneg (by omega)
          have hr10 : r ≠ 10 := by omega
          have hr10' : (r == 10) = false := beq_eq_false_iff_ne.2 hr10
          have hrn : r < 0 := by omega
          have hsz' : (sx.size : Int) = 1 := by omega
          have e1 : bLine line r = line := by unfold bLine; rw [if_neg hr10]
          have e2 : bCol col r = col + 1 := by unfold bCol; rw [if_neg hr10]
          rw [e1, e2] at HN
          clear henc hneg e1 e2
          go_upto_region 18 with (fail)
          clear cy c1
          have hA1 := HA1.out
          have hB := HBQ.out
          obtain ⟨_, v1, v2, f0, f1, f2⟩ := hA1.cells
          have hA2 := hA1.set0 (s.size : Int)
          obtain ⟨_, v11, v12, _, f11, f12⟩ := hA2.cells
          have hA3 := hA2.set1 (line : Int)
          obtain ⟨_, _, v22, _, _, f22⟩ := hA3.cells
          have hA4 := hA3.set2 ((col : Int) + 1)
          obtain ⟨v30, v31, v32, f30, f31, f32⟩ := hA4.cells
          have hB4 := below_set (below_set (below_set hB w2.heap.size 0 (.int .i64 (s.size : Int)) (Nat.le_refl _)) w2.heap.size 1 (.int .i64 (line : Int)) (Nat.le_refl _)) w2.heap.size 2 (.int .i64 ((col : Int) + 1)) (Nat.le_refl _)
          have cy4 := keepCell y0 hB4
          obtain ⟨v00, _, _, _, _, _⟩ := hA1.cells
          obtain ⟨v10, _, _, _, _, _⟩ := hA2.cells
          obtain ⟨v20, v21, _, _, _, _⟩ := hA3.cells
          have HA4 := hide hA4
          have HB4 := hide hB4
          clear hA1 hA2 hA3 hA4 hB4 hB
          go_wp2
          go_roundw
          case rel => exact ⟨i + 1, s.size, line, col + 1, by simp, by omega, HN, HA4.out, HB4.out⟩
          case measure =>
            simp [Lib.intOf]
            omega
    · have hke := HG.out.done (by omega)
      subst hke
      obtain ⟨q0, _, _, _, _, _⟩ := hat2.cells
      have hqq : ((s.size : Int) == (s.size : Int)) = true := by simp
      go_wp2_with (go_at_call 16; refine (hal _ (t2.below hbel)).mono ?_; rintro e w4 ⟨rfl, b4⟩)
      go_ret
      have s2 := BB.out.size
      have s3 := hbel.size
      exact ⟨rfl, (BB.out.trans (hbel.mono s2)).trans (b4.mono (by omega))⟩
end Go.Proofs.YtpbebcefnkbnlaaDoor
