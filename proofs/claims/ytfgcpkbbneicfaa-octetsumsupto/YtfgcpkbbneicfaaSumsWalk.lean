/- OctetSums answers true, where what it is given is small. -/
import Derived.Test.YtfgcpkbbneicfaaSums
namespace Go.Proofs.Ytfgcpkbbneicfaa
open Go.RowKit

theorem ownsRow_shape {w : World} {base n : Nat} {e : TypeId} {v : Value} {xs : List Value} (h : w.ownsRow base e 1 v n xs) : ∃ a c, v = .slice a n c := by
  rcases h.2 with ⟨rfl, rfl⟩ | ⟨g, cap, cur, rfl, _⟩
  · exact ⟨none, 0, rfl⟩
  · exact ⟨_, _, rfl⟩

theorem ownsRow_base {w : World} {base base' n : Nat} {e : TypeId} {v : Value} {xs : List Value} (h : w.ownsRow base e 1 v n xs) (hb : base' ≤ base) : w.ownsRow base' e 1 v n xs := by
  refine ⟨h.1, ?_⟩
  rcases h.2 with h | ⟨g, cap, cur, hv, hbb, rest⟩
  · exact .inl h
  · exact .inr ⟨g, cap, cur, hv, by omega, rest⟩

theorem own_not {w : World} {B n g : Nat} {u : Value} {xs : List Value} (h : w.ownsRow B 5 1 u n xs) (hg : w.heap.size ≤ g) : u.ownBlock ≠ some g := fun e => by
  have := (h.lt g e).2
  omega

theorem own_later {w w1 : World} {B n : Nat} {e : TypeId} {v : Value} {xs : List Value} (h : w.ownsRow B e 1 v n xs) (hb : Below w.heap.size w w1) : w1.ownsRow B e 1 v n xs :=
  h.kept (row := none) ⟨hb.os, hb.tape, hb.output, hb.size, fun k hk _ => hb.block k hk⟩ (by cases v.ownBlock <;> simp)

/-- The first k parts, one behind the other. -/
def fl (ls : List (List UInt8)) (k : Nat) : List UInt8 := (ls.take k).flatten
theorem fl_zero (ls : List (List UInt8)) : fl ls 0 = [] := rfl
theorem fl_all (ls : List (List UInt8)) (k : Nat) (h : ls.length ≤ k) : fl ls k = ls.flatten := by unfold fl; rw [List.take_of_length_le h]
theorem fl_succ (ls : List (List UInt8)) (k : Nat) (h : k < ls.length) : fl ls (k + 1) = fl ls k ++ ls[k] := by
  unfold fl
  rw [List.take_succ_eq_append_getElem h, List.flatten_append]
  simp
theorem fl_le (ls : List (List UInt8)) (k : Nat) : (fl ls k).length ≤ ls.flatten.length := by
  have := congrArg List.length (congrArg List.flatten (List.take_append_drop k ls))
  rw [List.flatten_append, List.length_append] at this
  unfold fl
  omega

/-- The parts that came in. -/
def Parts (w : World) (pa : Option Addr) (ls : List (List UInt8)) : Prop :=
  ∀ i (h : i < ls.length), ∃ b off a c, pa = some ⟨b, off, none⟩ ∧ w.cell? ⟨b, off + i, none⟩ = some (.slice a ls[i].length c) ∧ Bytes w (.slice a ls[i].length c) ls[i]

theorem crc_rowed {B : Nat} {w : World} {u : Value} {f : List UInt8} {av : Option Addr} {cv : Nat} {ls : List (List UInt8)} (h : Rowed B w u f (.slice av ls.length cv) ls) (hl : ls.length ≤ 1048576) (hs : ∀ i (h : i < ls.length), ls[i].length ≤ 1048576) :
    Calls Try.prog 33 #[.slice av ls.length cv] w fun e w' => e = .returned (.int .u32 (crc ls.flatten).toNat) ∧ w = w' := by
  obtain ⟨h1, vs, h2, h3, h4⟩ := h
  rcases h3.2 with ⟨hv, h0⟩ | ⟨g, cap, cur, hv, _⟩
  · have e : ls = [] := List.eq_nil_of_length_eq_zero h0
    subst e
    simp only [List.length_nil, Value.slice.injEq, true_and] at hv
    obtain ⟨rfl, rfl⟩ := hv
    show Calls Try.prog 33 #[.slice none 0 0] w fun e w' => e = .returned (.int .u32 (crc []).toNat) ∧ w = w'
    go_enter Try.func33, Try.ntmps33
    go_wp2
    go_loop [3, 10] (fun t i => i = .int .i64 0 ∧ t = .int .u32 4294967295) (fun _ i => 0)
    case atStart => exact ⟨rfl, rfl⟩
    case round =>
      obtain ⟨rfl, rfl⟩ := hrel
      go_wp2
      go_ret
      exact ⟨ret_int (not_walk 0xFFFFFFFF#32), rfl⟩
  · simp only [Value.slice.injEq, true_and] at hv
    obtain ⟨rfl, rfl⟩ := hv
    refine (crc_some g 0 cv ls w (by unfold maxLen; omega) (fun i hi => by have := hs i hi; unfold maxLen; omega) (fun i hi => ?_)).mono fun _ _ h => ⟨h.1, h.2.symm⟩
    obtain ⟨g', cap', h5, h6, _⟩ := h4 i hi
    refine ⟨_, ?_, (ownsRow_bytes h6).2.plain⟩
    have := h3.cells (g := g) rfl i _ h5
    rw [Addr.add_lit] at this
    exact this

theorem rowed_cell {B : Nat} {w : World} {u : Value} {f : List UInt8} {av : Option Addr} {cv : Nat} {ls : List (List UInt8)} (h : Rowed B w u f (.slice av ls.length cv) ls) (k : Nat) (hk : k < ls.length) :
    ∃ gv g cap, av = some ⟨gv, 0, none⟩ ∧ w.cell? ⟨gv, k, none⟩ = some (.slice (some ⟨g, 0, none⟩) ls[k].length cap) ∧ Bytes w (.slice (some ⟨g, 0, none⟩) ls[k].length cap) ls[k] := by
  obtain ⟨h1, vs, h2, h3, h4⟩ := h
  obtain ⟨g, cap, h5, h6, _⟩ := h4 k hk
  rcases id h3.2 with ⟨hv, h0⟩ | ⟨gv, cap', cur, hv, _⟩
  · omega
  · simp only [Value.slice.injEq, true_and] at hv
    obtain ⟨rfl, rfl⟩ := hv
    refine ⟨gv, g, cap, rfl, ?_, (ownsRow_bytes h6).2.plain⟩
    have := h3.cells (g := gv) rfl k _ h5
    rw [Addr.add_lit, Nat.zero_add] at this
    exact this

theorem seal_at (w : World) (a : Option Addr) (c : Nat) (l : List UInt8) (hb : Bytes w (.slice a l.length c) l) (hl : l.length ≤ 1048576) :
    Calls Try.prog 32 #[.slice a l.length c] w fun e w' => ∃ v, e = .returned v ∧ Bytes w' v (sealed l) ∧ Below w.heap.size w w' :=
  (seal_any w a c l hb (by omega)).mono fun _ _ ⟨v, h1, h2, h3⟩ => ⟨v, h1, (ownsRow_bytes h2).2.plain, h3⟩

theorem open_at (w0 w : World) (a : Option Addr) (c : Nat) (l : List UInt8) (hb : BytesIn w0 0 w0.heap.size (.slice a l.length c) l) (hbel : Below w0.heap.size w0 w) (hl : l.length ≤ 1048576) :
    Calls Try.prog 31 #[.slice a l.length c] w fun e w' => ∃ a' c', e = .returned (.tuple #[.slice a' (openData l).length c', .int .i64 (openErr l)]) ∧ Bytes w' (.slice a' (openData l).length c') (openData l) ∧ Below w.heap.size w w' :=
  (open_any w a c l (hb.mono (fun b o _ hb' => World.cell?_of_block (w := w0) (hbel.block b hb')) (Nat.le_refl _) hbel.size) (by omega)).mono fun _ _ ⟨a', c', h1, h2, h3⟩ => ⟨a', c', h1, h2.plain, h3⟩
theorem refOpen_at (w0 w : World) (a : Option Addr) (c : Nat) (l : List UInt8) (hb : BytesIn w0 0 w0.heap.size (.slice a l.length c) l) (hbel : Below w0.heap.size w0 w) (hl : l.length ≤ 1048576) :
    Calls Try.prog 34 #[.slice a l.length c] w fun e w' => ∃ a' c', e = .returned (.tuple #[.slice a' (openData l).length c', .int .i64 (openErr l)]) ∧ Bytes w' (.slice a' (openData l).length c') (openData l) ∧ Below w.heap.size w w' :=
  refOpen_any w a c l (hb.mono (fun b o _ hb' => World.cell?_of_block (w := w0) (hbel.block b hb')) (Nat.le_refl _) hbel.size) (by omega)

theorem cat {a b c : World} (h : Below a.heap.size a b) (k : Below b.heap.size b c) : Below a.heap.size a c := h.trans (k.mono h.size)

set_option maxRecDepth 100000 in
set_option maxHeartbeats 4000000 in
theorem sums_walk (pa : Option Addr) (pc : Nat) (ls : List (List UInt8)) (a : Option Addr) (c : Nat) (L : List UInt8) (w : World) (hp : Parts w pa ls) (hb : BytesIn w 0 w.heap.size (.slice a L.length c) L)
    (hn : ls.length ≤ 1048576) (hf : ls.flatten.length ≤ 1048576) (hL : L.length ≤ 1048576) :
    Calls Try.prog 7 #[.slice pa ls.length pc, .slice a L.length c] w fun e w' => e = .returned (.bool true) ∧ Below w.heap.size w w' := by
  obtain ⟨i1, hi1, hy0, hy1, hy2⟩ := info_parts info_row
  have HP := hide hp
  have HB := hide hb
  have HF := hide hf
  have HL := hide hL
  have hone : ∀ i (h : i < ls.length), ls[i].length ≤ 1048576 := fun i h => by
    have h1 := fl_le ls (i + 1)
    rw [fl_succ ls i h, List.length_append] at h1
    omega
  have HONE := hide hone
  clear hp hb hf hL hone
  go_enter Try.func7, Try.ntmps7
  go_wp2
  go_loopw [5, 6, 7] (fun u v t wr => ∃ (k : Nat) (au : Option Addr) (cu : Nat) (av : Option Addr) (cv : Nat), k ≤ ls.length ∧ t = .int .i64 k ∧ u = .slice au (fl ls k).length cu ∧ v = .slice av k cv ∧
      Rowed w.heap.size wr (.slice au (fl ls k).length cu) (fl ls k) (.slice av k cv) (ls.take k) ∧ Below w.heap.size w wr) (fun _ _ t _ => ls.length - (intOf t).toNat)
  case atStart => exact ⟨0, none, 0, none, 0, Nat.zero_le _, rfl, rfl, rfl, ⟨World.ownsRow_nil _ _ _ _, [], rfl, World.ownsRow_nil _ _ _ _, fun i hi => by simp at hi⟩, Below.refl _ _⟩
  case round =>
    obtain ⟨k, au, cu, av, cv, hk, rfl, rfl, rfl, hrow, hbel⟩ := hrel
    by_cases hlt : k < ls.length
    · obtain ⟨b, off, ap, cp, rfl, hcell, hby⟩ := HP.out k hlt
      have hlk : (ls.take k).length = k := by rw [List.length_take]; omega
      have hf1 := fl_le ls (k + 1)
      have hf0 := HF.out
      have hstep := fl_succ ls k hlt
      have htk : ls.take (k + 1) = ls.take k ++ [ls[k]] := List.take_succ_eq_append_getElem hlt
      rw [hstep, List.length_append] at hf1
      obtain ⟨u', w2, hr, A1, A2, A3⟩ := run_append_bytes_at wr w.heap.size 23 _ _ _ hrow.1 (.slice ap ls[k].length cp) ls[k] (hby.later hbel) (by omega) hbel.size
      rw [← cellsOf_app, ← List.length_append, ← hstep] at A1
      have hrow2 : Rowed w.heap.size w2 u' (fl ls (k + 1)) (.slice av k cv) (ls.take k) := hrow.flat A2 A1 A3
      have hbel2 : Below w.heap.size w w2 := hbel.grown A2 hbel.size (fun k' hk' => (hrow.1.lt k' hk').1)
      have hc0 := cell_later hbel hcell
      have hc2 := cell_later hbel2 hcell
      obtain ⟨au', cu', eu⟩ := ownsRow_shape A1
      subst eu
      obtain ⟨_, vs, hvl, hvs, _⟩ := id hrow2
      rw [hlk] at hvs
      have HR := hide hr
      have HROW2 := hide hrow2
      have HBEL2 := hide hbel2
      have HBY := hide hby
      have HTK := hide htk
      have HLK := hide hlk
      have HVS := hide hvs
      have HA1 := hide A1
      have hlen := HONE.out k hlt
      clear A1 A2 A3 hr hrow hrow2 hbel hbel2 hcell hby hstep htk hlk hf1 hvs hvl
      generalize ls[k] = lk at *
      go_wp2_with (first | (at_builtin; refine Lib.wpList_append_run _ rfl (.tmp 21) (.tmp 25) 23 23 rfl _ _ rfl rfl _ _ HR.out ?_) | (go_at_call 19; refine (copy_any _ _ lk (HBY.out.later HBEL2.out) (by omega)).mono ?_; rintro e w3 ⟨g3, c3, rfl, A1, A2⟩; have B1 := hide A1; have B2 := hide A2; have hv3 := own_later HVS.out A2; clear A1 A2) | (at_builtin; refine wpList_append_own _ rfl (.tmp 27) (.tmp 33) 29 rfl w.heap.size 23 i1 (.slice none 0 0) 1 24 Try.underlying29 hi1 hy0 hy1 hy2 rfl (by decide) _ _ _ rfl (hv3.alloc _) ⟨w3.heap.size, 0, none⟩ 1 1 [.slice (some ⟨g3, 0, none⟩) lk.length c3] rfl rfl ?c1 ?c2 ?c3 ?c4 ?c5 ?_))
      case c1 =>
        intro j u hu
        match j, hu with
        | 0, hu =>
          simp at hu
          subst hu
          rw [Addr.add_lit, World.cell?_alloc_new]
          rfl
      case c2 => intro u hu; simp at hu; subst hu; rfl
      case c3 => unfold maxLen; omega
      case c4 => omega
      case c5 =>
        have h1 := HBEL2.out.size
        have h2 := B2.out.size
        simp
        omega
      · intro v' w5 hown hgrow _
        obtain ⟨av', cv', ev⟩ := ownsRow_shape hown
        have hs2 := HBEL2.out.size
        have hs3 := B2.out.size
        have hal : Below w3.heap.size w3 (w3.alloc (.cells #[.slice (some ⟨g3, 0, none⟩) lk.length c3] 23)) := (Below.refl _ _).alloc (Nat.le_refl _) _
        have R : Hid (v' = .slice av' (k + 1) cv' ∧ Rowed w.heap.size w5 (.slice au' (fl ls (k + 1)).length cu') (fl ls (k + 1)) v' (ls.take (k + 1)) ∧ Below w.heap.size w w5) := by
          refine ⟨ev, ?_, ?_⟩
          · rw [HTK.out]
            refine Rowed.more (vs := vs) ((HROW2.out.later B2.out).later hal) ?_ (own_later (ownsRow_base B1.out hs2) hal) (own_not HA1.out (B1.out.lt g3 rfl).1) hgrow ?_
            · rw [HLK.out]; exact hv3.alloc _
            · rw [HLK.out]; exact hown
          · exact ((HBEL2.out.trans (B2.out.mono hs2)).alloc (by omega) _).grown hgrow (by simp; omega) (fun k' hk' => (HVS.out.lt k' hk').1)
        clear hown hgrow hv3 hs2 hs3 hal ev
        go_wp2
        go_roundw
        case rel => exact ⟨k + 1, au', cu', av', cv', by omega, by go_num, rfl, R.out.1, by rw [← R.out.1]; exact R.out.2.1, R.out.2.2⟩
        case measure => simp [intOf]; omega
    · have e1 : k = ls.length := by omega
      subst e1
      have e2 : ls.take ls.length = ls := List.take_length
      have e3 := fl_all ls ls.length (Nat.le_refl _)
      rw [e2, e3] at hrow
      rw [e3]
      have HROW := hide hrow
      have HBEL := hide hbel
      clear hrow hbel e2 e3
      generalize hfl : ls.flatten = F at *
      have HFL := hide hfl
      clear hfl
      go_wp2_with (go_at_call 33; refine (crc_rowed HROW.out hn HONE.out).mono ?_; rintro e w6 ⟨rfl, rfl⟩; rw [HFL.out])
      have HFLAT := hide (ownsRow_bytes HROW.out.1).2.plain
      go_loopw [9] (fun t wx => ∃ k nd : Nat, k ≤ ls.length ∧ t = .int .i64 k ∧ wx = wr.drewN nd) (fun t _ => ls.length - (intOf t).toNat)
      case atStart => exact ⟨0, 0, Nat.zero_le _, rfl, rfl⟩
      case round =>
        obtain ⟨k, nd, hk', rfl, rfl⟩ := hrel
        by_cases hlt' : k < ls.length
        · obtain ⟨gv, g, cap, rfl, hc1, hby1⟩ := rowed_cell HROW.out k hlt'
          obtain ⟨b, off, ap, cp, rfl, hcell, hby⟩ := HP.out k hlt'
          have hc2 := cell_later HBEL.out hcell
          have HY1 := hide hby1
          have HY2 := hide (hby.later HBEL.out)
          clear hcell hby hby1 HROW HP HONE
          generalize ls[k] = lk at *
          go_wp2_with fail
          go_quiet ((go_at_call 12; refine (same_yes _ _ _ lk lk ?_ ?_ rfl).mono (fun _ _ h => ⟨h.1, _, h.2⟩); exact HY1.out.later (below_drewN _ _ _); exact HY2.out.later (below_drewN _ _ _)))
          go_wp2
          go_roundw
          case rel => exact ⟨k + 1, _, by omega, by go_num, rfl⟩
          case measure => simp [intOf]; omega
        · have HB0 := hide (cat HBEL.out (below_drewN _ _ nd))
          have HF0 := hide (HFLAT.out.later (below_drewN _ _ nd))
          clear HROW HBEL HFLAT
          generalize World.drewN _ nd = w7 at *
          clear HP HONE
          go_wp2_with (first | (go_at_call 32; refine (seal_at _ _ _ F HF0.out HF.out).mono ?_; rintro e w8 ⟨v8, rfl, A1, A2⟩; have S8 := hide A1; have B8 := hide A2; clear A1 A2) | (go_at_call 31; refine (open_at w _ _ _ L HB.out (cat HB0.out B8.out) HL.out).mono ?_; rintro e w9 ⟨a9, c9, rfl, A1, A2⟩; have S9 := hide A1; have B9 := hide A2; clear A1 A2) | (go_at_call 34; refine (refOpen_at w _ _ _ L HB.out (cat (cat HB0.out B8.out) B9.out) HL.out).mono ?_; rintro e w10 ⟨a10, c10, rfl, A1, A2⟩; have S10 := hide A1; have B10 := hide A2; clear A1 A2) | (go_at_call 35; refine (refCrc_same _ _ _ F (HF0.out.later (cat (cat B8.out B9.out) B10.out)) (by have := HF.out; unfold maxLen; omega)).mono ?_; rintro e w11 ⟨rfl, rfl⟩) | (go_at_call 36; refine (refSeal_any _ _ _ F (HF0.out.later (cat (cat B8.out B9.out) B10.out)) (by have := HF.out; omega)).mono ?_; rintro e w12 ⟨v12, rfl, A1, A2⟩; have S12 := hide (ownsRow_bytes A1).2.plain; have B12 := hide A2; clear A1 A2) | (go_at_call 12; refine (same_yes _ _ _ (openData L) _ (S9.out.later (cat B10.out B12.out)) (S10.out.later B12.out) rfl).mono ?_; rintro e w13 ⟨rfl, rfl⟩) | (go_at_call 12; refine (same_yes _ _ _ (sealed F) _ (S8.out.later (cat (cat B9.out B10.out) B12.out)) S12.out rfl).mono ?_; rintro e w13 ⟨rfl, rfl⟩) | (go_at_call 17; refine (heads_any _).mono ?_; rintro e w14 ⟨rfl, A1⟩; have B14 := hide A1; clear A1))
          go_ret
          exact ⟨rfl, cat (cat (cat (cat (cat HB0.out B8.out) B9.out) B10.out) B12.out) B14.out⟩
end Go.Proofs.Ytfgcpkbbneicfaa
