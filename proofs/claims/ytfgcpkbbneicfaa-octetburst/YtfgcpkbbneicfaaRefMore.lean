/- The document's own reader: numbers with a sign, texts; and a copy of bytes. -/
import Derived.Test.YtfgcpkbbneicfaaRefReader
namespace Go.Proofs.Ytfgcpkbbneicfaa
open Go.RowKit

theorem unz_odd (u : Nat) (h : u % 2 = 1) : -((u / 2 : Nat) : Int) - 1 = unz u := by unfold unz; rw [if_neg (by omega)]
theorem unz_even (u : Nat) (h : u % 2 = 0) : ((u / 2 : Nat) : Int) = unz u := by unfold unz; rw [if_pos h]

set_option maxRecDepth 100000 in
set_option maxHeartbeats 1000000 in
theorem fVarint (w : World) (pb lo : Nat) (L : List UInt8) (at_ : Nat) (h : Rf w pb lo L at_) :
    Calls Try.prog 25 #[.pointer (some ⟨pb, 0, none⟩)] w fun e w' =>
      e = .returned (.tuple #[.int .i64 (unz (front (L.drop at_)).1), .int .i64 (front (L.drop at_)).2.2]) ∧ Rf w' pb lo L (at_ + (front (L.drop at_)).2.1) ∧ w.grownBy w' (some pb) := by
  have HR := hide h
  clear h
  have hlt := front_lt (L.drop at_)
  by_cases hodd : (front (L.drop at_)).1 % 2 = 1
  · have HU := hide (unz_odd _ hodd)
    go_enter Try.func25, Try.ntmps25
    go_wp2_with (go_at_call 23; refine (fUvarint _ _ _ _ _ HR.out).mono ?_; rintro e w1 ⟨rfl, A1, A2⟩; have B1 := hide A1; have B2 := hide A2; clear A1 A2)
    go_ret2
    exact ⟨ret_two (by rw [← HU.out]; omega) rfl, B1.out, B2.out⟩
  · have hev : (front (L.drop at_)).1 % 2 = 0 := by omega
    have HU := hide (unz_even _ hev)
    go_enter Try.func25, Try.ntmps25
    go_wp2_with (go_at_call 23; refine (fUvarint _ _ _ _ _ HR.out).mono ?_; rintro e w1 ⟨rfl, A1, A2⟩; have B1 := hide A1; have B2 := hide A2; clear A1 A2)
    go_ret2
    exact ⟨ret_two (by rw [← HU.out]; omega) rfl, B1.out, B2.out⟩

/-- How many bytes a text takes. -/
def textSize (l : List UInt8) : Nat :=
  if (front l).2.2 = 0 ∧ (front l).1 ≤ l.length - (front l).2.1 then (front l).2.1 + (front l).1 else 0

theorem slice_mid (w : World) (a : Option Addr) (c : Nat) {lo hi : Nat} {l : List UInt8} (h : BytesIn w lo hi (.slice a l.length c) l) (i j : Nat) (hij : i ≤ j) (hj : j ≤ l.length) :
    ∃ a' c', (∀ w' : World, (Instr.slice 23 (.slice a l.length c) (some (.int .i64 i)) (some (.int .i64 j)) none).run Try.prog w' = .ok (.slice a' (j - i) c') w') ∧
      BytesIn w lo hi (.slice a' (j - i) c') ((l.drop i).take (j - i)) := by
  obtain ⟨a', c', e, h1, h2, h3⟩ := id h
  simp only [Value.slice.injEq, true_and] at e
  obtain ⟨rfl, rfl⟩ := e
  have hd := h.drop (n := i) (by omega)
  simp only [sliced] at hd
  rw [← List.length_drop] at hd
  refine ⟨_, _, fun w' => ?_, hd.take (n := j - i) (by rw [List.length_drop]; omega)⟩
  rw [run_slice_lh (P := Try.prog) w' 23 a l.length c Try.underlying23 .i64 .i64 i j (by omega) (by omega) (by omega)]
  rfl

set_option maxRecDepth 100000 in
set_option maxHeartbeats 2000000 in
theorem fText (w : World) (pb lo : Nat) (L : List UInt8) (at_ : Nat) (h : Rf w pb lo L at_) :
    Calls Try.prog 27 #[.pointer (some ⟨pb, 0, none⟩)] w fun e w' =>
      e = .returned (.tuple #[.string (bytesOf (textOf (L.drop at_))), .int .i64 (textErr (L.drop at_))]) ∧ Rf w' pb lo L (at_ + textSize (L.drop at_)) ∧ w.grownBy w' (some pb) := by
  have HR := hide h
  obtain ⟨h0, h2, h1, v, h3, h4⟩ := h
  clear h2 h3 h4
  have hfit := front_fits (L.drop at_)
  have hno := front_no (L.drop at_)
  have HE : Hid ((front (L.drop at_)).2.2 ≠ 0 → (front (L.drop at_)).1 = 0 ∧ (front (L.drop at_)).2.1 = 0) := front_err (L.drop at_) 0 0
  have hlt := front_lt (L.drop at_)
  have hdl : (L.drop at_).length = L.length - at_ := List.length_drop
  by_cases he : (front (L.drop at_)).2.2 = 0
  · by_cases hs : (front (L.drop at_)).1 ≤ (L.drop at_).length - (front (L.drop at_)).2.1
    · have e1 : textOf (L.drop at_) = ((L.drop at_).drop (front (L.drop at_)).2.1).take (front (L.drop at_)).1 := if_pos ⟨he, hs⟩
      have e2 : textErr (L.drop at_) = (front (L.drop at_)).2.2 := if_neg (fun h => h.2 hs)
      have e3 : textSize (L.drop at_) = (front (L.drop at_)).2.1 + (front (L.drop at_)).1 := if_pos ⟨he, hs⟩
      rw [e1, e2, e3, he]
      clear e1 e2 e3
      generalize hf : front (L.drop at_) = f at *
      obtain ⟨x, n, e⟩ := f
      simp only at he hfit hs hlt ⊢
      subst he
      have HF := hide hf
      clear hf HE hno
      rw [hdl] at hs hfit
      rw [List.drop_drop]
      obtain ⟨p, hp⟩ : ∃ p, at_ + n = p := ⟨_, rfl⟩
      obtain ⟨q, hq⟩ : ∃ q, p + x = q := ⟨_, rfl⟩
      rw [hp, show at_ + (n + x) = q by omega]
      have HP := hide hp
      have hqL : q ≤ L.length := by omega
      have hpq : ((p : Int) + (x : Int)) = (q : Int) := by omega
      have hqp : ((q : Int) - (x : Int)) = (p : Int) := by omega
      have hqx : q - p = x := by omega
      have hle : p ≤ q := by omega
      have hxs : x ≤ L.length - p := by omega
      clear hp hq hs hfit hdl
      go_enter Try.func27, Try.ntmps27
      go_upto_region 5 with (go_at_call 23; refine (fUvarint _ _ _ _ _ HR.out).mono ?_; rintro e w1 ⟨rfl, A1, A2⟩; rw [HF.out, HP.out] at A1; have B1 := hide A1; have B2 := hide A2; clear A1 A2; rw [HF.out])
      obtain ⟨y0, y2, y1, v, y3, y4⟩ := B1.out
      obtain ⟨a, c, rfl, y5, y6, y7⟩ := id y4
      clear y7
      obtain ⟨a1, c1, hs1, hb1⟩ := slice_mid w1 a c y4 p q hle hqL
      rw [hqx] at hs1 hb1
      have hcv : ∀ m m', (convert 23 9 (.slice a1 x c1)).run Try.prog (((w1.drewN m).setCell ⟨pb, 1, none⟩ (.int .i64 q)).drewN m') = .ok (.string (bytesOf ((L.drop p).take x))) (((w1.drewN m).setCell ⟨pb, 1, none⟩ (.int .i64 q)).drewN m') := fun m m' =>
        conv_bytes (hb1.mono (w' := ((w1.drewN m).setCell ⟨pb, 1, none⟩ (.int .i64 q)).drewN m') (fun b o _ hb => (cell?_setCell_ne (w1.drewN m) pb 1 b o (.int .i64 q) (by omega))) (Nat.le_refl _) (Nat.le_refl _)).plain
      unfold maxLen at y6
      have HY4 := hide y4
      have HB1 := hide hb1
      clear y4 hb1 hqx h1
      go_quiet (fail)
      go_wp2
      go_quiet (fail)
      go_wp2
      go_ret2
      exact ⟨rfl, B1.out.set q hqL, grownBy_trans B2.out (by repeat (first | exact grownBy_setCell _ _ _ _ | exact grownBy_trans (grownBy_drewN _ _ _) (grownBy_setCell _ _ _ _) | exact grownBy_drewN _ _ _ | refine grownBy_trans ?_ (grownBy_drewN _ _ _)))⟩
    · have e1 : textOf (L.drop at_) = [] := if_neg (fun h => hs h.2)
      have e2 : textErr (L.drop at_) = 10 := if_pos ⟨he, hs⟩
      have e3 : textSize (L.drop at_) = 0 := if_neg (fun h => hs h.2)
      rw [e1, e2, e3]
      clear e1 e2 e3
      generalize hf : front (L.drop at_) = f at *
      obtain ⟨x, n, e⟩ := f
      simp only at he hfit hs hlt ⊢
      subst he
      have HF := hide hf
      clear hf HE hno
      rw [hdl] at hs hfit
      obtain ⟨p, hp⟩ : ∃ p, at_ + n = p := ⟨_, rfl⟩
      have HP := hide hp
      have hxs : L.length - p < x := by omega
      have hpl : p ≤ L.length := by omega
      clear hp hs hfit hdl
      go_enter Try.func27, Try.ntmps27
      go_upto_region 5 with (go_at_call 23; refine (fUvarint _ _ _ _ _ HR.out).mono ?_; rintro e w1 ⟨rfl, A1, A2⟩; rw [HF.out, HP.out] at A1; have B1 := hide A1; have B2 := hide A2; clear A1 A2; rw [HF.out])
      obtain ⟨y0, y2, y1, v, y3, y4⟩ := B1.out
      obtain ⟨a, c, rfl, y5, y6, y7⟩ := id y4
      clear y7
      unfold maxLen at y6
      clear y4 h1
      go_quiet (fail)
      go_wp2
      go_ret2
      exact ⟨rfl, B1.out.set at_ h0, grownBy_trans B2.out (by repeat (first | exact grownBy_setCell _ _ _ _ | exact grownBy_trans (grownBy_drewN _ _ _) (grownBy_setCell _ _ _ _) | exact grownBy_drewN _ _ _ | refine grownBy_trans ?_ (grownBy_drewN _ _ _)))⟩
  · have e1 : textOf (L.drop at_) = [] := if_neg (fun h => he h.1)
    have e2 : textErr (L.drop at_) = (front (L.drop at_)).2.2 := if_neg (fun h => he h.1)
    have e3 : textSize (L.drop at_) = 0 := if_neg (fun h => he h.1)
    rw [e1, e2, e3]
    clear e1 e2 e3
    have hz := HE.out he
    obtain ⟨hz1, hz2⟩ := hz
    generalize hf : front (L.drop at_) = f at *
    obtain ⟨x, n, e⟩ := f
    simp only at he hz1 hz2 hno ⊢
    subst hz1 hz2
    have HF := hide hf
    have he' : 0 < e := by omega
    clear hf HE he hno hdl hfit hlt
    go_enter Try.func27, Try.ntmps27
    go_wp2_with (go_at_call 23; refine (fUvarint _ _ _ _ _ HR.out).mono ?_; rintro e w1 ⟨rfl, A1, A2⟩; rw [HF.out] at A1; have B1 := hide A1; have B2 := hide A2; clear A1 A2; rw [HF.out])
    go_ret2
    exact ⟨rfl, B1.out, B2.out⟩

set_option maxRecDepth 100000 in
set_option maxHeartbeats 1000000 in
theorem copy_any (w : World) (v : Value) (l : List UInt8) (hb : Bytes w v l) (hl : l.length ≤ 140737488355328) :
    Calls Try.prog 19 #[v] w fun e w' => ∃ g cap, e = .returned (.slice (some ⟨g, 0, none⟩) l.length cap) ∧ w'.ownsRow w.heap.size 5 1 (.slice (some ⟨g, 0, none⟩) l.length cap) l.length (cellsOf l) ∧ Below w.heap.size w w' := by
  obtain ⟨i0, hi, hz0, hz1, hz2⟩ := info_parts info_u8
  obtain ⟨a, c, rfl, _⟩ := id hb
  rcases a with _ | ad
  · have : l = [] := by
      rcases hb.elim with ⟨h, _⟩ | ⟨_, b, off, c, h, _⟩
      · exact h
      · cases h
    subst this
    go_enter Try.func19, Try.ntmps19
    go_wp2
    go_ret
    exact ⟨w.heap.size, 0, rfl, World.ownsRow_made w #[] 0 (Nat.le_refl _) (by unfold maxLen; omega) rfl, (Below.refl _ _).alloc (Nat.le_refl _) _⟩
  · have HB := hide hb
    clear hb
    go_enter Try.func19, Try.ntmps19
    go_wp2_with (at_builtin; refine wpList_append_own _ rfl _ _ 23 rfl w.heap.size 5 i0 (.int .u8 0) 1 1 Try.underlying23 hi hz0 hz1 hz2 rfl (by decide) _ _ _ rfl (World.ownsRow_made w #[] 0 (Nat.le_refl _) (by unfold maxLen; omega) rfl) ad l.length c (cellsOf l) rfl ?c0 ?c1 (cellsOf_one l) ?c3 ?c4 ?c5 ?_)
    case c0 => rw [cellsOf_length, Nat.mul_one]
    case c1 => exact Bytes.cells (HB.out.later ((Below.refl _ _).alloc (Nat.le_refl _) _))
    case c3 => unfold maxLen; omega
    case c4 => omega
    case c5 => simp
    · intro v' w1 hown hgrow hne
      have hex : ∃ g cap, v' = .slice (some ⟨g, 0, none⟩) l.length cap := by
        rcases hown.2 with ⟨h, _⟩ | ⟨g, cap, cur, h, _⟩
        · exact absurd h hne
        · exact ⟨g, cap, h⟩
      obtain ⟨g, cap, ev⟩ := hex
      have hbel : Below w.heap.size w w1 := ((Below.refl _ _).alloc (Nat.le_refl _) _).grown hgrow (by simp) (fun k hk => by simp [Value.ownBlock] at hk; omega)
      have R : Hid (v' = .slice (some ⟨g, 0, none⟩) l.length cap ∧ w1.ownsRow w.heap.size 5 1 v' l.length (cellsOf l) ∧ Below w.heap.size w w1) := ⟨ev, hown, hbel⟩
      clear hown hgrow hne hbel ev
      go_wp2
      go_ret
      obtain ⟨ev, hown, hbel⟩ := R
      exact ⟨g, cap, congrArg Ending.returned ev, by rw [← ev]; exact hown, hbel⟩
end Go.Proofs.Ytfgcpkbbneicfaa
