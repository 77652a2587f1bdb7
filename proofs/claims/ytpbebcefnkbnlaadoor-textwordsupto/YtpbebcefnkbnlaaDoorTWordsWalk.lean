/- The walk of the statement on words. -/
import Derived.Test.YtpbebcefnkbnlaaDoorTRefWords
import Derived.Test.YtpbebcefnkbnlaaDoorTRefSpots
import Derived.Deep.QuietTactic
import Derived.OneCell
namespace Go.Proofs.YtpbebcefnkbnlaaDoor
open Go.RowKit

theorem row_put {W : World} {base : Nat} {e : TypeId} {size g M cap : Nat} {xs : List Value} (h : W.ownsRow base e size (.slice (some ⟨g, 0, none⟩) M cap) M xs) (j : Nat) (v : Value) :
    (W.setCell ⟨g, j, none⟩ v).ownsRow base e size (.slice (some ⟨g, 0, none⟩) M cap) M (xs.set j v) := by
  rcases h.2 with ⟨e, _⟩ | ⟨g', cap', cur, e, hb, hg, h1, h2, h3, h4⟩
  · cases e
  · cases e
    refine ⟨by rw [List.length_set]; exact h.1, .inr ⟨g, cap, cur.setIfInBounds j v, rfl, hb, ?_, h1, h2, ?_, ?_⟩⟩
    · simp [World.setCell, Array.getElem?_modify, hg]
    · rw [Array.size_setIfInBounds]
      exact h3
    · rw [Array.toList_setIfInBounds, List.take_set, h4]
theorem row_frozen {W : World} {base : Nat} {e : TypeId} {size g M cap : Nat} {xs : List Value} (h : W.ownsRow base e size (.slice (some ⟨g, 0, none⟩) M cap) M xs) (j : Nat) : W.frozen? ⟨g, j, none⟩ = false := by
  rcases h.2 with ⟨e, _⟩ | ⟨g', cap', cur, e, hb, hg, _⟩
  · cases e
  · cases e
    simp [World.frozen?, hg]
theorem spotNe (a b c : Int) (w : World) : (binOp BinOp.neq 23 (.agg #[.int .i64 a, .int .i64 b, .int .i64 c]) (.agg #[.int .i64 a, .int .i64 b, .int .i64 c])).run Tryd.prog w = .ok (.bool false) w := by
  simp [go_sem]
theorem rwCells_at : ∀ (x : List Wd) (k : Nat) (h : k < x.length), (rwCells x)[k * 3]? = some (.string (str (x[k]'h).text)) ∧ (rwCells x)[k * 3 + 1]? = some (.int .i64 (x[k]'h).off) ∧ (rwCells x)[k * 3 + 2]? = some (.int .i64 (x[k]'h).col)
  | [], k, h => absurd h (by simp)
  | c :: r, 0, _ => ⟨rfl, rfl, rfl⟩
  | c :: r, k + 1, h => by
    have := rwCells_at r k (by simpa using h)
    have e : rwCells (c :: r) = [.string (str c.text), .int .i64 c.off, .int .i64 c.col] ++ rwCells r := rfl
    have e1 : (k + 1) * 3 = k * 3 + 3 := by omega
    rw [e, e1]
    exact this
theorem row_some {W : World} {base : Nat} {e : TypeId} {size M cap : Nat} {a : Option Addr} {xs : List Value} (h : W.ownsRow base e size (.slice a M cap) M xs) (hM : 0 < M) : ∃ g, a = some ⟨g, 0, none⟩ ∧ base ≤ g ∧ g < W.heap.size := by
  rcases h.2 with ⟨e, h0⟩ | ⟨g, cap', cur, e, hb, hg, _⟩
  · omega
  · cases e
    exact ⟨g, rfl, hb, (Array.getElem?_eq_some_iff.1 hg).1⟩

set_option maxRecDepth 100000 in
set_option maxHeartbeats 8000000 in
theorem textWords_walk (s : ByteArray) (hs : s.size ≤ 1048576) (n : Int) (w : World) (ht : Tabs w) :
    Calls Tryd.prog 7 #[.string s, .int .i64 n] w fun e w' => e = .returned (.bool true) ∧ Below w.heap.size w w' := by
  obtain ⟨i3, hi3, h30, h31, h32⟩ := info_parts infoWord
  have hlen : s.data.toList.length = s.size := by rw [Array.length_toList]; rfl
  have hW := words_k s hs n
  have hR := refWords_k s hs
  have hML : (wds 0 0 false s.data.toList).length ≤ s.size := by rw [← hlen]; exact wds_len _ _ _ _
  have hal := alive_k
  have hsn := fun a c => spotNe a n c
  generalize wds 0 0 false s.data.toList = x at *
  obtain ⟨M, hM⟩ : ∃ M, x.length = M := ⟨_, rfl⟩
  rw [hM] at hW hR hML
  go_enter Tryd.func7, Tryd.ntmps7
  go_wp2_with (first
    | (go_at_call 22; refine (hW _).mono ?_; rintro e w1 ⟨v1, rfl, o1, b1⟩; obtain ⟨a1, c1, rfl⟩ := row_slice o1)
    | (go_at_call 23; refine (hR _).mono ?_; clear hR; rintro e w2 ⟨v2, rfl, o2, b2⟩; obtain ⟨a2, c2, rfl⟩ := row_slice o2))
  have s1 := b1.size
  have O1 := hide (row_below o1 b2)
  have O2 := hide o2
  have hlt1 := hide (o1.lt)
  have B2 := hide (b1.trans (b2.mono s1))
  clear o1 o2
  go_loopw [7] (fun vi wr => ∃ (i : Nat) (xs : List Value), vi = .int .i64 (i : Int) ∧ i ≤ M ∧ Hid (wr.ownsRow w.heap.size 56 4 (.slice a1 M c1) M xs) ∧ Hid (∀ j, i * 4 ≤ j → xs[j]? = (wordCells n x)[j]?) ∧ Hid (wr.ownsRow w1.heap.size 58 3 (.slice a2 M c2) M (rwCells x)) ∧ Hid (Below w.heap.size w wr)) (fun v _ => M - (Lib.intOf v).toNat)
  case atStart => exact ⟨0, wordCells n x, rfl, Nat.zero_le _, O1, fun _ _ => rfl, O2, B2⟩
  case round =>
    obtain ⟨i, xs, rfl, hi, HO1, HXS, HO2, HB⟩ := hrel
    by_cases hlt : i < M
    · obtain ⟨g1, rfl, hg1, hg1'⟩ := row_some HO1.out (by omega)
      obtain ⟨g2, rfl, hg2, hg2'⟩ := row_some HO2.out (by omega)
      have hgg : g1 < w1.heap.size := (hlt1.out g1 rfl).2
      obtain ⟨q1, q2, q3, q4⟩ := wordCells_at n x i (by omega)
      obtain ⟨y1, y2, y3⟩ := rwCells_at x i (by omega)
      rw [← HXS.out _ (by omega)] at q1 q2 q3 q4
      have c10 := rowCell HO1.out _ _ q1
      have c11 := rowCell HO1.out _ _ q2
      have c12 := rowCell HO1.out _ _ q3
      have c13 := rowCell HO1.out _ _ q4
      have d20 := rowCell HO2.out _ _ y1
      have d21 := rowCell HO2.out _ _ y2
      have d22 := rowCell HO2.out _ _ y3
      generalize x[i] = wx at *
      have hss : ((str wx.text).toList == (str wx.text).toList) = true := by simp
      have Q2 := hide q2
      have Q3 := hide q3
      have Q4 := hide q4
      clear q1 q2 q3 q4 y1 y2 y3
      have hil : (i : Int) < (M : Int) := by omega
      go_wp2
      go_quiet (fail)
      have r0 : (wr.drewN nq).ownsRow w.heap.size 56 4 (.slice (some ⟨g1, 0, none⟩) M c1) M xs := HO1.out
      have z0 : (wr.drewN nq).cell? ⟨g1, i * 4, none⟩ = some (.string (str wx.text)) := c10
      have f0 := row_frozen r0 (i * 4)
      have r1 := row_put r0 (i * 4) (.string ⟨#[115, 112, 111, 105, 108, 116]⟩)
      have z1 := rowCell r1 (i * 4 + 1) _ ((List.getElem?_set_ne (by omega)).trans Q2.out)
      have f1 := row_frozen r1 (i * 4 + 1)
      have r2 := row_put r1 (i * 4 + 1) (.int .i64 0)
      have z2 := rowCell r2 (i * 4 + 2) _ ((List.getElem?_set_ne (by omega)).trans ((List.getElem?_set_ne (by omega)).trans Q3.out))
      have f2 := row_frozen r2 (i * 4 + 2)
      have r3 := row_put r2 (i * 4 + 2) (.int .i64 0)
      have z3 := rowCell r3 (i * 4 + 3) _ ((List.getElem?_set_ne (by omega)).trans ((List.getElem?_set_ne (by omega)).trans ((List.getElem?_set_ne (by omega)).trans Q4.out)))
      have f3 := row_frozen r3 (i * 4 + 3)
      have r4 := row_put r3 (i * 4 + 3) (.int .i64 0)
      have HB1 : Below w.heap.size w (wr.drewN nq) := HB.out.trans ((below_drewN wr nq).mono HB.out.size)
      have HR4 := hide r4
      have hne2 : ∀ (j : Nat), (Value.slice (some ⟨g2, 0, none⟩) M c2).ownBlock ≠ some (⟨g1, j, none⟩ : Addr).block := fun j e => by
        have : g2 = g1 := by simpa [Value.ownBlock] using e
        omega
      have P0 : (wr.drewN nq).ownsRow w1.heap.size 58 3 (.slice (some ⟨g2, 0, none⟩) M c2) M (rwCells x) := HO2.out
      clear r0 r1 r2 r3 r4 c10 c11 c12 c13 d20 d21 d22
      go_wp2
      go_roundw
      case rel =>
        refine ⟨i + 1, _, by simp, by omega, HR4, ?_, ownsRow_setCell_other (ownsRow_setCell_other (ownsRow_setCell_other (ownsRow_setCell_other P0 (hne2 _) _) (hne2 _) _) (hne2 _) _) (hne2 _) _, below_set (below_set (below_set (below_set HB1 _ _ _ hg1) _ _ _ hg1) _ _ _ hg1) _ _ _ hg1⟩
        intro j hj
        rw [List.getElem?_set_ne (by omega), List.getElem?_set_ne (by omega), List.getElem?_set_ne (by omega), List.getElem?_set_ne (by omega)]
        exact HXS.out j (by omega)
      case measure =>
        simp [Lib.intOf]
        omega
    · have O1' := HO1
      have O2' := HO2
      have hBw := HB
      clear HXS HO1 HO2 HB O1 O2 B2
      go_wp2
      go_loopw [5, 8] (fun v vi w' => ∃ (k m : Nat) (ys : List Value), vi = .int .i64 (k : Int) ∧ k ≤ 20 ∧ m = M + k ∧ Hid (w'.ownsRow w.heap.size 56 4 v m ys) ∧ Hid (w'.ownsRow w1.heap.size 58 3 (.slice a2 M c2) M (rwCells x)) ∧ Hid (Below w.heap.size w w')) (fun _ v _ => 20 - (Lib.intOf v).toNat)
      case atStart => exact ⟨0, M, xs, rfl, by omega, rfl, O1', O2', hBw⟩
      case round =>
        clear O1' O2' hBw
        obtain ⟨k, m, ys, rfl, hk, hm, HO1, HO2, HB⟩ := hrel
        subst hm
        obtain ⟨ao, cp, rfl⟩ := row_slice HO1.out
        by_cases hk20 : k < 20
        · have hsz := HB.out.size
          have hne := row_ne HO2.out HO1.out (by decide)
          have HNE := hide hne
          clear hne
          go_wp2_with (at_builtin; refine wpList_append_own _ rfl _ _ 51 rfl w.heap.size 56 i3 (.agg #[.string ⟨#[]⟩, .int .i64 0, .int .i64 0, .int .i64 0]) 4 40 Tryd.underlying51 hi3 h30 h31 h32 rfl (by decide) _ _ _ rfl (HO1.out.alloc _) ⟨wr.heap.size, 0, none⟩ 1 1 [.string ⟨#[109, 111, 114, 101]⟩, .int .i64 0, .int .i64 0, .int .i64 0] rfl rfl (cell_four_at _ _ _ _ _ _ _ rfl) (by simp [Value.oneCell']) (by unfold maxLen; omega) (by omega) (by simp; omega) ?_; intro v' w3 hown' hgrow _; obtain ⟨g', cap', rfl⟩ := ownsRow_succ hown')
          go_roundw
          case rel =>
            refine ⟨k + 1, M + k + 1, _, by simp, by omega, by omega, hide hown', hide ((HO2.out.alloc _).kept hgrow HNE.out), hide ((HB.out.alloc hsz _).grown hgrow (by simp; omega) (fun j ej => (row_block HO1.out j ej).1))⟩
          case measure =>
            simp [Lib.intOf]
            omega
        · have tb := ht.below HB.out
          have hWr := hW wr
          have hsz := HB.out.size
          clear hW HO1
          go_wp2_with (go_at_call 22; refine hWr.mono ?_; clear hWr; rintro e w4 ⟨v4, rfl, o4, b4⟩; obtain ⟨a4, c4, rfl⟩ := row_slice o4)
          have O4 := hide o4
          have O5 := hide (row_below HO2.out b4)
          have BB := hide (HB.out.trans (b4.mono hsz))
          have t4 := tb.below b4
          clear o4 HO2 HB b4 tb
          go_loopw [10] (fun vi w' => ∃ (i nd : Nat), vi = .int .i64 (i : Int) ∧ i ≤ M ∧ w' = w4.drewN nd) (fun v _ => M - (Lib.intOf v).toNat)
          case atStart => exact ⟨0, 0, rfl, Nat.zero_le _, rfl⟩
          case round =>
            obtain ⟨i2, nd, rfl, hi2, rfl⟩ := hrel
            by_cases hlt2 : i2 < M
            · obtain ⟨g4, rfl, _, _⟩ := row_some O4.out (by omega)
              obtain ⟨g5, rfl, _, _⟩ := row_some O5.out (by omega)
              have c10 : w4.cell? ⟨g4, i2 * 4, none⟩ = some (.string (str (x[i2]'(by omega)).text)) := rowCell O4.out _ _ (wordCells_at n x i2 (by omega)).1
              have d20 : w4.cell? ⟨g5, i2 * 3, none⟩ = some (.string (str (x[i2]'(by omega)).text)) := rowCell O5.out _ _ (rwCells_at x i2 (by omega)).1
              generalize x[i2] = wx at *
              have hss : ((str wx.text).toList == (str wx.text).toList) = true := by simp
              have hMM : ((M : Int) == (M : Int)) = true := by simp
              have hil : (i2 : Int) < (M : Int) := by omega
              go_wp2
              go_quiet (fail)
              go_wp2
              go_roundw
              case rel => exact ⟨i2 + 1, nd + nq, by simp, by omega, rfl⟩
              case measure =>
                simp [Lib.intOf]
                omega
            · have t5 : Tabs (w4.drewN nd) := t4.below (below_drewN _ nd)
              have hB5 : Below w.heap.size w (w4.drewN nd) := BB.out.trans ((below_drewN w4 nd).mono BB.out.size)
              go_wp2_with (go_at_call 16; refine (hal _ t5).mono ?_; rintro e w6 ⟨rfl, b6⟩)
              go_ret
              exact ⟨rfl, hB5.trans (b6.mono hB5.size)⟩
end Go.Proofs.YtpbebcefnkbnlaaDoor
