/- The document's scanner: mark. -/
import Derived.Test.YthpkjehoogodkaaDoorZKR4
import Derived.Test.YthpkjehoogodkaaDoorZKMark
namespace Go.Proofs.YthpkjehoogodkaaDoor
open Go.RowKit

set_option maxRecDepth 100000 in
set_option maxHeartbeats 4000000 in
theorem marksR_k (w : World) : Calls Tryd.prog 59 #[] w fun e w' => e = .returned (.slice (some ⟨w.heap.size, 0, none⟩) 24 24) ∧ (∀ j, j < 24 → w'.cell? ⟨w.heap.size, j, none⟩ = some (.string (str (marksL.getD j [])))) ∧ Below w.heap.size w w' := by
  go_enter Tryd.func59, Tryd.ntmps59
  go_wp2
  go_ret
  refine ⟨rfl, fun j hj => ?_, kalloc (Below.refl _ _) _⟩
  have hg := fun ty cs => World.alloc_heap_new w (.cells cs ty)
  exact match j, hj with
  | 0, _ => kcells_at (hg _ _) 0 _ rfl
  | 1, _ => kcells_at (hg _ _) 1 _ rfl
  | 2, _ => kcells_at (hg _ _) 2 _ rfl
  | 3, _ => kcells_at (hg _ _) 3 _ rfl
  | 4, _ => kcells_at (hg _ _) 4 _ rfl
  | 5, _ => kcells_at (hg _ _) 5 _ rfl
  | 6, _ => kcells_at (hg _ _) 6 _ rfl
  | 7, _ => kcells_at (hg _ _) 7 _ rfl
  | 8, _ => kcells_at (hg _ _) 8 _ rfl
  | 9, _ => kcells_at (hg _ _) 9 _ rfl
  | 10, _ => kcells_at (hg _ _) 10 _ rfl
  | 11, _ => kcells_at (hg _ _) 11 _ rfl
  | 12, _ => kcells_at (hg _ _) 12 _ rfl
  | 13, _ => kcells_at (hg _ _) 13 _ rfl
  | 14, _ => kcells_at (hg _ _) 14 _ rfl
  | 15, _ => kcells_at (hg _ _) 15 _ rfl
  | 16, _ => kcells_at (hg _ _) 16 _ rfl
  | 17, _ => kcells_at (hg _ _) 17 _ rfl
  | 18, _ => kcells_at (hg _ _) 18 _ rfl
  | 19, _ => kcells_at (hg _ _) 19 _ rfl
  | 20, _ => kcells_at (hg _ _) 20 _ rfl
  | 21, _ => kcells_at (hg _ _) 21 _ rfl
  | 22, _ => kcells_at (hg _ _) 22 _ rfl
  | 23, _ => kcells_at (hg _ _) 23 _ rfl
  | j + 24, h => by omega
theorem pre_take (l m : List UInt8) : Lib.hasPrefix l m = true ↔ (m.length ≤ l.length ∧ l.take m.length = m) := by
  unfold Lib.hasPrefix
  rw [List.isPrefixOf_iff_prefix, List.prefix_iff_eq_take]
  constructor
  · intro h
    have := congrArg List.length h
    rw [List.length_take] at this
    exact ⟨by omega, h.symm⟩
  · intro h
    exact h.2.symm
/-- The mark that begins here; none: the empty text. -/
def mkL (l : List UInt8) : List UInt8 := (marksL.find? fun m => Lib.hasPrefix l m).getD []

set_option maxRecDepth 100000 in
set_option maxHeartbeats 8000000 in
theorem markR_k (s : ByteArray) (hs : s.size ≤ 1048576) (a : Option Addr) (cp P i k : Nat) (W : World) (h : Sn s a cp P i W) (hat : At s.data.toList i k) (hi : i < (rs s.data.toList).length) :
    Calls Tryd.prog 47 #[.pointer (some ⟨P, 0, none⟩)] W fun e W' => e = .returned (.string (str (mkL (s.data.toList.drop k)))) ∧ Below W.heap.size W W' := by
  have hb := rs_bound s
  have hlen := size_toList s
  obtain ⟨q1, q2, q3, q4, q5, q6⟩ := hat.rune hi
  have HS := hide h
  obtain ⟨c0, c1, c2, f2⟩ := h.cells
  obtain ⟨g, ha, d1, d2, d3⟩ := h.rr i hi
  rw [q3] at d2
  subst ha
  have hks : k < s.size := by omega
  have HLEN := hide hlen
  have hiI : (i : Int) < ((rs s.data.toList).length : Int) := by omega
  clear h hat q1 q2 q3 q4 q5 q6 d1 d3 hlen
  generalize hN : (rs s.data.toList).length = n at *
  have HN := hide hN
  clear hN
  go_enter Tryd.func47, Tryd.ntmps47
  go_wp2
  go_quiet (fail)
  go_wp2_with (go_at_call 59; refine (marksR_k _).mono ?_; rintro e w1 ⟨rfl, hm, b1⟩; have HMK : Hid (∀ j, j < 24 → w1.cell? ⟨W.heap.size, j, none⟩ = some (.string (str (marksL.getD j [])))) := hm; have HB1 := hide (ktrans (below_drewN W _) b1); clear hm b1)
  go_loopw [5] (fun v wr => ∃ j : Nat, v = .int .i64 (j : Int) ∧ j ≤ 24 ∧ Hid (∀ i, i < j → Lib.hasPrefix (s.data.toList.drop k) (marksL.getD i []) = false) ∧ Below w1.heap.size w1 wr)
    (fun v _ => 24 - (Lib.intOf v).toNat)
  case atStart => exact ⟨0, rfl, by omega, hide (fun i h => absurd h (by omega)), Below.refl _ _⟩
  case round =>
    obtain ⟨j, rfl, hj, HNO, hbel⟩ := hrel
    have HB := hide hbel
    by_cases hj24 : j < 24
    · have mc := kkeepCell (HMK.out j hj24) hbel
      have e0 := kkeepCell (kkeepCell c0 HB1.out) hbel
      have hjI : (j : Int) < 24 := by omega
      have hml : (marksL.getD j []).length ≤ 2 := by
        exact match j, hj24 with
        | 0, _ => by decide
        | 1, _ => by decide
        | 2, _ => by decide
        | 3, _ => by decide
        | 4, _ => by decide
        | 5, _ => by decide
        | 6, _ => by decide
        | 7, _ => by decide
        | 8, _ => by decide
        | 9, _ => by decide
        | 10, _ => by decide
        | 11, _ => by decide
        | 12, _ => by decide
        | 13, _ => by decide
        | 14, _ => by decide
        | 15, _ => by decide
        | 16, _ => by decide
        | 17, _ => by decide
        | 18, _ => by decide
        | 19, _ => by decide
        | 20, _ => by decide
        | 21, _ => by decide
        | 22, _ => by decide
        | 23, _ => by decide
        | j + 24, hk => by omega
      have hms : (str (marksL.getD j [])).size = (marksL.getD j []).length := str_size _
      have hpt := pre_take (s.data.toList.drop k) (marksL.getD j [])
      rw [List.length_drop, HLEN.out] at hpt
      have hfind := find_mark (fun m => Lib.hasPrefix (s.data.toList.drop k) m) j hj24 HNO.out
      have hnext : Lib.hasPrefix (s.data.toList.drop k) (marksL.getD j []) = false → Hid (∀ i, i < j + 1 → Lib.hasPrefix (s.data.toList.drop k) (marksL.getD i []) = false) := fun hp => hide (fun i h => if e : i = j then e ▸ hp else HNO.out i (by omega))
      have hqd : (str (marksL.getD j [])).data.toList = marksL.getD j [] := bytes_str _
      have hres : Lib.hasPrefix (s.data.toList.drop k) (marksL.getD j []) = true → mkL (s.data.toList.drop k) = marksL.getD j [] := fun hp => by
        unfold mkL
        rw [hfind hp]
        rfl
      have hwj : IntKind.i64.wrap ((j : Int) + 1) = ((j + 1 : Nat) : Int) := by rw [IntKind.wrap_i64]; omega
      clear hfind hbel
      generalize marksL.getD j [] = m at *
      have HRES := hide hres
      have HNEXT := hide hnext
      have HPT := hide hpt
      clear hres hnext hpt
      obtain ⟨q, hq⟩ : ∃ q, str m = q := ⟨_, rfl⟩
      rw [hq] at mc hms hqd
      have HQ := hide hq
      obtain ⟨N, hNm⟩ : ∃ N, m.length = N := ⟨_, rfl⟩
      rw [hNm] at hms hml
      have hwn : IntKind.i64.wrap ((k : Int) + (N : Int)) = ((k + N : Nat) : Int) := by rw [IntKind.wrap_i64]; omega
      obtain ⟨E, hE⟩ : ∃ E, k + N = E := ⟨_, rfl⟩
      rw [hE] at hwn
      have HE := hide hE
      have hkE : k ≤ E := by omega
      have hNI : (0 : Int) ≤ (N : Int) := by omega
      have hEb : E ≤ 2000000 := by omega
      have HNM := hide hNm
      clear hq hNm hE
      by_cases hle : E ≤ s.size
      · have t1 : decide ((E : Int) ≤ (s.size : Int)) = true := decide_eq_true (by omega)
        have t2 : decide (E ≤ s.size) = true := decide_eq_true hle
        obtain ⟨X, hX⟩ : ∃ X, s.extract k E = X := ⟨_, rfl⟩
        have hXd : X.data.toList = (s.data.toList.drop k).take N := by
          rw [← hX, extract_str, bytes_str]
          congr 1
          have := HE.out
          omega
        by_cases he : X.data.toList = q.data.toList
        · have hp : Lib.hasPrefix (s.data.toList.drop k) m = true := HPT.out.2 ⟨by have := HE.out; have := HNM.out; omega, by rw [HNM.out, ← hXd, he, hqd]⟩
          have u1 : (X.toList == q.toList) = true := by rw [Lib.toList_data, Lib.toList_data, he]; simp
          have HR2 := hide (HRES.out hp)
          clear hXd he hp
          go_wp2
          go_quiet (fail)
          go_wp2
          go_ret
          exact ⟨by rw [HR2.out, HQ.out]; rfl, ktrans (ktrans HB1.out HB.out) (below_drewN _ _)⟩
        · have hp : Lib.hasPrefix (s.data.toList.drop k) m = false := by
            cases hq : Lib.hasPrefix (s.data.toList.drop k) m with
            | false => rfl
            | true =>
              have := (HPT.out.1 hq).2
              rw [HNM.out, ← hXd] at this
              exact absurd (this.trans hqd.symm) he
          have u1 : (X.toList == q.toList) = false := by rw [Lib.toList_data, Lib.toList_data]; simpa using he
          have HNX := HNEXT.out hp
          clear hXd he hp
          go_wp2
          go_quiet (fail)
          go_wp2
          go_roundw
          case rel => exact ⟨j + 1, by simp, by omega, HNX, ktrans HB.out (below_drewN _ _)⟩
          case measure =>
            simp [Lib.intOf]
            omega
      · have t1 : decide ((E : Int) ≤ (s.size : Int)) = false := decide_eq_false (by omega)
        have t2 : decide (E ≤ s.size) = false := decide_eq_false hle
        have hp : Lib.hasPrefix (s.data.toList.drop k) m = false := by
          cases hq : Lib.hasPrefix (s.data.toList.drop k) m with
          | false => rfl
          | true =>
            have := (HPT.out.1 hq).1
            have := HE.out
            have := HNM.out
            omega
        have HNX := HNEXT.out hp
        clear hp
        go_wp2
        go_quiet (fail)
        go_wp2
        go_roundw
        case rel => exact ⟨j + 1, by simp, by omega, HNX, ktrans HB.out (below_drewN _ _)⟩
        case measure =>
          simp [Lib.intOf]
          omega
    · have hj2 : j = 24 := by omega
      subst hj2
      have hf := find_none (fun m => Lib.hasPrefix (s.data.toList.drop k) m) HNO.out
      have HF : Hid (mkL (s.data.toList.drop k) = []) := by
        unfold mkL
        rw [hf]
        exact hide rfl
      clear hf hbel
      go_wp2
      go_ret
      exact ⟨by rw [HF.out]; rfl, ktrans HB1.out HB.out⟩
end Go.Proofs.YthpkjehoogodkaaDoor
