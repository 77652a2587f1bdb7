/- Blanks, words, widths: what they answer of every text. -/
import Derived.Test.YtpbebcefnkbnlabDoorTCollectL
namespace Go.Proofs.YtpbebcefnkbnlabDoor
open Go.RowKit

def isBlank (r : Int) : Bool := r == 32 || r == 9 || r == 13

set_option maxRecDepth 100000 in
theorem blank_k (r : Int) (w : World) :
    Calls Tryd.prog 52 #[.int .i32 r] w fun e w' => e = .returned (.bool (isBlank r)) ∧ w = w' := by
  unfold isBlank
  by_cases h1 : r = 32
  · subst h1
    go_enter Tryd.func52, Tryd.ntmps52
    go_wp2
    go_ret
    exact ⟨rfl, rfl⟩
  · by_cases h2 : r = 9
    · subst h2
      go_enter Tryd.func52, Tryd.ntmps52
      go_wp2
      go_ret
      exact ⟨rfl, rfl⟩
    · have e1 : (r == 32) = false := by simp [h1]
      have e2 : (r == 9) = false := by simp [h2]
      go_enter Tryd.func52, Tryd.ntmps52
      go_wp2
      go_ret
      refine ⟨?_, rfl⟩
      simp [e1, e2]

theorem blank_yes (r : Int) (h : isBlank r = true) (w : World) : Calls Tryd.prog 52 #[.int .i32 r] w fun e w' => e = .returned (.bool true) ∧ w = w' := by
  have := blank_k r w
  rw [h] at this
  exact this
theorem blank_no (r : Int) (h : isBlank r = false) (w : World) : Calls Tryd.prog 52 #[.int .i32 r] w fun e w' => e = .returned (.bool false) ∧ w = w' := by
  have := blank_k r w
  rw [h] at this
  exact this

/-- The bytes ahead of the first blank. -/
def tw (l : List UInt8) : List UInt8 := l.takeWhile fun b => !(b == 32 || b == 9 || b == 13)

theorem take_low (c : UInt8) (hc : c.toNat < 128) (l : List UInt8) (hl : l ≠ []) (h : rv l ≠ (c.toNat : Int)) : ∀ b ∈ l.take (wd l), b ≠ c := by
  intro b hb e
  subst e
  obtain ⟨d, t, rfl⟩ : ∃ c t, l = c :: t := by cases l with | nil => exact absurd rfl hl | cons c t => exact ⟨c, t, rfl⟩
  by_cases hd : d.toNat < 128
  · obtain ⟨h1, h2⟩ := rv_ascii d t hd
    rw [h2] at hb
    simp at hb
    subst hb
    exact h h1
  · have hw : wd (d :: t) = (Lib.decodeL (d :: t)).2 := rfl
    rw [hw] at hb
    rw [Lib.decodeL_N] at hb
    have k0 : ((d :: t).getD 0 0) = d := by simp
    rw [k0] at hb
    rcases Lib.decodeN_shape (d :: t).length d.toNat ((d :: t).getD 1 0).toNat ((d :: t).getD 2 0).toNat ((d :: t).getD 3 0).toNat with ⟨g, e⟩ | ⟨c1, c2, c3, cv, e⟩ | ⟨c1, c2, c3, c4, cv, cs, e⟩ | ⟨c1, c2, c3, c4, c5, cv, cw, e⟩ | e
    · omega
    · rw [e] at hb
      dsimp only at hb
      rw [Lib.takeB _ c2] at hb
      simp only [List.mem_cons, List.not_mem_nil, or_false, k0] at hb
      rcases hb with e | e
      · rw [← e] at hd; omega
      · rw [← e] at c3; omega
    · rw [e] at hb
      dsimp only at hb
      rw [Lib.takeC _ c2] at hb
      simp only [List.mem_cons, List.not_mem_nil, or_false, k0] at hb
      rcases hb with e | e | e
      · rw [← e] at hd; omega
      · rw [← e] at c3; omega
      · rw [← e] at c4; omega
    · rw [e] at hb
      dsimp only at hb
      rw [Lib.takeD _ c2] at hb
      simp only [List.mem_cons, List.not_mem_nil, or_false, k0] at hb
      rcases hb with e | e | e | e
      · rw [← e] at hd; omega
      · rw [← e] at c3; omega
      · rw [← e] at c4; omega
      · rw [← e] at c5; omega
    · rw [e] at hb
      dsimp only at hb
      simp at hb
      rw [← hb] at hd
      omega

theorem tw_skip : ∀ (m t : List UInt8), (∀ b ∈ m, b ≠ 32 ∧ b ≠ 9 ∧ b ≠ 13) → tw (m ++ t) = m ++ tw t
  | [], t, _ => rfl
  | b :: m, t, h => by
    obtain ⟨h1, h2, h3⟩ := h b (by simp)
    have := tw_skip m t (fun c hc => h c (by simp [hc]))
    unfold tw at this ⊢
    rw [List.cons_append, List.takeWhile_cons_of_pos (by simp [h1, h2, h3]), this]
    rfl
theorem tw_rune (l : List UInt8) (hl : l ≠ []) (h : isBlank (rv l) = false) : tw l = l.take (wd l) ++ tw (l.drop (wd l)) := by
  unfold isBlank at h
  simp at h
  conv => lhs; rw [← List.take_append_drop (wd l) l]
  exact tw_skip _ _ fun b hb => ⟨take_low 32 (by decide) l hl h.1.1 b hb, take_low 9 (by decide) l hl h.1.2 b hb, take_low 13 (by decide) l hl h.2 b hb⟩
theorem blank_head (l : List UInt8) (hl : l ≠ []) (h : isBlank (rv l) = true) : wd l = 1 ∧ tw l = [] ∧ (rv l = 32 ∨ rv l = 9 ∨ rv l = 13) := by
  obtain ⟨d, t, rfl⟩ : ∃ c t, l = c :: t := by cases l with | nil => exact absurd rfl hl | cons c t => exact ⟨c, t, rfl⟩
  unfold isBlank at h
  simp at h
  have hh : rv (d :: t) = 32 ∨ rv (d :: t) = 9 ∨ rv (d :: t) = 13 := by omega
  have hd : d.toNat = 32 ∨ d.toNat = 9 ∨ d.toNat = 13 := by
    rcases hh with e | e | e
    · exact .inl ((rv_low_iff d t 32 (by decide)).1 e)
    · exact .inr (.inl ((rv_low_iff d t 9 (by decide)).1 e))
    · exact .inr (.inr ((rv_low_iff d t 13 (by decide)).1 e))
  refine ⟨(rv_ascii d t (by omega)).2, ?_, hh⟩
  unfold tw
  rw [List.takeWhile_cons_of_neg]
  simp
  intro a b
  rcases hd with e | e | e
  · exact absurd (UInt8.toNat_inj.1 (by rw [e]; rfl)) a
  · exact absurd (UInt8.toNat_inj.1 (by rw [e]; rfl)) b
  · exact UInt8.toNat_inj.1 (by rw [e]; rfl)

theorem rv_dec (s : ByteArray) (k : Nat) : isBlank (rv (s.data.toList.drop k)) = isBlank ((Utf8.decode s k).1 : Nat) := by
  have hd := Lib.decodeL_drop s k
  unfold rv
  rw [hd]
  split
  · rename_i h
    rw [h.1]
    rfl
  · rfl
theorem str_size (l : List UInt8) : (str l).size = l.length := by
  show l.toArray.size = l.length
  exact List.size_toArray
theorem drop_ne (s : ByteArray) (k : Nat) (h : k < s.size) : s.data.toList.drop k ≠ [] := by
  intro e
  have := congrArg List.length e
  have hlen : s.data.toList.length = s.size := by rw [Array.length_toList]; rfl
  rw [List.length_drop, hlen] at this
  simp at this
  omega
theorem drop_end (s : ByteArray) (k : Nat) (h : ¬ k < s.size) : s.data.toList.drop k = [] := List.drop_eq_nil_of_le (by have hlen : s.data.toList.length = s.size := by rw [Array.length_toList]; rfl
                                                                                                                        omega)
theorem wd_dec (s : ByteArray) (k : Nat) : (Utf8.decode s k).2 = wd (s.data.toList.drop k) := by rw [wd, Lib.decodeL_drop s k]
theorem wd_room (s : ByteArray) (k : Nat) (h : k < s.size) : k + wd (s.data.toList.drop k) ≤ s.size := by
  have := wd_le _ (drop_ne s k h)
  have hlen : s.data.toList.length = s.size := by rw [Array.length_toList]; rfl
  rw [List.length_drop, hlen] at this
  omega

set_option maxRecDepth 100000 in
set_option maxHeartbeats 1000000 in
theorem width_k (s : ByteArray) (hs : s.size ≤ 281474976702464) (w : World) :
    Calls Tryd.prog 24 #[.string s] w fun e w' => e = .returned (.int .i64 (ru s.data.toList).length) ∧ Below w.heap.size w w' := by
  have hrg := fun w' => run_range_string (P := Tryd.prog) w' 9 s Tryd.underlying9
  go_enter Tryd.func24, Tryd.ntmps24
  go_wp2
  go_loopw [3] (fun v wr => ∃ k n : Nat, v = .int .i64 (n : Int) ∧ n ≤ k ∧ k ≤ s.size ∧ n + (ru (s.data.toList.drop k)).length = (ru s.data.toList).length ∧ wr.heap[w.heap.size]? = some (.stringIter s k) ∧ Below w.heap.size w wr)
    (fun _ wr => s.size - wr.iterPos w.heap.size)
  case atStart => exact ⟨0, 0, rfl, Nat.le_refl _, Nat.zero_le _, by simp, World.iter_heap w s 0, (Below.refl _ w).alloc (Nat.le_refl _) _⟩
  case round =>
    obtain ⟨k, n, rfl, hnk, hk, hru, hit, hbel⟩ := hrel
    have hpos : wr.iterPos w.heap.size = k := by simp [World.iterPos, hit]
    clear hrg
    by_cases hlt : k < s.size
    · have hnx := fun ty => Lib.run_next_any_at (P := Tryd.prog) wr w.heap.size s k ty hit hlt
      rw [wd_dec] at hnx
      have h1 := wd_pos (s.data.toList.drop k)
      have h2 := wd_room s k hlt
      rw [ru_step _ (drop_ne s k hlt), List.drop_drop, List.length_cons] at hru
      have hit2 := Lib.iterAt_heap wr w.heap.size s k (k + wd (s.data.toList.drop k)) hit
      have hbel2 := Lib.below_iterAt hbel (k := w.heap.size) (Nat.le_refl _) s (k + wd (s.data.toList.drop k))
      generalize wd (s.data.toList.drop k) = ww at *
      go_wp2
      go_roundw
      case rel => exact ⟨k + ww, n + 1, by simp, by omega, h2, by omega, hit2, hbel2⟩
      case measure =>
        have hp : (wr.iterAt w.heap.size s (k + ww)).iterPos w.heap.size = k + ww := by simp only [World.iterPos, hit2]
        rw [hp, hpos]
        omega
    · have hnx := fun ty => Lib.run_next_end_at (P := Tryd.prog) wr w.heap.size s k ty hit hlt
      rw [drop_end s k hlt, ru_nil] at hru
      go_wp2
      go_ret
      refine ⟨?_, hbel⟩
      rw [← hru]
      simp

set_option maxRecDepth 100000 in
set_option maxHeartbeats 1000000 in
theorem untilBlank_k (s : ByteArray) (_ : s.size ≤ 281474976702464) (w : World) :
    Calls Tryd.prog 53 #[.string s] w fun e w' => e = .returned (.string (str (tw s.data.toList))) ∧ Below w.heap.size w w' := by
  have hrg := fun w' => run_range_string (P := Tryd.prog) w' 9 s Tryd.underlying9
  have hlen : s.data.toList.length = s.size := by rw [Array.length_toList]; rfl
  go_enter Tryd.func53, Tryd.ntmps53
  go_wp2
  go_loopw [3, 4] (fun _ _ wr => ∃ k : Nat, k ≤ s.size ∧ s.data.toList.take k ++ tw (s.data.toList.drop k) = tw s.data.toList ∧ wr.heap[w.heap.size]? = some (.stringIter s k) ∧ Below w.heap.size w wr)
    (fun _ _ wr => s.size - wr.iterPos w.heap.size)
  case atStart => exact ⟨0, Nat.zero_le _, by simp, World.iter_heap w s 0, (Below.refl _ w).alloc (Nat.le_refl _) _⟩
  case round =>
    obtain ⟨k, hk, htw, hit, hbel⟩ := hrel
    have hpos : wr.iterPos w.heap.size = k := by simp [World.iterPos, hit]
    clear hrg
    by_cases hlt : k < s.size
    · have hnx := fun ty => Lib.run_next_any_at (P := Tryd.prog) wr w.heap.size s k ty hit hlt
      rw [wd_dec] at hnx
      have h1 := wd_pos (s.data.toList.drop k)
      have h2 := wd_room s k hlt
      have hit2 := Lib.iterAt_heap wr w.heap.size s k (k + wd (s.data.toList.drop k)) hit
      have hbel2 := Lib.below_iterAt hbel (k := w.heap.size) (Nat.le_refl _) s (k + wd (s.data.toList.drop k))
      have hb := rv_dec s k
      cases hbl : isBlank (rv (s.data.toList.drop k)) with
      | true =>
        rw [hbl] at hb
        have htk := (blank_head _ (drop_ne s k hlt) hbl).2.1
        rw [htk, List.append_nil] at htw
        have hex : s.extract 0 k = str (tw s.data.toList) := by rw [extract_str, ← htw]; simp
        have HB := hide hb.symm
        clear hbl htk htw hb
        generalize (Utf8.decode s k).1 = dr at *
        generalize wd (s.data.toList.drop k) = ww at *
        go_wp2_with (go_at_call 52; refine (blank_yes _ HB.out _).mono ?_; rintro e w1 ⟨rfl, rfl⟩)
        go_ret
        exact ⟨rfl, hbel2⟩
      | false =>
        rw [hbl] at hb
        rw [tw_rune _ (drop_ne s k hlt) hbl, List.drop_drop, ← List.append_assoc, ← List.take_add] at htw
        have HB := hide hb.symm
        clear hbl hb
        generalize (Utf8.decode s k).1 = dr at *
        generalize wd (s.data.toList.drop k) = ww at *
        go_wp2_with (go_at_call 52; refine (blank_no _ HB.out _).mono ?_; rintro e w1 ⟨rfl, rfl⟩)
        go_roundw
        case rel => exact ⟨k + ww, h2, htw, hit2, hbel2⟩
        case measure =>
          have hp : (wr.iterAt w.heap.size s (k + ww)).iterPos w.heap.size = k + ww := by simp only [World.iterPos, hit2]
          rw [hp, hpos]
          omega
    · have hnx := fun ty => Lib.run_next_end_at (P := Tryd.prog) wr w.heap.size s k ty hit hlt
      have hks : k = s.size := by omega
      rw [drop_end s k hlt] at htw
      have h3 : str (tw s.data.toList) = s := by
        rw [← htw, List.take_of_length_le (by omega)]
        simp [tw, str]
      go_wp2
      go_ret
      refine ⟨?_, hbel⟩
      rw [h3]
      rfl
end Go.Proofs.YtpbebcefnkbnlabDoor
