/- The walk of the statement on lines. -/
import Derived.Test.YtpbebcefnkbnlaaDoorTRefLines
import Derived.Deep.QuietTactic
import Derived.BigQuiet
namespace Go.Proofs.YtpbebcefnkbnlaaDoor
open Go.RowKit

theorem numd_at : ∀ (x : List (List UInt8)) (n k : Nat), (numVals (numd n x))[k]? = if k < x.length then some (.int .i64 ((n + k : Nat) : Int)) else none
  | [], _, k => by simp [numd, numVals]
  | c :: r, n, 0 => by simp [numd, numVals]
  | c :: r, n, k + 1 => by
    have := numd_at r (n + 1) k
    simp only [numVals, numd, List.map_cons, List.getElem?_cons_succ, List.length_cons] at this ⊢
    rw [this]
    have e : n + 1 + k = n + (k + 1) := by omega
    rw [e]
    simp
theorem strd_eq : ∀ (x : List (List UInt8)) (n : Nat), strVals (numd n x) = lineVals x
  | [], _ => rfl
  | c :: r, n => by
    have := strd_eq r (n + 1)
    simp only [strVals, lineVals, numd, List.map_cons] at this ⊢
    rw [this]
theorem join_take (x : List (List UInt8)) (k : Nat) (h : k < x.length) : joinL (x.take (k + 1)) = joinL (x.take k) ++ (x.getD k [] ++ [10]) := by
  unfold joinL
  rw [List.take_succ_eq_append_getElem h, List.flatMap_append, List.getD_eq_getElem?_getD, List.getElem?_eq_getElem h]
  simp
theorem join_len : ∀ (l cur : List UInt8), (joinL (lns cur l)).length ≤ cur.length + l.length + 1
  | [], cur => by
    unfold lns joinL
    split
    · simp
    · simp
  | b :: t, cur => by
    rw [lns]
    split
    · have := join_len t []
      simp only [joinL] at this ⊢
      rw [List.flatMap_cons, List.length_append]
      simp at this ⊢
      omega
    · have := join_len t (cur ++ [b])
      simp at this ⊢
      omega
theorem join_take_len (x : List (List UInt8)) (k : Nat) : (joinL (x.take k)).length ≤ (joinL x).length := by
  have e : joinL x = joinL (x.take k) ++ joinL (x.drop k) := by
    unfold joinL
    rw [← List.flatMap_append, List.take_append_drop]
  rw [e, List.length_append]
  omega
theorem lns_ne (l : List UInt8) (h : l ≠ []) : lns [] l ≠ [] := by
  intro e
  have h1 := join_lns l [] h
  rw [e] at h1
  have h2 : fin10 l = [] := by simpa [joinL] using h1.symm
  rw [fin10_last l h] at h2
  split at h2
  · exact h h2
  · simp at h2
theorem lineVals_at (x : List (List UInt8)) (k : Nat) (h : k < x.length) : (lineVals x)[k]? = some (.string (str (x.getD k []))) := by
  unfold lineVals
  rw [List.getElem?_map, List.getD_eq_getElem?_getD, List.getElem?_eq_getElem h]
  rfl

set_option maxRecDepth 100000 in
set_option maxHeartbeats 4000000 in
theorem textLines_walk (s : ByteArray) (hs : s.size ≤ 1048576) (w : World) (ht : Tabs w) :
    Calls Tryd.prog 6 #[.string s] w fun e w' => e = .returned (.bool true) ∧ Below w.heap.size w w' := by
  have hlen : s.data.toList.length = s.size := by rw [Array.length_toList]; rfl
  have hL := lines_k s hs w
  have hR := refLines_k s hs
  have hal := alive_k
  by_cases h0 : s.data.toList = []
  · have hs0 : s = ⟨#[]⟩ := by rw [← str_bytes s, h0]; rfl
    subst hs0
    have hL0 : Calls Tryd.prog 20 #[.string ⟨#[]⟩] w fun e w' => ∃ a1 c1 a2 c2, e = .returned (.tuple #[.slice a1 0 c1, .slice a2 0 c2]) ∧ Below w.heap.size w w' := by
      refine hL.mono ?_
      rintro e w' ⟨va, vb, rfl, ⟨h1, h2⟩, hb⟩
      obtain ⟨a1, c1, rfl⟩ := row_slice h1
      obtain ⟨a2, c2, rfl⟩ := row_slice h2
      exact ⟨a1, c1, a2, c2, rfl, hb⟩
    have hR0 : ∀ w, Calls Tryd.prog 21 #[.string ⟨#[]⟩] w fun e w' => ∃ a1 c1, e = .returned (.slice a1 0 c1) ∧ Below w.heap.size w w' := fun w => by
      refine (hR w).mono ?_
      rintro e w' ⟨va, rfl, h1, hb⟩
      obtain ⟨a1, c1, rfl⟩ := row_slice h1
      exact ⟨a1, c1, rfl, hb⟩
    clear hL hR
    go_enter Tryd.func6, Tryd.ntmps6
    go_wp2_with (first
      | (go_at_call 20; refine hL0.mono ?_; rintro e w1 ⟨a1, c1, a2, c2, rfl, b1⟩)
      | (go_at_call 21; refine (hR0 _).mono ?_; rintro e w2 ⟨a3, c3, rfl, b2⟩))
    go_loopw [6, 7] (fun v vi wr => v = .string ⟨#[]⟩ ∧ vi = .int .i64 0 ∧ wr = w2) (fun _ _ _ => 0)
    case atStart => exact ⟨rfl, rfl, rfl⟩
    case round =>
      obtain ⟨rfl, rfl, rfl⟩ := hrel
      have t2 := (ht.below b1).below b2
      go_wp2_with (go_at_call 16; refine (hal _ t2).mono ?_; rintro e w3 ⟨rfl, b3⟩)
      go_ret
      have s1 := b1.size
      have s2 := b2.size
      exact ⟨rfl, (b1.trans (b2.mono (by omega))).trans (b3.mono (by omega))⟩
  · obtain ⟨x, hx⟩ : ∃ x, lns [] s.data.toList = x := ⟨_, rfl⟩
    have hjoin : joinL x = fin10 s.data.toList := by rw [← hx, join_lns _ _ h0]; rfl
    have hfl := fin10_last s.data.toList h0
    have hjl : (joinL x).length ≤ s.size + 1 := by
      have := join_len s.data.toList []
      rw [hx, hlen] at this
      simpa using this
    have hxn : x ≠ [] := by rw [← hx]; exact lns_ne _ h0
    obtain ⟨M, hM⟩ : ∃ M, x.length = M + 1 := ⟨x.length - 1, by have := List.length_pos_iff.2 hxn; omega⟩
    have hMs : M + 1 ≤ s.size + 1 := by
      have := lns_len s.data.toList []
      rw [hx, hlen] at this
      omega
    have hL1 : Calls Tryd.prog 20 #[.string s] w fun e w' => ∃ g1 c1 g2 c2, e = .returned (.tuple #[.slice (some ⟨g1, 0, none⟩) (M + 1) c1, .slice (some ⟨g2, 0, none⟩) (M + 1) c2]) ∧ Hid (∀ k, k < M + 1 → w'.cell? ⟨g1, k, none⟩ = some (.int .i64 ((k : Int) + 1)) ∧ w'.cell? ⟨g2, k, none⟩ = some (.string (str (x.getD k [])))) ∧ Below w.heap.size w w' := by
      refine hL.mono ?_
      rintro e w' ⟨va, vb, rfl, ⟨h1, h2⟩, hb⟩
      rw [lines, numd_length, hx, hM] at h1 h2
      obtain ⟨g1, c1, rfl⟩ := ownsRow_succ h1
      obtain ⟨g2, c2, rfl⟩ := ownsRow_succ h2
      refine ⟨g1, c1, g2, c2, rfl, fun k hk => ⟨rowCell h1 k _ ?_, rowCell h2 k _ ?_⟩, hb⟩
      · rw [numd_at, hM, if_pos hk]
        congr 2
        omega
      · rw [strd_eq]
        exact lineVals_at x k (by omega)
    have hR1 : ∀ w, Calls Tryd.prog 21 #[.string s] w fun e w' => ∃ g3 c3, e = .returned (.slice (some ⟨g3, 0, none⟩) (M + 1) c3) ∧ Hid (∀ k, k < M + 1 → w'.cell? ⟨g3, k, none⟩ = some (.string (str (x.getD k [])))) ∧ Below w.heap.size w w' := fun w => by
      refine (hR w).mono ?_
      rintro e w' ⟨va, rfl, h1, hb⟩
      rw [hx, hM] at h1
      obtain ⟨g1, c1, rfl⟩ := ownsRow_succ h1
      exact ⟨g1, c1, rfl, fun k hk => rowCell h1 k _ (lineVals_at x k (by omega)), hb⟩
    clear hL hR hx
    go_enter Tryd.func6, Tryd.ntmps6
    go_wp2_with (first
      | (go_at_call 20; refine hL1.mono ?_; rintro e w1 ⟨g1, c1, g2, c2, rfl, HC, b1⟩)
      | (go_at_call 21; refine (hR1 _).mono ?_; rintro e w2 ⟨g3, c3, rfl, HD, b2⟩))
    go_loopw [6, 7] (fun v vi wr => ∃ k n : Nat, v = .string (str (joinL (x.take k))) ∧ vi = .int .i64 (k : Int) ∧ k ≤ M + 1 ∧ wr = w2.drewN n) (fun _ v _ => M + 1 - (Lib.intOf v).toNat)
    case atStart => exact ⟨0, 0, rfl, rfl, Nat.zero_le _, rfl⟩
    case round =>
      obtain ⟨k, nd, rfl, rfl, hk, rfl⟩ := hrel
      clear hL1 hR1
      have t2 : Tabs (w2.drewN nd) := ((ht.below b1).below b2).below (below_drewN _ nd)
      by_cases hlt : k < M + 1
      · have d1 : w2.cell? ⟨g1, k, none⟩ = some (.int .i64 ((k : Int) + 1)) := keepCell (HC.out k hlt).1 b2
        have d2 : w2.cell? ⟨g2, k, none⟩ = some (.string (str (x.getD k []))) := keepCell (HC.out k hlt).2 b2
        have d3 : w2.cell? ⟨g3, k, none⟩ = some (.string (str (x.getD k []))) := HD.out k hlt
        have e2 : (w2.drewN nd).cell? ⟨g2, k, none⟩ = some (.string (str (x.getD k []))) := d2
        have hjt := join_take x k (by omega)
        have hjt1 := join_take_len x (k + 1)
        have hz : (str (joinL (x.take k))).size + (str (x.getD k [])).size + 1 = (joinL (x.take (k + 1))).length := by
          rw [str_size, str_size, hjt]
          simp
          omega
        have hcat : (str (joinL (x.take k)) ++ str (x.getD k [])) ++ (⟨#[10]⟩ : ByteArray) = str (joinL (x.take (k + 1))) := by
          rw [hjt, cat_str, bytes_str]
          have := cat_str (str (joinL (x.take k) ++ x.getD k [])) [10]
          rw [bytes_str] at this
          rw [← List.append_assoc]
          exact this
        have hzn : (str (joinL (x.take k))).size + (str (x.getD k [])).size ≤ 1048577 := by omega
        have HJ := hide (rfl : str (joinL (x.take (k + 1))) = str (joinL (x.take (k + 1))))
        obtain ⟨SC, hSC⟩ : ∃ SC, str (joinL (x.take (k + 1))) = SC := ⟨_, rfl⟩
        rw [hSC] at hcat
        have HSC := hide hSC
        clear hSC hjt hjt1 hz HJ
        generalize str (joinL (x.take k)) = SA at *
        generalize str (x.getD k []) = SB at *
        go_wp2
        go_quiet (fail)
        go_wp2
        go_roundw
        case rel => exact ⟨k + 1, nd + nq, by rw [HSC.out], by simp, by omega, rfl⟩
        case measure =>
          simp [Lib.intOf]
          omega
      · have hke : k = M + 1 := by omega
        subst hke
        have htk : x.take (M + 1) = x := List.take_of_length_le (by omega)
        rw [htk, hjoin, hfl, hlen]
        have hq1 : s.size - 1 < s.size := by
          have := List.length_pos_iff.2 h0
          omega
        have hby := byte_at s (s.size - 1) hq1
        have hqi : ((s.size : Int) - 1) = ((s.size - 1 : Nat) : Int) := by omega
        have hne2 : (s.toList == ([] : List UInt8)) = false := by
          rw [Lib.toList_data]
          simpa using h0
        have hss : (s.toList == s.toList) = true := by simp
        have s1 := b1.size
        have s2 := b2.size
        have BB : Below w.heap.size w (w2.drewN nd) := (b1.trans (b2.mono (by omega))).trans ((below_drewN w2 nd).mono (by omega))
        have HS := hide (show w.heap.size ≤ (w2.drewN nd).heap.size from BB.size)
        clear hfl hjoin hjl htk HC HD b1 b2 s1 s2 hxn hM ht
        generalize s.size - 1 = q at *
        by_cases hten : s.data.toList.getD q 0 = 10
        · rw [if_pos hten, str_bytes]
          rw [hten] at hby
          have hby' : (s[q]'hq1).toNat = 10 := hby
          clear hby hten
          go_wp2_with (go_at_call 16; refine (hal _ t2).mono ?_; rintro e w3 ⟨rfl, b3⟩)
          go_ret
          exact ⟨rfl, BB.trans (b3.mono HS.out)⟩
        · rw [if_neg hten]
          have hne : ¬ (s[q]'hq1).toNat = 10 := by
            rw [hby]
            exact fun e => hten (UInt8.toNat_inj.1 (by rw [e]; rfl))
          have hcat := cat_str s [10]
          have hcat' : s ++ (⟨#[10]⟩ : ByteArray) = str (s.data.toList ++ [10]) := hcat
          have hcc : ((str (s.data.toList ++ [10])).toList == (str (s.data.toList ++ [10])).toList) = true := by simp
          clear hby hten hcat
          generalize str (s.data.toList ++ [10]) = SZ at *
          go_wp2_with (go_at_call 16; refine (hal _ t2).mono ?_; rintro e w3 ⟨rfl, b3⟩)
          go_ret
          exact ⟨rfl, BB.trans (b3.mono HS.out)⟩
end Go.Proofs.YtpbebcefnkbnlaaDoor
