/- The document's numerals. -/
import Derived.Test.YtpbebcefnkbnlabDoorTDecMath
import Derived.Test.YtpbebcefnkbnlabDoorTRefRune
namespace Go.Proofs.YtpbebcefnkbnlabDoor
open Go.RowKit

set_option maxRecDepth 100000 in
set_option maxHeartbeats 1000000 in
theorem refDigits_k : ∀ (n : Nat) (_ : n < 18446744073709551616) (w : World),
    Calls Tryd.prog 37 #[.int .u64 (n : Int)] w fun e w' => e = .returned (.string (str (Lib.decDigits n))) ∧ Below w.heap.size w w' := by
  intro n
  induction n using Nat.strongRecOn with
  | _ n ih =>
    intro hn w
    by_cases h : n < 10
    · have e : str (Lib.decDigits n) = ⟨#[UInt8.ofNat (48 + n)]⟩ := by rw [Lib.decDigits_one h]; rfl
      have hcv : (convert 78 9 (.slice (some ⟨w.heap.size, 0, none⟩) 1 1)).run Tryd.prog (w.alloc (.cells #[.int .u8 (48 + (n : Int))] 5)) = .ok (.string ⟨#[UInt8.ofNat (48 + n)]⟩) (w.alloc (.cells #[.int .u8 (48 + (n : Int))] 5)) := by
        refine run_convert_bytes_back _ 78 9 5 ⟨w.heap.size, 0, none⟩ 1 [UInt8.ofNat (48 + n)] Tryd.underlying78 Tryd.underlying5 Tryd.underlying9 ?_
        intro j hj
        have hj0 : j = 0 := by simpa using hj
        subst hj0
        simp only [List.getElem_cons_zero]
        rw [dig_of n h]
        simp [Addr.add]
      rw [e]
      clear ih e
      generalize UInt8.ofNat (48 + n) = b at *
      go_enter Tryd.func37, Tryd.ntmps37
      go_wp2
      go_ret
      exact ⟨rfl, (Below.refl _ w).alloc (Nat.le_refl _) _⟩
    · have h1 := ih (n / 10) (by omega) (by omega)
      have h2 := ih (n % 10) (by omega) (by omega)
      have e : Lib.decDigits n = Lib.decDigits (n / 10) ++ Lib.decDigits (n % 10) := by
        conv => lhs; rw [Lib.decDigits, dif_neg h]
        rw [Lib.decDigits_one (by omega : n % 10 < 10)]
      have ec : str (Lib.decDigits (n / 10)) ++ str (Lib.decDigits (n % 10)) = str (Lib.decDigits n) := by
        rw [e, cat_str, bytes_str]
      have hl : (Lib.decDigits n).length ≤ 20 := dd_len 19 n (by omega)
      have hl2 : (str (Lib.decDigits (n / 10))).size + (str (Lib.decDigits (n % 10))).size ≤ 20 := by
        rw [str_size, str_size, ← List.length_append, ← e]
        exact hl
      obtain ⟨q, hq⟩ : ∃ q : Nat, n / 10 = q := ⟨_, rfl⟩
      obtain ⟨r, hr⟩ : ∃ r : Nat, n % 10 = r := ⟨_, rfl⟩
      rw [hq] at h1 ec hl2
      rw [hr] at h2 ec hl2
      have hqi : ((n : Int) / 10) = (q : Int) := by omega
      have hri : ((n : Int) % 10) = (r : Int) := by omega
      have htd : Int.tdiv (n : Int) 10 = (q : Int) := by rw [Int.tdiv_eq_ediv_of_nonneg (by omega)]; exact hqi
      have htm : Int.tmod (n : Int) 10 = (r : Int) := by rw [Int.tmod_eq_emod_of_nonneg (by omega)]; exact hri
      clear ih e hl
      generalize str (Lib.decDigits q) = SA at *
      generalize str (Lib.decDigits r) = SB at *
      generalize str (Lib.decDigits n) = SC at *
      have hq10 : q < 18446744073709551616 := by omega
      have hr10 : r < 10 := by omega
      clear hq hr
      go_enter Tryd.func37, Tryd.ntmps37
      go_wp2_with (first
        | (go_at_call 37; refine (h1 _).mono ?_; clear h1; rintro e w1 ⟨rfl, b1⟩)
        | (go_at_call 37; refine (h2 _).mono ?_; clear h2; rintro e w2 ⟨rfl, b2⟩))
      go_ret
      exact ⟨rfl, b1.trans (b2.mono b1.size)⟩

set_option maxRecDepth 100000 in
set_option maxHeartbeats 1000000 in
theorem refDecimal_k (n : Int) (h0 : -9223372036854775808 ≤ n) (h1 : n ≤ 9223372036854775807) (w : World) :
    Calls Tryd.prog 17 #[.int .i64 n] w fun e w' => e = .returned (.string (str (Lib.itoa n))) ∧ Below w.heap.size w w' := by
  by_cases hn : n < 0
  · have hd := refDigits_k n.natAbs (by omega)
    have e : Lib.itoa n = 45 :: Lib.decDigits n.natAbs := by unfold Lib.itoa; rw [if_pos hn]
    have ec : (⟨#[45]⟩ : ByteArray) ++ str (Lib.decDigits n.natAbs) = str (Lib.itoa n) := by
      rw [e, cat_str]
      rfl
    have hl : (str (Lib.decDigits n.natAbs)).size ≤ 20 := by rw [str_size]; exact dd_len 19 _ (by omega)
    have hN : ((n.natAbs : Nat) : Int) = -(n + 1) + 1 := by omega
    rw [hN] at hd
    clear e hN
    generalize str (Lib.decDigits n.natAbs) = SA at *
    generalize str (Lib.itoa n) = SC at *
    go_enter Tryd.func17, Tryd.ntmps17
    go_wp2_with (go_at_call 37; refine (hd _).mono ?_; rintro e w1 ⟨rfl, b1⟩)
    go_ret
    exact ⟨rfl, b1⟩
  · have hd := refDigits_k n.toNat (by omega)
    have e : Lib.itoa n = Lib.decDigits n.toNat := by unfold Lib.itoa; rw [if_neg hn]
    have hN : ((n.toNat : Nat) : Int) = n := by omega
    rw [hN] at hd
    rw [e]
    generalize str (Lib.decDigits n.toNat) = SA at *
    clear hN e
    go_enter Tryd.func17, Tryd.ntmps17
    go_wp2_with (go_at_call 37; refine (hd _).mono ?_; rintro e w1 ⟨rfl, b1⟩)
    go_ret
    exact ⟨rfl, b1⟩

/-- What is told of the byte at a place of a text of digits. -/
theorem drop_take (l : List UInt8) (i k : Nat) (hi : i ≤ k) (hk : k < l.length) : (l.drop i).take (k + 1 - i) = (l.drop i).take (k - i) ++ [l.getD k 0] := (take_more l i k hi hk).symm
theorem mem_drop_take {l : List UInt8} {i k : Nat} {b : UInt8} (h : b ∈ (l.drop i).take k) : b ∈ l.drop i := List.mem_of_mem_take h
theorem getD_mem_drop (l : List UInt8) (i k : Nat) (hi : i ≤ k) (hk : k < l.length) : l.getD k 0 ∈ l.drop i := by
  have e : (l.drop i)[k - i]? = some (l.getD k 0) := by
    rw [List.getElem?_drop, List.getD_eq_getElem?_getD]
    have e2 : i + (k - i) = k := by omega
    rw [e2, List.getElem?_eq_getElem hk]
    rfl
  exact List.mem_of_getElem? e

set_option maxRecDepth 100000 in
set_option maxHeartbeats 4000000 in
theorem refNumber_k (s : ByteArray) (hs : s.size ≤ 281474976702464) (w : World) :
    Calls Tryd.prog 15 #[.string s] w fun e w' => e = .returned (.tuple #[.int .i64 (numV s.data.toList), .int .i64 (numE s.data.toList)]) ∧ Below w.heap.size w w' := by
  have hlen : s.data.toList.length = s.size := by rw [Array.length_toList]; rfl
  have hdoc := num_doc s.data.toList
  have hnot := num_not s.data.toList
  obtain ⟨V, hV⟩ : ∃ V, numV s.data.toList = V := ⟨_, rfl⟩
  obtain ⟨E, hE⟩ : ∃ E, numE s.data.toList = E := ⟨_, rfl⟩
  rw [hV, hE] at hdoc hnot ⊢
  clear hV hE
  have hoff : nOff s.data.toList = 0 ∨ nOff s.data.toList = 1 := by
    unfold nOff
    split
    · exact .inr rfl
    · exact .inl rfl
  rcases hoff with hoff | hoff
  · have hd0 : nOff s.data.toList = 0 := hoff
    rw [hd0] at hnot
    have hdv : docV s.data.toList = wrap64 (vd 0 (s.data.toList.drop 0) : Nat) := by unfold docV; rw [if_neg (by rw [hd0]; decide), hd0]
    by_cases hz : s.size = 0
    · obtain ⟨rfl, rfl⟩ := hnot (.inl (by omega))
      clear hdoc hnot hdv
      have hs0 : s = ⟨#[]⟩ := by
        rw [← str_bytes s, List.eq_nil_of_length_eq_zero (hlen.trans hz)]
        rfl
      subst hs0
      go_enter Tryd.func15, Tryd.ntmps15
      go_wp2
      go_ret2
      exact ⟨rfl, Below.refl _ _⟩
    have hp : 0 < s.size := by omega
    have hby := bt_get s 0 hp
    have hn45 : ((bt s 0 : Int) == 45) = false := by
      refine beq_eq_false_iff_ne.2 fun h => ?_
      unfold nOff at hd0
      rw [if_pos ⟨by omega, UInt8.toNat_inj.1 (by unfold bt at h; have : (s.data.toList.getD 0 0).toNat = 45 := by omega
                                                  rw [this]; rfl)⟩] at hd0
      omega
    have hz' : ((s.size : Int) == 0) = false := beq_eq_false_iff_ne.2 (by omega)
    generalize bt s 0 = b0 at *
    by_cases hbig : 19 < s.size
    · obtain ⟨rfl, rfl⟩ := hnot (.inr (.inl (by omega)))
      clear hdoc hnot hdv
      go_enter Tryd.func15, Tryd.ntmps15
      go_wp2
      go_ret2
      exact ⟨rfl, Below.refl _ _⟩
    have HDOC := hide hdoc
    have HNOT := hide hnot
    have HDV := hide hdv
    clear hdoc hnot hdv hd0
    go_enter Tryd.func15, Tryd.ntmps15
    go_wp2
    go_loopw [5, 6] (fun v vk wr => ∃ k n : Nat, v = .int .u64 (n : Int) ∧ vk = .int .i64 (k : Int) ∧ 0 ≤ k ∧ k ≤ s.size ∧ n = vd 0 ((s.data.toList.drop 0).take (k - 0)) ∧ Hid (∀ b ∈ (s.data.toList.drop 0).take (k - 0), isDig b) ∧ wr = w) (fun _ v _ => s.size - (Lib.intOf v).toNat)
    case atStart => exact ⟨0, 0, rfl, rfl, Nat.le_refl _, by omega, rfl, by intro b hb; simp at hb, rfl⟩
    case round =>
      obtain ⟨k, n, rfl, rfl, hk1, hk2, hn, HG, rfl⟩ := hrel
      have hnlt := vd_lt _ _ rfl HG.out
      rw [← hn, List.length_take, List.length_drop, hlen] at hnlt
      have HN := hide hn
      clear hn
      by_cases hlt : k < s.size
      · have hn18 : n < 1000000000000000000 := by
          refine Nat.lt_of_lt_of_le hnlt ?_
          exact Nat.pow_le_pow_right (j := 18) (by decide) (by omega)
        have hbk := bt_get s k hlt
        have hmem := getD_mem_drop s.data.toList 0 k hk1 (by omega)
        have hbd : (s.data.toList.getD k 0).toNat = bt s k := rfl
        have hb256 := bt_lt s k
        clear hnlt
        by_cases h48 : bt s k < 48
        · obtain ⟨rfl, rfl⟩ := HNOT.out (.inr (.inr ⟨_, hmem, fun h => by unfold isDig at h; omega⟩))
          clear hmem hbd
          generalize bt s k = bk at *
          go_wp2
          go_ret2
          exact ⟨rfl, Below.refl _ _⟩
        · by_cases h57 : 57 < bt s k
          · obtain ⟨rfl, rfl⟩ := HNOT.out (.inr (.inr ⟨_, hmem, fun h => by unfold isDig at h; omega⟩))
            clear hmem hbd
            generalize bt s k = bk at *
            go_wp2
            go_ret2
            exact ⟨rfl, Below.refl _ _⟩
          · have hdt := drop_take s.data.toList 0 k hk1 (by omega)
            have HDT := hide hdt
            have HBD := hide hbd
            clear hdt hmem hbd
            obtain ⟨bk, hbke⟩ : ∃ bk, bt s k = bk := ⟨_, rfl⟩
            rw [hbke] at hbk h48 h57 hb256 HBD
            clear hbke
            have hbk1 : 48 ≤ bk := by omega
            have hbk2 : bk ≤ 57 := by omega
            clear h48 h57
            go_wp2
            go_roundw
            case rel =>
              refine ⟨k + 1, 10 * n + (bk - 48), ?_, by simp, by omega, by omega, ?_, ?_, trivial⟩
              · congr 1
                omega
              · rw [HDT.out, vd_snoc, ← HN.out, HBD.out]
              · intro b hb
                rw [HDT.out] at hb
                rcases List.mem_append.1 hb with hb | hb
                · exact HG.out b hb
                · have e : b = s.data.toList.getD k 0 := by simpa using hb
                  rw [e]
                  unfold isDig
                  rw [HBD.out]
                  exact ⟨hbk1, hbk2⟩
            case measure =>
              simp [Lib.intOf]
              omega
      · have hke : k = s.size := by omega
        have hn := HN.out
        rw [hke, List.take_of_length_le (by rw [List.length_drop, hlen]; exact Nat.le_refl _)] at hn
        have hv := HDV.out
        rw [← hn] at hv
        obtain ⟨hd1, hd2⟩ := HDOC.out
        rw [hv] at hd1 hd2
        have hn64 : n < 18446744073709551616 := by
          refine Nat.lt_of_lt_of_le hnlt (Nat.le_trans (Nat.pow_le_pow_right (j := 19) (by decide) (by omega)) (by decide))
        clear hn hv HN HDV HDOC HNOT HG hnlt
        have hdk := refDecimal_k (wrap64 (n : Int)) (wrap_lo _) (wrap_hi _) wr
        by_cases he : Lib.itoa (wrap64 (n : Int)) = s.data.toList
        · obtain ⟨rfl, rfl⟩ := hd1 he
          rw [he, str_bytes] at hdk
          have hss : (s.toList == s.toList) = true := by simp
          clear hd1 hd2 he
          go_wp2_with (go_at_call 17; refine hdk.mono ?_; rintro e w1 ⟨rfl, b1⟩)
          go_ret2
          exact ⟨rfl, b1⟩
        · obtain ⟨rfl, rfl⟩ := hd2 he
          have hst : ((str (Lib.itoa (wrap64 (n : Int)))).toList == s.toList) = false := by
            rw [Lib.toList_data, Lib.toList_data, bytes_str]
            simpa using he
          generalize str (Lib.itoa (wrap64 (n : Int))) = sx at *
          clear hd1 hd2 he
          go_wp2_with (go_at_call 17; refine hdk.mono ?_; rintro e w1 ⟨rfl, b1⟩)
          go_ret2
          exact ⟨rfl, b1⟩
  · have hd0 : nOff s.data.toList = 1 := hoff
    rw [hd0] at hnot
    have hdv : docV s.data.toList = wrap64 (-(wrap64 (vd 0 (s.data.toList.drop 1) : Nat))) := by unfold docV; rw [if_pos hd0, hd0]
    have h45 : 0 < s.data.toList.length ∧ s.data.toList.getD 0 0 = 45 := by
      unfold nOff at hd0
      split at hd0
      · assumption
      · omega
    have hp : 0 < s.size := by omega
    have hby := bt_get s 0 hp
    have hb45 : bt s 0 = 45 := by unfold bt; rw [h45.2]; rfl
    rw [hb45] at hby
    clear h45 hb45
    by_cases hz : s.size = 1
    · obtain ⟨rfl, rfl⟩ := hnot (.inl (by omega))
      clear hdoc hnot hdv
      have hz' : (s.size : Int) = 1 := by omega
      go_enter Tryd.func15, Tryd.ntmps15
      go_wp2
      go_ret2
      exact ⟨rfl, Below.refl _ _⟩
    have hz' : ((s.size : Int) == 1) = false := beq_eq_false_iff_ne.2 (by omega)
    generalize bt s 0 = b0 at *
    by_cases hbig : 20 < s.size
    · obtain ⟨rfl, rfl⟩ := hnot (.inr (.inl (by omega)))
      clear hdoc hnot hdv
      go_enter Tryd.func15, Tryd.ntmps15
      go_wp2
      go_ret2
      exact ⟨rfl, Below.refl _ _⟩
    have HDOC := hide hdoc
    have HNOT := hide hnot
    have HDV := hide hdv
    clear hdoc hnot hdv hd0
    go_enter Tryd.func15, Tryd.ntmps15
    go_wp2
    go_loopw [5, 6] (fun v vk wr => ∃ k n : Nat, v = .int .u64 (n : Int) ∧ vk = .int .i64 (k : Int) ∧ 1 ≤ k ∧ k ≤ s.size ∧ n = vd 0 ((s.data.toList.drop 1).take (k - 1)) ∧ Hid (∀ b ∈ (s.data.toList.drop 1).take (k - 1), isDig b) ∧ wr = w) (fun _ v _ => s.size - (Lib.intOf v).toNat)
    case atStart => exact ⟨1, 0, rfl, rfl, Nat.le_refl _, by omega, rfl, by intro b hb; simp at hb, rfl⟩
    case round =>
      obtain ⟨k, n, rfl, rfl, hk1, hk2, hn, HG, rfl⟩ := hrel
      have hnlt := vd_lt _ _ rfl HG.out
      rw [← hn, List.length_take, List.length_drop, hlen] at hnlt
      have HN := hide hn
      clear hn
      by_cases hlt : k < s.size
      · have hn18 : n < 1000000000000000000 := by
          refine Nat.lt_of_lt_of_le hnlt ?_
          exact Nat.pow_le_pow_right (j := 18) (by decide) (by omega)
        have hbk := bt_get s k hlt
        have hmem := getD_mem_drop s.data.toList 1 k hk1 (by omega)
        have hbd : (s.data.toList.getD k 0).toNat = bt s k := rfl
        have hb256 := bt_lt s k
        clear hnlt
        by_cases h48 : bt s k < 48
        · obtain ⟨rfl, rfl⟩ := HNOT.out (.inr (.inr ⟨_, hmem, fun h => by unfold isDig at h; omega⟩))
          clear hmem hbd
          generalize bt s k = bk at *
          go_wp2
          go_ret2
          exact ⟨rfl, Below.refl _ _⟩
        · by_cases h57 : 57 < bt s k
          · obtain ⟨rfl, rfl⟩ := HNOT.out (.inr (.inr ⟨_, hmem, fun h => by unfold isDig at h; omega⟩))
            clear hmem hbd
            generalize bt s k = bk at *
            go_wp2
            go_ret2
            exact ⟨rfl, Below.refl _ _⟩
          · have hdt := drop_take s.data.toList 1 k hk1 (by omega)
            have HDT := hide hdt
            have HBD := hide hbd
            clear hdt hmem hbd
            obtain ⟨bk, hbke⟩ : ∃ bk, bt s k = bk := ⟨_, rfl⟩
            rw [hbke] at hbk h48 h57 hb256 HBD
            clear hbke
            have hbk1 : 48 ≤ bk := by omega
            have hbk2 : bk ≤ 57 := by omega
            clear h48 h57
            go_wp2
            go_roundw
            case rel =>
              refine ⟨k + 1, 10 * n + (bk - 48), ?_, by simp, by omega, by omega, ?_, ?_, trivial⟩
              · congr 1
                omega
              · rw [HDT.out, vd_snoc, ← HN.out, HBD.out]
              · intro b hb
                rw [HDT.out] at hb
                rcases List.mem_append.1 hb with hb | hb
                · exact HG.out b hb
                · have e : b = s.data.toList.getD k 0 := by simpa using hb
                  rw [e]
                  unfold isDig
                  rw [HBD.out]
                  exact ⟨hbk1, hbk2⟩
            case measure =>
              simp [Lib.intOf]
              omega
      · have hke : k = s.size := by omega
        have hn := HN.out
        rw [hke, List.take_of_length_le (by rw [List.length_drop, hlen]; exact Nat.le_refl _)] at hn
        have hv := HDV.out
        rw [← hn] at hv
        obtain ⟨hd1, hd2⟩ := HDOC.out
        rw [hv] at hd1 hd2
        have hn64 : n < 18446744073709551616 := by
          refine Nat.lt_of_lt_of_le hnlt (Nat.le_trans (Nat.pow_le_pow_right (j := 19) (by decide) (by omega)) (by decide))
        clear hn hv HN HDV HDOC HNOT HG hnlt
        have hdk := refDecimal_k (wrap64 (-(wrap64 (n : Int)))) (wrap_lo _) (wrap_hi _) wr
        by_cases he : Lib.itoa (wrap64 (-(wrap64 (n : Int)))) = s.data.toList
        · obtain ⟨rfl, rfl⟩ := hd1 he
          rw [he, str_bytes] at hdk
          have hss : (s.toList == s.toList) = true := by simp
          clear hd1 hd2 he
          go_wp2_with (go_at_call 17; refine hdk.mono ?_; rintro e w1 ⟨rfl, b1⟩)
          go_ret2
          exact ⟨rfl, b1⟩
        · obtain ⟨rfl, rfl⟩ := hd2 he
          have hst : ((str (Lib.itoa (wrap64 (-(wrap64 (n : Int)))))).toList == s.toList) = false := by
            rw [Lib.toList_data, Lib.toList_data, bytes_str]
            simpa using he
          generalize str (Lib.itoa (wrap64 (-(wrap64 (n : Int))))) = sx at *
          clear hd1 hd2 he
          go_wp2_with (go_at_call 17; refine hdk.mono ?_; rintro e w1 ⟨rfl, b1⟩)
          go_ret2
          exact ⟨rfl, b1⟩
end Go.Proofs.YtpbebcefnkbnlabDoor
