/- OctetReads answers true of every row of bytes and every script, and turns nothing that was there. -/
import Derived.Test.YtfgcpkbbneicfaaReads
namespace Go.Proofs.Ytfgcpkbbneicfaa
open Go.RowKit

set_option maxRecDepth 100000 in
set_option maxHeartbeats 4000000 in
theorem reads_walk (a : Option Addr) (c : Nat) (L : List UInt8) (sa : Option Addr) (sn sc : Nat) (w : World) (hb : BytesIn w 0 w.heap.size (.slice a L.length c) L) (hc : c ≤ 140737488351232) (hlc : L.length ≤ c)
    (hsn : sn ≤ maxLen) (hk : ∀ i, i < sn → ∃ b off z, sa = some ⟨b, off, none⟩ ∧ w.cell? ⟨b, off + i, none⟩ = some (.int .i64 z)) :
    Calls Try.prog 4 #[.slice a L.length c, .slice sa sn sc] w fun e w' => e = .returned (.bool true) ∧ Below w.heap.size w w' := by
  have HB := hide hb
  have HK := hide hk
  have HL : Hid (L.length ≤ 140737488355328) := by show _ ≤ _; omega
  clear hb hk hc hlc
  unfold maxLen at hsn
  go_enter Try.func4, Try.ntmps4
  go_wp2_with (first | (go_at_call 19; refine (copy_any _ _ L (HB.out.plain.later (S1.out.2.trans (S2.out.2.2.2.mono S1.out.2.size))) HL.out).mono ?_; rintro e w3 ⟨g3, c3, rfl, A1⟩; have S3 := hide A1; clear A1) | (go_at_call 18; refine (newReader_any _ _ L (ownsRow_bytes S1.out.1).2.plain HL.out).mono ?_; rintro e w2 ⟨rb, rfl, A1⟩; have S2 := hide A1; clear A1) | (go_at_call 19; refine (copy_any _ _ L HB.out.plain HL.out).mono ?_; rintro e w1 ⟨g1, c1, rfl, A1⟩; have S1 := hide A1; clear A1) | (go_at_call 17; refine (heads_any _).mono ?_; rintro e w5 ⟨rfl, A1⟩; simp only [World.size_alloc] at A1; have T := hide (rs_mk S1.out.2 S2.out S3.out A1); clear A1))
  clear S1 S2 S3
  go_loopw [7] (fun t wr => ∃ k : Nat, k ≤ sn ∧ t = .int .i64 k ∧ RS w wr rb w3.heap.size L) (fun t _ => sn - (intOf t).toNat)
  case atStart => exact ⟨0, Nat.zero_le _, rfl, T.out⟩
  case round =>
    clear T
    generalize w3.heap.size = pb at *
    obtain ⟨k, hk, rfl, at_, hms⟩ := hrel
    obtain ⟨l, hl⟩ : ∃ l, L.drop at_ = l := ⟨_, rfl⟩
    rw [hl] at hms
    have M0 := hide hms
    have HLL := hide hl
    have HBL := hide hms.choose_spec.choose_spec.2.2.2.2.2.2.2
    clear hms hl
    by_cases hlt : k < sn
    · obtain ⟨b, off, z, rfl, hz⟩ := HK.out k hlt
      have hcell : wr.cell? ⟨b, off + k, none⟩ = some (.int .i64 z) := cell_later HBL.out hz
      clear hz
      by_cases h2 : z = 2
      · obtain ⟨q, hq⟩ : ∃ q, (l.drop (front l).2.1).length = q := ⟨_, rfl⟩
        have HQ := hide hq
        have HD : Hid (L.drop (at_ + (front l).2.1) = l.drop (front l).2.1) := by
          show _ = _
          rw [← HLL.out, List.drop_drop]
        clear hq
        go_wp2_with (first | (go_at_call 22; refine (mU M0.out).mono ?_; rintro e w6 ⟨rfl, A1⟩; have M1 := hide A1; clear A1) | (go_at_call 23; refine (nU M1.out HLL.out).mono ?_; rintro e w7 ⟨rfl, A1⟩; have M2 := hide A1; clear A1) | (go_at_call 30; refine (mL M2.out q HQ.out).mono ?_; rintro e w8 ⟨rfl, A1⟩; have M3 := hide A1; clear A1) | (go_at_call 29; refine (nL M3.out q ((congrArg List.length HD.out).trans HQ.out)).mono ?_; rintro e w9 ⟨rfl, A1⟩; have M4 := hide A1; clear A1))
        go_roundw
        case rel => exact ⟨k + 1, by omega, by go_num, M4.out.rs HD.out⟩
        case measure => simp [intOf]; omega
      by_cases h3 : z = 3
      · obtain ⟨q, hq⟩ : ∃ q, (l.drop (front l).2.1).length = q := ⟨_, rfl⟩
        have HQ := hide hq
        have HD : Hid (L.drop (at_ + (front l).2.1) = l.drop (front l).2.1) := by
          show _ = _
          rw [← HLL.out, List.drop_drop]
        clear hq
        go_wp2_with (first | (go_at_call 24; refine (mV M0.out).mono ?_; rintro e w6 ⟨rfl, A1⟩; have M1 := hide A1; clear A1) | (go_at_call 25; refine (nV M1.out HLL.out).mono ?_; rintro e w7 ⟨rfl, A1⟩; have M2 := hide A1; clear A1) | (go_at_call 30; refine (mL M2.out q HQ.out).mono ?_; rintro e w8 ⟨rfl, A1⟩; have M3 := hide A1; clear A1) | (go_at_call 29; refine (nL M3.out q ((congrArg List.length HD.out).trans HQ.out)).mono ?_; rintro e w9 ⟨rfl, A1⟩; have M4 := hide A1; clear A1))
        go_roundw
        case rel => exact ⟨k + 1, by omega, by go_num, M4.out.rs HD.out⟩
        case measure => simp [intOf]; omega
      by_cases h4 : z = 4
      · obtain ⟨q, hq⟩ : ∃ q, (textRest l).length = q := ⟨_, rfl⟩
        have HQ := hide hq
        have HD : Hid (L.drop (at_ + textSize l) = textRest l) := by
          show _ = _
          rw [← HLL.out, textRest_drop, List.drop_drop]
        clear hq
        go_wp2_with (first | (go_at_call 26; refine (mT M0.out).mono ?_; rintro e w6 ⟨rfl, A1⟩; have M1 := hide A1; clear A1) | (go_at_call 27; refine (nT M1.out HLL.out).mono ?_; rintro e w7 ⟨rfl, A1⟩; have M2 := hide A1; clear A1) | (go_at_call 30; refine (mL M2.out q HQ.out).mono ?_; rintro e w8 ⟨rfl, A1⟩; have M3 := hide A1; clear A1) | (go_at_call 29; refine (nL M3.out q ((congrArg List.length HD.out).trans HQ.out)).mono ?_; rintro e w9 ⟨rfl, A1⟩; have M4 := hide A1; clear A1))
        go_roundw
        case rel => exact ⟨k + 1, by omega, by go_num, M4.out.rs HD.out⟩
        case measure => simp [intOf]; omega
      rcases l with _ | ⟨x, l⟩
      · by_cases h1 : z = 1
        · obtain ⟨q, hq⟩ : ∃ q, (([] : List UInt8)).length = q := ⟨_, rfl⟩
          have HQ := hide hq
          have HD : Hid (L.drop (at_ + 0) = ([] : List UInt8)) := by
            show _ = _
            exact HLL.out
          clear hq
          go_wp2_with (first | (go_at_call 20; refine (mU8n M0.out).mono ?_; rintro e w6 ⟨rfl, A1⟩; have M1 := hide A1; clear A1) | (go_at_call 21; refine (nU8n M1.out HLL.out).mono ?_; rintro e w7 ⟨rfl, A1⟩; have M2 := hide A1; clear A1) | (go_at_call 30; refine (mL M2.out q HQ.out).mono ?_; rintro e w8 ⟨rfl, A1⟩; have M3 := hide A1; clear A1) | (go_at_call 29; refine (nL M3.out q ((congrArg List.length HD.out).trans HQ.out)).mono ?_; rintro e w9 ⟨rfl, A1⟩; have M4 := hide A1; clear A1))
          go_roundw
          case rel => exact ⟨k + 1, by omega, by go_num, M4.out.rs HD.out⟩
          case measure => simp [intOf]; omega
        go_wp2_with (first | (go_at_call 28; refine (mE M2.out 0 rfl).mono ?_; rintro e w8 ⟨rfl, A1⟩; have M3 := hide A1; clear A1) | (go_at_call 28; refine (mE M0.out 0 rfl).mono ?_; rintro e w6 ⟨rfl, A1⟩; have M1 := hide A1; clear A1) | (go_at_call 29; refine (nL M5.out 0 (congrArg List.length HLL.out)).mono ?_; rintro e w11 ⟨rfl, A1⟩; have M6 := hide A1; clear A1) | (go_at_call 29; refine (nL M3.out 0 (congrArg List.length HLL.out)).mono ?_; rintro e w9 ⟨rfl, A1⟩; have M4 := hide A1; clear A1) | (go_at_call 29; refine (nL M1.out 0 (congrArg List.length HLL.out)).mono ?_; rintro e w7 ⟨rfl, A1⟩; have M2 := hide A1; clear A1) | (go_at_call 30; refine (mL M4.out 0 rfl).mono ?_; rintro e w10 ⟨rfl, A1⟩; have M5 := hide A1; clear A1))
        go_roundw
        case rel => exact ⟨k + 1, by omega, by go_num, M6.out.rs HLL.out⟩
        case measure => simp [intOf]; omega
      · by_cases h1 : z = 1
        · obtain ⟨q, hq⟩ : ∃ q, (l).length = q := ⟨_, rfl⟩
          have HQ := hide hq
          have HD : Hid (L.drop (at_ + 1) = l) := by
            show _ = _
            rw [← List.drop_drop, HLL.out]; rfl
          clear hq
          go_wp2_with (first | (go_at_call 20; refine (mU8s M0.out).mono ?_; rintro e w6 ⟨rfl, A1⟩; have M1 := hide A1; clear A1) | (go_at_call 21; refine (nU8s M1.out HLL.out).mono ?_; rintro e w7 ⟨rfl, A1⟩; have M2 := hide A1; clear A1) | (go_at_call 30; refine (mL M2.out q HQ.out).mono ?_; rintro e w8 ⟨rfl, A1⟩; have M3 := hide A1; clear A1) | (go_at_call 29; refine (nL M3.out q ((congrArg List.length HD.out).trans HQ.out)).mono ?_; rintro e w9 ⟨rfl, A1⟩; have M4 := hide A1; clear A1))
          go_roundw
          case rel => exact ⟨k + 1, by omega, by go_num, M4.out.rs HD.out⟩
          case measure => simp [intOf]; omega
        obtain ⟨q, hq⟩ : ∃ q, (x :: l).length = q := ⟨_, rfl⟩
        have hq0 : 0 < q := by rw [← hq]; simp
        have hq1 : ((q : Int) == 0) = false := by simp; omega
        have hq2 : ((q : Int) != 0) = true := by simp; omega
        have HQ := hide hq
        clear hq
        go_wp2_with (first | (go_at_call 28; refine (mE M2.out 11 (if_neg (by simp))).mono ?_; rintro e w8 ⟨rfl, A1⟩; have M3 := hide A1; clear A1) | (go_at_call 28; refine (mE M0.out 11 (if_neg (by simp))).mono ?_; rintro e w6 ⟨rfl, A1⟩; have M1 := hide A1; clear A1) | (go_at_call 29; refine (nL M5.out q ((congrArg List.length HLL.out).trans HQ.out)).mono ?_; rintro e w11 ⟨rfl, A1⟩; have M6 := hide A1; clear A1) | (go_at_call 29; refine (nL M3.out q ((congrArg List.length HLL.out).trans HQ.out)).mono ?_; rintro e w9 ⟨rfl, A1⟩; have M4 := hide A1; clear A1) | (go_at_call 29; refine (nL M1.out q ((congrArg List.length HLL.out).trans HQ.out)).mono ?_; rintro e w7 ⟨rfl, A1⟩; have M2 := hide A1; clear A1) | (go_at_call 30; refine (mL M4.out q HQ.out).mono ?_; rintro e w10 ⟨rfl, A1⟩; have M5 := hide A1; clear A1))
        go_roundw
        case rel => exact ⟨k + 1, by omega, by go_num, M6.out.rs HLL.out⟩
        case measure => simp [intOf]; omega
    · go_wp2
      go_ret
      exact ⟨rfl, HBL.out⟩
end Go.Proofs.Ytfgcpkbbneicfaa
