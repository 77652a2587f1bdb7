/- The document's reading of what is quoted: its contract. -/
import Derived.Test.YtpbebcefnkbnlabDoorTRefUnqMath
namespace Go.Proofs.YtpbebcefnkbnlabDoor
open Go.RowKit

theorem eq_u8 (c : UInt8) (n : Nat) (hn : n < 256) (h : c.toNat ≠ n) : c ≠ n.toUInt8 := fun e => h (by rw [e]; show n % 256 = n; omega)

set_option maxRecDepth 100000 in
set_option maxHeartbeats 4000000 in
theorem refUnquote_k (s : ByteArray) (hs : s.size ≤ 1048576) (w : World) :
    Calls Tryd.prog 19 #[.string s] w fun e w' => e = .returned (.tuple #[.string (str (unT s.data.toList)), .int .i64 (unE s.data.toList)]) ∧ Below w.heap.size w w' := by
  obtain ⟨i0, hi, hz0, hz1, hz2⟩ := info_parts infoByte
  have hlen : s.data.toList.length = s.size := by rw [Array.length_toList]; rfl
  have hbad := un_bad s.data.toList
  rw [hlen] at hbad
  obtain ⟨X, hX⟩ : ∃ X, str (unT s.data.toList) = X := ⟨_, rfl⟩
  obtain ⟨E, hE⟩ : ∃ E, unE s.data.toList = E := ⟨_, rfl⟩
  rw [hX, hE]
  have HBAD : Hid ((s.size < 2 ∨ s.data.toList.getD 0 0 ≠ 34 ∨ s.data.toList.getD (s.size - 1) 0 ≠ 34 ∨ rp (ins s.data.toList) = none) → X = ⟨#[]⟩ ∧ E = 24) := fun h => by
    obtain ⟨h1, h2⟩ := hbad h
    rw [h1] at hX
    rw [h2] at hE
    exact ⟨hX.symm, hE.symm⟩
  clear hbad
  have HX := hide hX
  have HE := hide hE
  clear hX hE
  by_cases h2 : s.size < 2
  · obtain ⟨rfl, rfl⟩ := HBAD.out (.inl h2)
    clear HX HE HBAD hlen
    go_enter Tryd.func19, Tryd.ntmps19
    go_wp2
    go_ret2
    exact ⟨rfl, Below.refl _ _⟩
  have h0l : 0 < s.size := by omega
  have hb0 := byte_at s 0 h0l
  obtain ⟨q, hq⟩ : ∃ q, s.size - 1 = q := ⟨_, rfl⟩
  have e2 : ((s.size : Int) - 1) = (q : Int) := by omega
  have hql : q < s.size := by omega
  have hb1' : (s[q]'hql).toNat = (s.data.toList.getD q 0).toNat := byte_at s q hql
  rw [hq] at HBAD
  by_cases h34 : s.data.toList.getD 0 0 = 34
  rotate_left
  · obtain ⟨rfl, rfl⟩ := HBAD.out (.inr (.inl h34))
    have hn2 : ¬ ((s.data.toList.getD 0 0).toNat : Int) = 34 := fun h => h34 (UInt8.toNat_inj.1 (by rw [show (34 : UInt8).toNat = 34 from rfl]; omega))
    have hn : (((s.data.toList.getD 0 0).toNat : Int) != 34) = true := bne_iff_ne.2 hn2
    generalize (s.data.toList.getD 0 0).toNat = b at *
    clear HX HE HBAD hlen h34 hb1'
    go_enter Tryd.func19, Tryd.ntmps19
    go_wp2
    go_ret2
    exact ⟨rfl, Below.refl _ _⟩
  rw [h34] at hb0
  rw [show (34 : UInt8).toNat = 34 from rfl] at hb0
  by_cases h35 : s.data.toList.getD q 0 = 34
  rotate_left
  · obtain ⟨rfl, rfl⟩ := HBAD.out (.inr (.inr (.inl h35)))
    have hn2 : ¬ ((s.data.toList.getD q 0).toNat : Int) = 34 := fun h => h35 (UInt8.toNat_inj.1 (by rw [show (34 : UInt8).toNat = 34 from rfl]; omega))
    have hn : (((s.data.toList.getD q 0).toNat : Int) != 34) = true := bne_iff_ne.2 hn2
    generalize (s.data.toList.getD q 0).toNat = b at *
    clear HX HE HBAD hlen h34 h35 hq
    go_enter Tryd.func19, Tryd.ntmps19
    go_wp2
    go_ret2
    exact ⟨rfl, Below.refl _ _⟩
  rw [h35] at hb1'
  rw [show (34 : UInt8).toNat = 34 from rfl] at hb1'
  obtain ⟨si, hsi⟩ : ∃ si, s.extract 1 q = si := ⟨_, rfl⟩
  have hsd : si.data.toList = ins s.data.toList := by
    rw [← hsi, extract_str, bytes_str]
    unfold ins
    rw [hlen, if_neg h2, hq]
  have hsl : ∀ w', (Instr.slice 9 (.string s) (some (.int .i64 1)) (some (.int .i64 q)) none).run Tryd.prog w' = .ok (.string si) w' := fun w' => by
    rw [run_slice_string (P := Tryd.prog) w' 9 s .i64 .i64 1 (q : Int) Tryd.underlying9 (by omega) (by omega) (by omega), ← hsi]
    rfl
  have hsn : si.data.toList.length = si.size := by rw [Array.length_toList]; rfl
  have hsz : si.size ≤ 1048576 := by
    have := ins_len s.data.toList
    rw [← hsd] at this
    omega
  have HNO : Hid (rp si.data.toList = none → X = ⟨#[]⟩ ∧ E = 24) := fun h => HBAD.out (.inr (.inr (.inr (by rw [← hsd]; exact h))))
  have HSO : Hid (∀ acc, rp si.data.toList = some acc → (qt acc = s.data.toList → X = str acc ∧ E = 0) ∧ (qt acc ≠ s.data.toList → X = ⟨#[]⟩ ∧ E = 24)) := fun acc h => by
    have h := un_some s.data.toList acc (by rw [← hsd]; exact h)
    refine ⟨fun e => ?_, fun e => ?_⟩
    · rw [← HX.out, ← HE.out, (h.1 e).1, (h.1 e).2]
      exact ⟨rfl, rfl⟩
    · rw [← HX.out, ← HE.out, (h.2 e).1, (h.2 e).2]
      exact ⟨rfl, rfl⟩
  clear HX HE HBAD hlen hq hsd hsi h34 h35
  have hrow0 : w.ownsRow w.heap.size 5 1 (.slice none 0 0) 0 (bc []) := World.ownsRow_nil _ _ _ _
  go_enter Tryd.func19, Tryd.ntmps19
  go_wp2
  clear hb0 hb1' hsl h2
  go_loopw [4, 6, 7, 8] (fun v vi _ _ wr => ∃ (i : Nat) (acc : List UInt8), vi = .int .i64 (i : Int) ∧ i ≤ si.size ∧ Hid (RP si.data.toList i acc) ∧ wr.ownsRow w.heap.size 5 1 v acc.length (bc acc) ∧ Below w.heap.size w wr)
    (fun _ v _ _ _ => si.size - (Lib.intOf v).toNat)
  case atStart => exact ⟨0, [], rfl, Nat.zero_le _, RP.start _, hrow0, Below.refl _ _⟩
  case round =>
    obtain ⟨i, acc, rfl, hiM, HA, hrow, hbel⟩ := hrel
    clear hrow0
    obtain ⟨ao, cp', rfl⟩ := row_slice hrow
    have hal : acc.length ≤ 1048576 := by have := HA.out.2; omega
    have hszr := hbel.size
    by_cases hlt : i < si.size
    · have hby := byte_at si i hlt
      by_cases hb : si.data.toList.getD i 0 = 92
      rotate_left
      · have hn2 : ¬ ((si.data.toList.getD i 0).toNat : Int) = 92 := fun h => hb (UInt8.toNat_inj.1 (by rw [show (92 : UInt8).toNat = 92 from rfl]; omega))
        have hn : (((si.data.toList.getD i 0).toNat : Int) != 92) = true := bne_iff_ne.2 hn2
        have HR := hide (HA.out.plain (by omega) hb)
        clear HA hb HNO HSO hsn
        generalize si.data.toList.getD i 0 = b at *
        go_wp2_with (at_builtin; refine wpList_append_own _ rfl _ _ 78 rfl w.heap.size 5 i0 (.int .u8 0) 1 1 Tryd.underlying78 hi hz0 hz1 hz2 rfl (by decide) _ _ _ rfl (hrow.alloc _) ⟨wr.heap.size, 0, none⟩ 1 1 [.int .u8 (b.toNat : Int)] rfl rfl (cell_one_at _ _ _ _ rfl) (by simp [Value.oneCell']) (by unfold maxLen; omega) (by omega) (by simp; omega) ?_; intro v' w2 hown' hgrow _; obtain ⟨g', cap', rfl⟩ := ownsRow_succ hown')
        go_roundw
        case rel =>
          refine ⟨i + 1, acc ++ [b], by simp, by omega, HR, ?_, (hbel.alloc hszr _).grown hgrow (by simp; omega) (fun j ej => (row_block hrow j ej).1)⟩
          rw [bc_app, List.length_append]
          exact hown'
        case measure =>
          simp [Lib.intOf]
          omega
      · rw [hb] at hby
        rw [show (92 : UInt8).toNat = 92 from rfl] at hby
        by_cases hj : i + 1 < si.size
        rotate_left
        · have hr := HA.out.cut (by omega) hb (by omega)
          obtain ⟨rfl, rfl⟩ := HNO.out hr
          have hj' : (si.size : Int) ≤ (i : Int) + 1 := by omega
          clear hr HNO HSO HA hb hsn hj
          go_wp2
          go_ret2
          exact ⟨rfl, hbel⟩
        · obtain ⟨j, hjj⟩ : ∃ j, i + 1 = j := ⟨_, rfl⟩
          have hji : (i : Int) + 1 = (j : Int) := by omega
          rw [hjj] at hj
          have hbj := byte_at si j hj
          have hjl : ¬ (si.size : Int) ≤ (j : Int) := by omega
          by_cases c1 : si.data.toList.getD j 0 = 34 ∨ si.data.toList.getD j 0 = 92
          · have HR := hide (HA.out.same hb (by omega) (by rw [hjj]; exact c1))
            rw [hjj] at HR
            have hbv : (si.data.toList.getD j 0).toNat = 34 ∨ (si.data.toList.getD j 0).toNat = 92 := by
              rcases c1 with c1 | c1
              · rw [c1]; exact .inl rfl
              · rw [c1]; exact .inr rfl
            clear c1 HA hb HNO HSO hsn hjj
            generalize si.data.toList.getD j 0 = b at *
            rcases hbv with hbv | hbv
            all_goals (
              rw [hbv] at hbj
              have HBV := hide hbv
              clear hbv
              go_wp2_with (at_builtin; refine wpList_append_own _ rfl _ _ 78 rfl w.heap.size 5 i0 (.int .u8 0) 1 1 Tryd.underlying78 hi hz0 hz1 hz2 rfl (by decide) _ _ _ rfl (hrow.alloc _) ⟨wr.heap.size, 0, none⟩ 1 1 [_] rfl rfl (cell_one_at _ _ _ _ rfl) (by simp [Value.oneCell']) (by unfold maxLen; omega) (by omega) (by simp; omega) ?_; intro v' w2 hown' hgrow _; obtain ⟨g', cap', rfl⟩ := ownsRow_succ hown')
              go_roundw
              case rel =>
                refine ⟨j + 1, acc ++ [b], by simp, by omega, HR, ?_, (hbel.alloc hszr _).grown hgrow (by simp; omega) (fun j ej => (row_block hrow j ej).1)⟩
                rw [bc_app, List.length_append, show bc [b] = [.int .u8 (b.toNat : Int)] from rfl, HBV.out]
                exact hown'
              case measure =>
                simp [Lib.intOf]
                omega)
          · by_cases c2 : si.data.toList.getD j 0 = 110
            · have HR := hide (HA.out.line hb (by omega) (by rw [hjj]; exact c2))
              rw [hjj] at HR
              rw [c2] at hbj
              rw [show (110 : UInt8).toNat = 110 from rfl] at hbj
              clear c1 c2 HA hb HNO HSO hsn hjj
              go_wp2_with (at_builtin; refine wpList_append_own _ rfl _ _ 78 rfl w.heap.size 5 i0 (.int .u8 0) 1 1 Tryd.underlying78 hi hz0 hz1 hz2 rfl (by decide) _ _ _ rfl (hrow.alloc _) ⟨wr.heap.size, 0, none⟩ 1 1 [.int .u8 10] rfl rfl (cell_one_at _ _ _ _ rfl) (by simp [Value.oneCell']) (by unfold maxLen; omega) (by omega) (by simp; omega) ?_; intro v' w2 hown' hgrow _; obtain ⟨g', cap', rfl⟩ := ownsRow_succ hown')
              go_roundw
              case rel =>
                refine ⟨j + 1, acc ++ [10], by simp, by omega, HR, ?_, (hbel.alloc hszr _).grown hgrow (by simp; omega) (fun j ej => (row_block hrow j ej).1)⟩
                rw [bc_app, List.length_append]
                exact hown'
              case measure =>
                simp [Lib.intOf]
                omega
            · by_cases c3 : si.data.toList.getD j 0 = 120
              rotate_left
              · have hr := HA.out.other hb (by omega) (by rw [hjj]; exact c1) (by rw [hjj]; exact c2) (by rw [hjj]; exact c3)
                obtain ⟨rfl, rfl⟩ := HNO.out hr
                have n1 : (((si.data.toList.getD j 0).toNat : Int) == 34) = false := beq_eq_false_iff_ne.2 (fun h => c1 (.inl (UInt8.toNat_inj.1 (by rw [show (34 : UInt8).toNat = 34 from rfl]; omega))))
                have n2 : (((si.data.toList.getD j 0).toNat : Int) == 92) = false := beq_eq_false_iff_ne.2 (fun h => c1 (.inr (UInt8.toNat_inj.1 (by rw [show (92 : UInt8).toNat = 92 from rfl]; omega))))
                have n3 : (((si.data.toList.getD j 0).toNat : Int) == 110) = false := beq_eq_false_iff_ne.2 (fun h => c2 (UInt8.toNat_inj.1 (by rw [show (110 : UInt8).toNat = 110 from rfl]; omega)))
                have n4 : (((si.data.toList.getD j 0).toNat : Int) == 120) = false := beq_eq_false_iff_ne.2 (fun h => c3 (UInt8.toNat_inj.1 (by rw [show (120 : UInt8).toNat = 120 from rfl]; omega)))
                clear hr c1 c2 c3 HNO HSO HA hb hsn hjj
                generalize (si.data.toList.getD j 0).toNat = b at *
                go_wp2
                go_ret2
                exact ⟨rfl, hbel⟩
              · have hbj' := hbj
                rw [c3] at hbj'
                rw [show (120 : UInt8).toNat = 120 from rfl] at hbj'
                clear hbj
                by_cases hk : j + 2 < si.size
                rotate_left
                · have hr := HA.out.short hb (by omega) (by rw [hjj]; exact c3) (by omega)
                  obtain ⟨rfl, rfl⟩ := HNO.out hr
                  have hk' : (si.size : Int) ≤ (j : Int) + 2 := by omega
                  clear hr c1 c2 c3 HNO HSO HA hb hsn hjj hk
                  go_wp2
                  go_ret2
                  exact ⟨rfl, hbel⟩
                · obtain ⟨k1, hk1⟩ : ∃ k, j + 1 = k := ⟨_, rfl⟩
                  obtain ⟨k2, hk2⟩ : ∃ k, j + 2 = k := ⟨_, rfl⟩
                  have e1 : (j : Int) + 1 = (k1 : Int) := by omega
                  have e2 : (j : Int) + 2 = (k2 : Int) := by omega
                  have hl1 : k1 < si.size := by omega
                  have hl2 : k2 < si.size := by omega
                  have hd1 := byte_at si k1 hl1
                  have hd2 := byte_at si k2 hl2
                  have hkl : ¬ (si.size : Int) ≤ (k2 : Int) := by omega
                  have hh := refHex_k
                  obtain ⟨r1, r2⟩ := hx_range (si.data.toList.getD k1 0)
                  obtain ⟨r3, r4⟩ := hx_range (si.data.toList.getD k2 0)
                  by_cases hneg : hx (si.data.toList.getD k1 0) < 0 ∨ hx (si.data.toList.getD k2 0) < 0
                  · have hr := HA.out.nohex hb (by rw [hjj]; exact c3) (by omega) (by rw [hjj, hk1, hk2]; exact hneg)
                    obtain ⟨rfl, rfl⟩ := HNO.out hr
                    clear hr c1 c2 c3 HNO HSO HA hb hsn hjj hk hk1 hk2
                    generalize si.data.toList.getD k1 0 = d1 at *
                    generalize si.data.toList.getD k2 0 = d2 at *
                    generalize hx = hf at *
                    have hdrew : ∀ n, Below w.heap.size w (wr.drewN n) := fun n => ⟨hbel.os, hbel.tape, hbel.output, hbel.size, hbel.block⟩
                    by_cases hx1 : hf d1 < 0
                    · clear hneg
                      go_wp2_with fail
                      go_quiet ((go_at_call 40; exact Calls.quiet_of_same ((hh _ _).mono (fun _ _ h => ⟨h.1, h.2.symm⟩))))
                      go_wp2
                      go_ret2
                      exact ⟨rfl, hdrew _⟩
                    · have hx2 : hf d2 < 0 := by omega
                      clear hneg
                      go_wp2_with fail
                      go_quiet ((go_at_call 40; exact Calls.quiet_of_same ((hh _ _).mono (fun _ _ h => ⟨h.1, h.2.symm⟩))))
                      go_wp2
                      go_ret2
                      exact ⟨rfl, hdrew _⟩
                  · have HR := hide (HA.out.hex hb (by rw [hjj]; exact c3) (by omega) (by rw [hjj, hk1, hk2]; exact hneg))
                    rw [hjj, hk1, hk2] at HR
                    have HB := hide (hexbyte (hx (si.data.toList.getD k1 0)) (hx (si.data.toList.getD k2 0)) (by omega) r2 (by omega) r4)
                    clear c1 c2 c3 HNO HSO HA hb hsn hjj hk hk1 hk2
                    generalize si.data.toList.getD k1 0 = d1 at *
                    generalize si.data.toList.getD k2 0 = d2 at *
                    generalize hx = hf at *
                    generalize (16 * hf d1 + hf d2).toNat.toUInt8 = b at *
                    have hdrew : ∀ n, Below w.heap.size w (wr.drewN n) := fun n => ⟨hbel.os, hbel.tape, hbel.output, hbel.size, hbel.block⟩
                    have hrowD : ∀ n, (wr.drewN n).ownsRow w.heap.size 5 1 (.slice ao acc.length cp') acc.length (bc acc) := fun n => hrow
                    have hx1 : ¬ hf d1 < 0 := fun h => hneg (.inl h)
                    have hx2 : ¬ hf d2 < 0 := fun h => hneg (.inr h)
                    obtain ⟨z, hz⟩ : ∃ z : Nat, 16 * hf d1 + hf d2 = (z : Int) := ⟨(16 * hf d1 + hf d2).toNat, by omega⟩
                    have hzl : z < 256 := by omega
                    rw [hz] at HB
                    clear hneg
                    go_wp2_with fail
                    go_quiet ((go_at_call 40; exact Calls.quiet_of_same ((hh _ _).mono (fun _ _ h => ⟨h.1, h.2.symm⟩))))
                    go_wp2_with (at_builtin; refine wpList_append_own _ rfl _ _ 78 rfl w.heap.size 5 i0 (.int .u8 0) 1 1 Tryd.underlying78 hi hz0 hz1 hz2 rfl (by decide) _ _ _ rfl ((hrowD _).alloc _) ⟨wr.heap.size, 0, none⟩ 1 1 [.int .u8 (z : Int)] rfl rfl (cell_one_at _ _ _ _ rfl) (by simp [Value.oneCell']) (by unfold maxLen; omega) (by omega) (by simp; omega) ?_; intro v' w2 hown' hgrow _; obtain ⟨g', cap', rfl⟩ := ownsRow_succ hown')
                    go_roundw
                    case rel =>
                      refine ⟨k2 + 1, acc ++ [b], by simp, by omega, HR, ?_, ((hdrew _).alloc hszr _).grown hgrow (by simp; omega) (fun j ej => (row_block hrow j ej).1)⟩
                      rw [bc_app, List.length_append, show bc [b] = [.int .u8 (b.toNat : Int)] from rfl, HB.out]
                      exact hown'
                    case measure =>
                      simp [Lib.intOf]
                      omega
    · have hr := HA.out.done (by omega)
      have hso := HSO.out acc hr
      have hq := refQuote_k (str acc) (by rw [str_size]; omega)
      rw [bytes_str] at hq
      have hc0 := conv_row hrow
      by_cases he : qt acc = s.data.toList
      · obtain ⟨rfl, rfl⟩ := hso.1 he
        rw [he, str_bytes] at hq
        clear hr hso HNO HSO HA he
        go_wp2_with (go_at_call 21; refine (hq _).mono ?_; clear hq; rintro e w1 ⟨rfl, hb1⟩; have hc1 := conv_row (row_below hrow hb1))
        go_ret2
        exact ⟨rfl, hbel.trans (hb1.mono hszr)⟩
      · obtain ⟨rfl, rfl⟩ := hso.2 he
        have hst : ((str (qt acc)).toList == s.toList) = false := by
          rw [Lib.toList_data, Lib.toList_data, bytes_str]
          simpa using he
        clear hr hso HNO HSO HA he
        go_wp2_with (go_at_call 21; refine (hq _).mono ?_; clear hq; rintro e w1 ⟨rfl, hb1⟩)
        go_ret2
        exact ⟨rfl, hbel.trans (hb1.mono hszr)⟩
end Go.Proofs.YtpbebcefnkbnlabDoor
