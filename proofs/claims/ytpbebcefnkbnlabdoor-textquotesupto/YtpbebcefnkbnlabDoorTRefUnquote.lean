/- The document's reading of what is quoted. -/
import Derived.Test.YtpbebcefnkbnlabDoorTRefQuote
import Derived.Deep.QuietTactic
import Derived.BigQuiet
namespace Go.Proofs.YtpbebcefnkbnlabDoor
open Go.RowKit

theorem idx_dig64 (n : Nat) (hn : n < 16) (w : World) : (Instr.index 9 (.string ⟨#[48, 49, 50, 51, 52, 53, 54, 55, 56, 57, 97, 98, 99, 100, 101, 102]⟩) (.int .i64 (n : Int))).run Tryd.prog w = .ok (.int .u8 ((hexd n).toNat : Int)) w := by
  have h1 : (n : Int) < 16 := by omega
  simp [go_sem, h1]
  have h : n = 0 ∨ n = 1 ∨ n = 2 ∨ n = 3 ∨ n = 4 ∨ n = 5 ∨ n = 6 ∨ n = 7 ∨ n = 8 ∨ n = 9 ∨ n = 10 ∨ n = 11 ∨ n = 12 ∨ n = 13 ∨ n = 14 ∨ n = 15 := by omega
  rcases h with rfl | rfl | rfl | rfl | rfl | rfl | rfl | rfl | rfl | rfl | rfl | rfl | rfl | rfl | rfl | rfl
  all_goals rfl
theorem hexd_val : ∀ n, n < 16 → (hexd n).toNat = if n < 10 then 48 + n else 87 + n := by decide
theorem hx_none (c : UInt8) (h : ∀ n, n < 16 → hexd n ≠ c) : hx c = -1 := by
  unfold hx
  by_cases h1 : 48 ≤ c.toNat ∧ c.toNat ≤ 57
  · exfalso
    refine h (c.toNat - 48) (by omega) (UInt8.toNat_inj.1 ?_)
    rw [hexd_val _ (by omega), if_pos (by omega)]
    omega
  · rw [if_neg h1]
    by_cases h2 : 97 ≤ c.toNat ∧ c.toNat ≤ 102
    · exfalso
      refine h (c.toNat - 87) (by omega) (UInt8.toNat_inj.1 ?_)
      rw [hexd_val _ (by omega), if_neg (by omega)]
      omega
    · rw [if_neg h2]
theorem hx_range (c : UInt8) : -1 ≤ hx c ∧ hx c < 16 := by
  unfold hx
  split
  · omega
  · split <;> omega

set_option maxRecDepth 100000 in
set_option maxHeartbeats 2000000 in
theorem refHex_k (c : UInt8) (w : World) :
    Calls Tryd.prog 40 #[.int .u8 (c.toNat : Int)] w fun e w' => e = .returned (.int .i64 (hx c)) ∧ w = w' := by
  go_enter Tryd.func40, Tryd.ntmps40
  go_wp2
  go_loopw [3] (fun vi wr => ∃ i : Nat, vi = .int .i64 (i : Int) ∧ i ≤ 16 ∧ Hid (∀ n, n < i → hexd n ≠ c) ∧ wr = w) (fun v _ => 16 - (Lib.intOf v).toNat)
  case atStart => exact ⟨0, rfl, by omega, fun n h => by omega, rfl⟩
  case round =>
    obtain ⟨i, rfl, hi, HN, rfl⟩ := hrel
    by_cases hlt : i < 16
    · have hix := idx_dig64 i hlt
      by_cases he : hexd i = c
      · have hh := hx_hexd i hlt
        rw [he] at hh hix
        have HH := hide hh
        clear HN he hh
        go_wp2
        go_ret
        rw [HH.out]
        exact ⟨rfl, rfl⟩
      · have hne : (((hexd i).toNat : Int) == (c.toNat : Int)) = false := beq_eq_false_iff_ne.2 (fun h => he (UInt8.toNat_inj.1 (by omega)))
        have HE := hide he
        clear he
        generalize (hexd i).toNat = hd at *
        go_wp2
        go_roundw
        case rel =>
          refine ⟨i + 1, by simp, by omega, ?_, trivial⟩
          intro n hn
          by_cases e : n = i
          · rw [e]; exact HE.out
          · exact HN.out n (by omega)
        case measure =>
          simp [Lib.intOf]
          omega
    · have hi16 : i = 16 := by omega
      have hh := hx_none c (by rw [← hi16]; exact HN.out)
      have HH := hide hh
      clear HN hh
      go_wp2
      go_ret
      rw [HH.out]
      exact ⟨rfl, rfl⟩

theorem conv_row {w2 : World} {base : Nat} {v : Value} {acc : List UInt8} (h : w2.ownsRow base 5 1 v acc.length (bc acc)) :
    (convert 78 9 v).run Tryd.prog w2 = .ok (.string (str acc)) w2 := by
  rcases h.2 with ⟨e, h0⟩ | ⟨g, cap, cur, e, _⟩
  · subst e
    have ha : acc = [] := List.eq_nil_of_length_eq_zero h0
    subst ha
    rw [run_convert_bytes_string w2 78 9 5 none 0 0 Tryd.underlying78 Tryd.underlying5 Tryd.underlying9]
    rfl
  · subst e
    exact run_convert_bytes_back w2 78 9 5 ⟨g, 0, none⟩ cap acc Tryd.underlying78 Tryd.underlying5 Tryd.underlying9 (fun j hj => by
      rw [Addr.add_lit, Nat.zero_add]
      exact rowCell h j _ (bc_get _ j hj))

theorem qt_shape (x : List UInt8) : 2 ≤ (qt x).length ∧ (qt x).getD 0 0 = 34 ∧ (qt x).getD ((qt x).length - 1) 0 = 34 := by
  rw [qt_fl]
  refine ⟨by simp, by simp, ?_⟩
  simp
/-- Texts that nothing is quoted as. -/
theorem un_bad (t : List UInt8) (h : t.length < 2 ∨ t.getD 0 0 ≠ 34 ∨ t.getD (t.length - 1) 0 ≠ 34 ∨ rp (ins t) = none) : unT t = [] ∧ unE t = 24 := by
  refine un_no t fun x e => ?_
  obtain ⟨h1, h2, h3⟩ := qt_shape x
  have h4 : rp (ins t) = some x := by rw [← e, ins_qt, rp_fl]
  rw [e] at h1 h2 h3
  rcases h with h | h | h | h
  · omega
  · exact h h2
  · exact h h3
  · rw [h] at h4; cases h4
theorem un_some (t acc : List UInt8) (h : rp (ins t) = some acc) : (qt acc = t → unT t = acc ∧ unE t = 0) ∧ (qt acc ≠ t → unT t = [] ∧ unE t = 24) := by
  refine ⟨fun e => ?_, fun hne => un_no t fun x e => ?_⟩
  · rw [← e]
    exact un_qt acc
  · have h4 : rp (ins t) = some x := by rw [← e, ins_qt, rp_fl]
    rw [h] at h4
    cases h4
    exact hne e
end Go.Proofs.YtpbebcefnkbnlabDoor
