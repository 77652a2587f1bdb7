/- The document's lines; and that lines put together again are the text. -/
import Derived.Test.YtpbebcefnkbnlabDoorTAliveWalk
namespace Go.Proofs.YtpbebcefnkbnlabDoor
open Go.RowKit

def lineVals (x : List (List UInt8)) : List Value := x.map fun c => .string (str c)
theorem lineVals_snoc (x : List (List UInt8)) (c : List UInt8) : lineVals (x ++ [c]) = lineVals x ++ [.string (str c)] := by simp [lineVals]

theorem drop_byte (s : ByteArray) (k : Nat) (h : k < s.size) : s.data.toList.drop k = s.data.toList.getD k 0 :: s.data.toList.drop (k + 1) := by
  have h' : k < s.data.toList.length := by rw [Array.length_toList]; exact h
  rw [List.drop_eq_getElem_cons h', List.getD_eq_getElem?_getD, List.getElem?_eq_getElem h']
  rfl
theorem take_more (l : List UInt8) (b k : Nat) (hb : b ≤ k) (hk : k < l.length) : (l.drop b).take (k - b) ++ [l.getD k 0] = (l.drop b).take (k + 1 - b) := by
  have e : k + 1 - b = (k - b) + 1 := by omega
  rw [e, List.take_add_one, List.getElem?_drop]
  have e2 : b + (k - b) = k := by omega
  rw [e2, List.getD_eq_getElem?_getD, List.getElem?_eq_getElem hk]
  rfl

set_option maxRecDepth 100000 in
set_option maxHeartbeats 2000000 in
theorem refLines_k (s : ByteArray) (hs : s.size ≤ 1048576) (w : World) :
    Calls Tryd.prog 28 #[.string s] w fun e w' => ∃ v, e = .returned v ∧ w'.ownsRow w.heap.size 9 1 v (lns [] s.data.toList).length (lineVals (lns [] s.data.toList)) ∧ Below w.heap.size w w' := by
  obtain ⟨i1, hi1, h10, h11, h12⟩ := info_parts infoString
  have hlen : s.data.toList.length = s.size := by rw [Array.length_toList]; rfl
  go_enter Tryd.func28, Tryd.ntmps28
  go_wp2
  go_loopw [3, 4, 5] (fun v vf vi wr => ∃ (b k : Nat) (pre : List (List UInt8)), vf = .int .i64 (b : Int) ∧ vi = .int .i64 (k : Int) ∧ b ≤ k ∧ k ≤ s.size ∧ pre.length ≤ k ∧ lns [] s.data.toList = pre ++ lns ((s.data.toList.drop b).take (k - b)) (s.data.toList.drop k) ∧ wr.ownsRow w.heap.size 9 1 v pre.length (lineVals pre) ∧ Below w.heap.size w wr)
    (fun _ _ v _ => s.size - (Lib.intOf v).toNat)
  case atStart => exact ⟨0, 0, [], rfl, rfl, Nat.le_refl _, Nat.zero_le _, Nat.le_refl _, by simp, World.ownsRow_nil _ _ _ _, Below.refl _ _⟩
  case round =>
    obtain ⟨b, k, pre, rfl, rfl, hbk, hk, hpk, hlns, hrow, hbel⟩ := hrel
    obtain ⟨ao, cp, rfl⟩ := row_slice hrow
    by_cases hlt : k < s.size
    · have hby := byte_at s k hlt
      rw [drop_byte s k hlt, lns] at hlns
      have htm := take_more s.data.toList b k hbk (by omega)
      by_cases h10' : s.data.toList.getD k 0 = 10
      · rw [if_pos h10'] at hlns
        rw [h10'] at hby
        have hby' : (s[k]'hlt).toNat = 10 := hby
        have hex := extract_str s b k
        clear htm hby
        go_wp2_with (at_builtin; refine wpList_append_own _ rfl _ _ 52 rfl w.heap.size 9 i1 (.string ⟨#[]⟩) 1 16 Tryd.underlying52 hi1 h10 h11 h12 rfl (by decide) _ _ _ rfl (hrow.alloc _) ⟨wr.heap.size, 0, none⟩ 1 1 [.string (str ((s.data.toList.drop b).take (k - b)))] rfl rfl (cell_one_at _ _ _ _ rfl) (by simp [Value.oneCell']) (by unfold maxLen; omega) (by omega) (by have := hbel.size; simp; omega) ?_; intro v' w2 hown' hgrow _; obtain ⟨g', cap', rfl⟩ := ownsRow_succ hown')
        go_roundw
        case rel =>
          refine ⟨k + 1, k + 1, pre ++ [(s.data.toList.drop b).take (k - b)], by simp, by simp, Nat.le_refl _, by omega, by simp; omega, ?_, ?_, (hbel.alloc hbel.size _).grown hgrow (by have := hbel.size; simp; omega) (fun j ej => (row_block hrow j ej).1)⟩
          · rw [hlns]
            simp
          · rw [lineVals_snoc, List.length_append]
            exact hown'
        case measure =>
          simp [Lib.intOf]
          omega
      · rw [if_neg h10', htm] at hlns
        have hne : ¬ (s[k]'hlt).toNat = 10 := by
          rw [hby]
          exact fun e => h10' (UInt8.toNat_inj.1 (by rw [e]; rfl))
        have hne' : (((s[k]'hlt).toNat : Int) == 10) = false := by simp; omega
        clear htm hby
        go_wp2
        go_roundw
        case rel => exact ⟨b, k + 1, pre, rfl, by simp, by omega, by omega, by omega, hlns, hrow, hbel⟩
        case measure =>
          simp [Lib.intOf]
          omega
    · have hke : k = s.size := by omega
      rw [drop_end s k hlt, lns] at hlns
      by_cases hb : b < s.size
      · have hne : (s.data.toList.drop b).take (k - b) ≠ [] := by
          intro e
          have := congrArg List.length e
          rw [List.length_take, List.length_drop, hlen] at this
          simp at this
          omega
        rw [if_neg hne] at hlns
        have hex := extract_str s b s.size
        rw [← hke] at hex
        subst hke
        go_wp2_with (at_builtin; refine wpList_append_own _ rfl _ _ 52 rfl w.heap.size 9 i1 (.string ⟨#[]⟩) 1 16 Tryd.underlying52 hi1 h10 h11 h12 rfl (by decide) _ _ _ rfl (hrow.alloc _) ⟨wr.heap.size, 0, none⟩ 1 1 [.string (str ((s.data.toList.drop b).take (s.size - b)))] rfl rfl (cell_one_at _ _ _ _ rfl) (by simp [Value.oneCell']) (by unfold maxLen; omega) (by omega) (by have := hbel.size; simp; omega) ?_; intro v' w2 hown' hgrow _; obtain ⟨g', cap', rfl⟩ := ownsRow_succ hown')
        go_ret
        rw [hlns, lineVals_snoc, List.length_append]
        exact ⟨_, rfl, hown', (hbel.alloc hbel.size _).grown hgrow (by have := hbel.size; simp; omega) (fun j ej => (row_block hrow j ej).1)⟩
      · have he : (s.data.toList.drop b).take (k - b) = [] := by
          have : k - b = 0 := by omega
          rw [this]
          rfl
        rw [if_pos he, List.append_nil] at hlns
        go_wp2
        go_ret
        rw [hlns]
        exact ⟨_, rfl, hrow, hbel⟩

def joinL (x : List (List UInt8)) : List UInt8 := x.flatMap fun c => c ++ [10]
def fin10 : List UInt8 → List UInt8
  | [] => []
  | [b] => if b = 10 then [10] else [b, 10]
  | b :: c :: t => b :: fin10 (c :: t)
theorem join_lns : ∀ (l cur : List UInt8), l ≠ [] → joinL (lns cur l) = cur ++ fin10 l
  | [], _, h => absurd rfl h
  | [b], cur, _ => by
    by_cases h : b = 10
    · subst h
      simp [lns, joinL, fin10]
    · simp [lns, joinL, fin10, h]
  | b :: c :: t, cur, _ => by
    have ih := fun cur => join_lns (c :: t) cur (by simp)
    by_cases h : b = 10
    · subst h
      have e : lns cur (10 :: c :: t) = cur :: lns [] (c :: t) := by rw [lns, if_pos rfl]
      rw [e]
      have := ih []
      simp only [joinL] at this ⊢
      rw [List.flatMap_cons, this]
      simp [fin10]
    · have e : lns cur (b :: c :: t) = lns (cur ++ [b]) (c :: t) := by rw [lns, if_neg h]
      rw [e, ih]
      simp [fin10]
theorem fin10_last : ∀ l : List UInt8, l ≠ [] → fin10 l = if l.getD (l.length - 1) 0 = 10 then l else l ++ [10]
  | [], h => absurd rfl h
  | [b], _ => by
    by_cases h : b = 10
    · subst h
      rfl
    · simp [fin10, h]
  | b :: c :: t, _ => by
    have ih := fin10_last (c :: t) (by simp)
    have e : (b :: c :: t).getD ((b :: c :: t).length - 1) 0 = (c :: t).getD ((c :: t).length - 1) 0 := by simp
    rw [e, fin10, ih]
    split <;> simp
end Go.Proofs.YtpbebcefnkbnlabDoor
