/- A value is right in the program's words just if it is in the document's. -/
import Derived.Test.YthmhcpghfbifiaaGreatDoorGFld
namespace Go.Proofs.YthmhcpghfbifiaaGreatDoor

/-- Each part is in its form; n bounds how deep. -/
def formF : Nat → Vl → Bool
  | 0, _ => false
  | n + 1, v => (usedB v && goodB v) && (v.items.all (formF n) && (v.kind != 7 || riseB v.items))
def formV (v : Vl) : Bool := formF v.size v
theorem all_congr {f g : Vl → Bool} : ∀ {l : List Vl}, (∀ x ∈ l, f x = g x) → l.all f = l.all g
  | [], _ => rfl
  | x :: l, h => by rw [List.all_cons, List.all_cons, h x (by simp), all_congr fun y hy => h y (by simp [hy])]
theorem formF_more (n : Nat) : ∀ (m : Nat) (v : Vl), v.size ≤ n → n ≤ m → formF m v = formF n v := by
  induction n with
  | zero =>
    intro m v h _
    have := v.size_pos
    omega
  | succ n ih =>
    intro m v h hm
    cases m with
    | zero => omega
    | succ m =>
      rw [formF, formF, all_congr fun x hx => ih m x (by have := Vl.size_item hx; omega) (by omega)]
theorem formV_eq (v : Vl) : formV v = ((usedB v && goodB v) && (v.items.all formV && (v.kind != 7 || riseB v.items))) := by
  have h0 := v.size_pos
  unfold formV
  obtain ⟨n, hn⟩ : ∃ n, v.size = n + 1 := ⟨v.size - 1, by omega⟩
  rw [hn, formF, all_congr (g := formV) fun x hx => formF_more x.size n x (Nat.le_refl _) (by have := Vl.size_item hx; omega)]
  rfl
/-- At most so many levels. -/
def deepLe : Nat → Vl → Prop
  | 0, _ => False
  | n + 1, v => ∀ x ∈ v.items, deepLe n x
/-- So many parts more than so far. -/
def cntL (f : Vl → Nat → Nat) : List Vl → Nat → Nat
  | [], s => s
  | v :: l, s => if 4096 < f v s then f v s else cntL f l (f v s)
def cnt : Nat → Vl → Nat → Nat
  | 0, _, _ => 4097
  | n + 1, v, s => if 4096 < s + 1 then 4097 else cntL (cnt n) v.items (s + 1)
theorem cntL_is {f : Vl → Nat → Nat} {p : Vl → Prop} : ∀ (l : List Vl) (s : Nat), (∀ v ∈ l, ∀ s, (f v s ≤ 4096 ↔ s + v.size ≤ 4096 ∧ p v) ∧ (f v s ≤ 4096 → f v s = s + v.size)) → s ≤ 4096 →
    (cntL f l s ≤ 4096 ↔ s + (l.map Vl.size).sum ≤ 4096 ∧ ∀ v ∈ l, p v) ∧ (cntL f l s ≤ 4096 → cntL f l s = s + (l.map Vl.size).sum)
  | [], s, _, hs => by simp [cntL, hs]
  | v :: l, s, h, hs => by
    obtain ⟨h1, h2⟩ := h v (by simp) s
    rw [cntL, List.map_cons, List.sum_cons]
    by_cases hc : 4096 < f v s
    · rw [if_pos hc]
      refine ⟨⟨fun e => by omega, fun ⟨e1, e2⟩ => ?_⟩, fun e => by omega⟩
      exact absurd (h1.2 ⟨by omega, e2 v (by simp)⟩) (by omega)
    · rw [if_neg hc]
      have h3 := h2 (by omega)
      have h4 := h1.1 (by omega)
      have ih := cntL_is (f := f) (p := p) l (f v s) (fun x hx => h x (by simp [hx])) (by omega)
      rw [h3] at ih ⊢
      refine ⟨⟨fun e => ?_, fun ⟨e1, e2⟩ => ih.1.2 ⟨by omega, fun x hx => e2 x (by simp [hx])⟩⟩, fun e => by rw [ih.2 e]; omega⟩
      obtain ⟨e1, e2⟩ := ih.1.1 e
      refine ⟨by omega, fun x hx => ?_⟩
      rcases List.mem_cons.1 hx with rfl | hx
      · exact h4.2
      · exact e2 x hx
theorem cnt_is : ∀ (n : Nat) (v : Vl) (s : Nat), (cnt n v s ≤ 4096 ↔ s + v.size ≤ 4096 ∧ deepLe n v) ∧ (cnt n v s ≤ 4096 → cnt n v s = s + v.size)
  | 0, v, s => by simp [cnt, deepLe]
  | n + 1, v, s => by
    have h0 := v.size_pos
    rw [cnt]
    by_cases hc : 4096 < s + 1
    · rw [if_pos hc]
      exact ⟨⟨fun e => by omega, fun e => by omega⟩, fun e => by omega⟩
    · rw [if_neg hc]
      have ih := cntL_is (f := cnt n) (p := deepLe n) v.items (s + 1) (fun x _ s => cnt_is n x s) (by omega)
      rw [Vl.size_eq v]
      refine ⟨⟨fun e => ?_, fun ⟨e1, e2⟩ => ih.1.2 ⟨by omega, e2⟩⟩, fun e => by rw [ih.2 e]; omega⟩
      obtain ⟨e1, e2⟩ := ih.1.1 e
      exact ⟨by omega, e2⟩
theorem rwL_is {f : Vl → Nat → Bool × Nat} {p : Vl → Prop} : ∀ (l : List Vl) (r : Nat), (∀ v ∈ l, ∀ r, ((f v r).1 = true ↔ v.size ≤ r ∧ p v) ∧ ((f v r).1 = true → (f v r).2 = r - v.size)) →
    ((rwL f l r).1 = true ↔ (l.map Vl.size).sum ≤ r ∧ ∀ v ∈ l, p v) ∧ ((rwL f l r).1 = true → (rwL f l r).2 = r - (l.map Vl.size).sum)
  | [], r, _ => by simp [rwL]
  | v :: l, r, h => by
    obtain ⟨h1, h2⟩ := h v (by simp) r
    rw [rwL, List.map_cons, List.sum_cons]
    by_cases hc : (f v r).1 = true
    · rw [if_pos hc]
      have h3 := h2 hc
      have h4 := h1.1 hc
      have ih := rwL_is (f := f) (p := p) l (f v r).2 (fun x hx => h x (by simp [hx]))
      rw [h3] at ih ⊢
      refine ⟨⟨fun e => ?_, fun ⟨e1, e2⟩ => ih.1.2 ⟨by omega, fun x hx => e2 x (by simp [hx])⟩⟩, fun e => by rw [ih.2 e]; omega⟩
      obtain ⟨e1, e2⟩ := ih.1.1 e
      refine ⟨by omega, fun x hx => ?_⟩
      rcases List.mem_cons.1 hx with rfl | hx
      · exact h4.2
      · exact e2 x hx
    · rw [if_neg hc]
      refine ⟨⟨fun e => (by cases e), fun ⟨e1, e2⟩ => ?_⟩, fun e => (by cases e)⟩
      exact absurd (h1.2 ⟨by omega, e2 v (by simp)⟩) hc
theorem rw_is : ∀ (n : Nat) (v : Vl) (r : Nat), ((rw n v r).1 = true ↔ v.size ≤ r ∧ (deepLe n v ∧ formV v = true)) ∧ ((rw n v r).1 = true → (rw n v r).2 = r - v.size)
  | 0, v, r => by simp [rw, deepLe]
  | n + 1, v, r => by
    have h0 := v.size_pos
    have hf := formV_eq v
    by_cases hr : r = 0
    · subst hr
      rw [rw_room]
      exact ⟨⟨fun e => (by cases e), fun e => by omega⟩, fun e => (by cases e)⟩
    · by_cases hug : usedB v = true ∧ goodB v = true
      · have ih := rwL_is (f := rw n) (p := fun x => deepLe n x ∧ formV x = true) v.items (r - 1) (fun x _ s => rw_is n x s)
        rw [hug.1, hug.2, Bool.and_self, Bool.true_and] at hf
        obtain ⟨b, r', hp⟩ : ∃ b r', rwL (rw n) v.items (r - 1) = (b, r') := ⟨_, _, rfl⟩
        rw [hp] at ih
        cases b
        · rw [rw_no n v r (by omega) hug hp]
          refine ⟨⟨fun e => (by cases e), fun ⟨e1, e2, e3⟩ => ?_⟩, fun e => (by cases e)⟩
          rw [hf, Bool.and_eq_true] at e3
          rw [Vl.size_eq v] at e1
          exact absurd (ih.1.2 ⟨by omega, fun x hx => ⟨e2 x hx, List.all_eq_true.1 e3.1 x hx⟩⟩) (by simp)
        · rw [rw_yes n v r (by omega) hug hp]
          obtain ⟨e1, e2⟩ := ih.1.1 rfl
          have e3 : r' = _ := ih.2 rfl
          have hall : v.items.all formV = true := List.all_eq_true.2 fun x hx => (e2 x hx).2
          rw [hf, hall, Bool.true_and, Vl.size_eq v]
          exact ⟨⟨fun e => ⟨by omega, fun x hx => (e2 x hx).1, e⟩, fun e => e.2.2⟩, fun _ => by show r' = _; omega⟩
      · rw [rw_bad n v r (by omega) hug]
        have : (usedB v && goodB v) = false := by
          cases h : (usedB v && goodB v)
          · rfl
          · exact absurd (by simpa using h) hug
        rw [hf, this, Bool.false_and]
        exact ⟨⟨fun e => (by cases e), fun e => (by cases e.2.2)⟩, fun e => (by cases e)⟩
theorem right_doc (v : Vl) : (decide (cnt 16 v 0 ≤ 4096) && formV v) = rightV v := by
  have h1 := (cnt_is 16 v 0).1
  have h2 := (rw_is 16 v 4096).1
  unfold rightV
  rw [Bool.eq_iff_iff, Bool.and_eq_true, decide_eq_true_eq, h1, h2]
  rw [Nat.zero_add]
  exact ⟨fun ⟨⟨a, b⟩, c⟩ => ⟨a, b, c⟩, fun ⟨a, b, c⟩ => ⟨⟨a, b⟩, c⟩⟩
end Go.Proofs.YthmhcpghfbifiaaGreatDoor

/- The document's order of two values is the program's. -/
namespace Go.Proofs.YthmhcpghfbifiaaGreatDoor
open Go.RowKit

def sg (x y : Bool) : Int := if x then -1 else if y then 1 else 0
theorem sg_cmpI (a b : Int) : sg (decide (a < b)) (decide (b < a)) = cmpI a b := by simp [sg, cmpI]
theorem sg_cmpS (a b : ByteArray) : sg (Op.bytesLess a.toList b.toList) (!(Op.bytesLess a.toList b.toList || a.toList == b.toList)) = cmpS a b := by simp [sg, cmpS]
theorem sg_len (n m : Nat) : sg (decide (n < m)) (decide (m < n)) = cmpI n m := by simp [sg, cmpI]
theorem cmpI_ne {a b : Int} (h : a ≠ b) : cmpI a b ≠ 0 := by unfold cmpI; split <;> (try split) <;> omega
theorem cmpI_self (a : Int) : cmpI a a = 0 := by unfold cmpI; rw [if_neg (by omega), if_neg (by omega)]
theorem less_self : ∀ l : List UInt8, Op.bytesLess l l = false
  | [] => rfl
  | a :: l => by rw [Op.bytesLess, less_self l]; simp
theorem cmpS_eq {a b : ByteArray} (h : (a.toList == b.toList) = true) : cmpS a b = 0 := by
  have e : a.toList = b.toList := by simpa using h
  unfold cmpS
  rw [e, less_self]
  simp
theorem cmpS_ne {a b : ByteArray} (h : (a.toList == b.toList) = false) : cmpS a b ≠ 0 := by
  unfold cmpS
  rw [h]
  cases Op.bytesLess a.toList b.toList <;> simp
theorem orI_cons (x : Int) (l : List Int) : orI (x :: l) = if x = 0 then orI l else x := rfl
end Go.Proofs.YthmhcpghfbifiaaGreatDoor
