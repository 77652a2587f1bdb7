/- The document's runes: one, by the table of UTF-8. -/
import Derived.Test.YthmhcpghfbifiaaGreatDoorGQuote
import Derived.BigRegion
import Derived.Deep.RegionHeld3
import Derived.Deep.QuietTactic
import Derived.BigQuiet
namespace Go.Proofs.YthmhcpghfbifiaaGreatDoor
open Go.RowKit

/-- The byte at a place, as a number. -/
def bt (s : ByteArray) (j : Nat) : Nat := (s.data.toList.getD j 0).toNat
theorem bt_lt (s : ByteArray) (j : Nat) : bt s j < 256 := UInt8.toNat_lt _
theorem bt_get (s : ByteArray) (j : Nat) (h : j < s.size) : (s[j]'h).toNat = bt s j := byte_at s j h
theorem bt_drop (s : ByteArray) (i j : Nat) : ((s.data.toList.drop i).getD j 0).toNat = bt s (i + j) := by
  unfold bt
  rw [List.getD_eq_getElem?_getD, List.getElem?_drop, ← List.getD_eq_getElem?_getD]

/-- Is there a byte from lo to hi? -/
def cB (s : ByteArray) (j lo hi : Nat) : Bool := decide (j < s.size ∧ lo ≤ bt s j ∧ bt s j ≤ hi)

end Go.Proofs.YthmhcpghfbifiaaGreatDoor

/- The document's one rune at a place: the text's own. -/
namespace Go.Proofs.YthmhcpghfbifiaaGreatDoor
open Go.RowKit

/-- What is known of the four bytes at a place. -/
theorem one_dec (s : ByteArray) (i : Nat) : Lib.decodeL (s.data.toList.drop i) = Lib.decodeN (s.size - i) (bt s i) (bt s (i + 1)) (bt s (i + 2)) (bt s (i + 3)) := by
  rw [Lib.decodeL_N, bt_drop, bt_drop, bt_drop, bt_drop, List.length_drop, Array.length_toList]
  rfl
theorem one_rv {s : ByteArray} {i r k : Nat} (h : Lib.decodeN (s.size - i) (bt s i) (bt s (i + 1)) (bt s (i + 2)) (bt s (i + 3)) = (r, k)) (hn : ¬ (r = 65533 ∧ k = 1)) : rv (s.data.toList.drop i) = (r : Int) ∧ wd (s.data.toList.drop i) = k := by
  unfold rv wd
  rw [one_dec, h]
  exact ⟨if_neg hn, rfl⟩
theorem one_bad {s : ByteArray} {i : Nat} (h : Lib.decodeN (s.size - i) (bt s i) (bt s (i + 1)) (bt s (i + 2)) (bt s (i + 3)) = (65533, 1)) : rv (s.data.toList.drop i) = -1 ∧ wd (s.data.toList.drop i) = 1 := by
  unfold rv wd
  rw [one_dec, h]
  exact ⟨rfl, rfl⟩
theorem cB_yes {s : ByteArray} {j lo hi : Nat} (h : cB s j lo hi = true) : j < s.size ∧ lo ≤ bt s j ∧ bt s j ≤ hi := of_decide_eq_true h
theorem cB_no {s : ByteArray} {j lo hi : Nat} (h : cB s j lo hi = false) : ¬ (j < s.size ∧ lo ≤ bt s j ∧ bt s j ≤ hi) := of_decide_eq_false h

theorem one_1 {s : ByteArray} {i : Nat} (h : bt s i < 128) : rv (s.data.toList.drop i) = (bt s i : Int) ∧ wd (s.data.toList.drop i) = 1 :=
  one_rv (Lib.decodeN_ascii _ _ _ _ _ h) (by omega)
theorem one_2 {s : ByteArray} {i : Nat} (h0 : 194 ≤ bt s i) (h1 : bt s i ≤ 223) (hc : cB s (i + 1) 128 191 = true) : rv (s.data.toList.drop i) = ((bt s i % 32 * 64 + bt s (i + 1) % 64 : Nat) : Int) ∧ wd (s.data.toList.drop i) = 2 := by
  obtain ⟨c1, c2, c3⟩ := cB_yes hc
  refine one_rv ?_ (by omega)
  unfold Lib.decodeN
  rw [if_neg (by omega), if_pos ⟨by omega, by omega, by omega⟩, if_pos (by omega)]
theorem one_3 {s : ByteArray} {i lo hi : Nat} (h0 : 224 ≤ bt s i) (h1 : bt s i ≤ 239) (hlo : lo = if bt s i = 224 then 160 else 128) (hhi : hi = if bt s i = 237 then 159 else 191) (hc : cB s (i + 1) lo hi = true) (hd : cB s (i + 2) 128 191 = true) :
    rv (s.data.toList.drop i) = ((bt s i % 16 * 4096 + bt s (i + 1) % 64 * 64 + bt s (i + 2) % 64 : Nat) : Int) ∧ wd (s.data.toList.drop i) = 3 := by
  obtain ⟨c1, c2, c3⟩ := cB_yes hc
  obtain ⟨d1, d2, d3⟩ := cB_yes hd
  refine one_rv ?_ (by omega)
  unfold Lib.decodeN
  split at hlo
  all_goals split at hhi
  all_goals rw [if_neg (by omega), if_neg (by omega), if_pos ⟨by omega, ⟨by omega, by omega⟩, ⟨by omega, by omega⟩⟩, if_pos (by omega)]
theorem one_4 {s : ByteArray} {i lo hi : Nat} (h0 : 240 ≤ bt s i) (h1 : bt s i ≤ 244) (hlo : lo = if bt s i = 240 then 144 else 128) (hhi : hi = if bt s i = 244 then 143 else 191) (hc : cB s (i + 1) lo hi = true) (hd : cB s (i + 2) 128 191 = true) (he : cB s (i + 3) 128 191 = true) :
    rv (s.data.toList.drop i) = ((bt s i % 8 * 262144 + bt s (i + 1) % 64 * 4096 + bt s (i + 2) % 64 * 64 + bt s (i + 3) % 64 : Nat) : Int) ∧ wd (s.data.toList.drop i) = 4 := by
  obtain ⟨c1, c2, c3⟩ := cB_yes hc
  obtain ⟨d1, d2, d3⟩ := cB_yes hd
  obtain ⟨e1, e2, e3⟩ := cB_yes he
  refine one_rv ?_ (by omega)
  unfold Lib.decodeN
  split at hlo
  all_goals split at hhi
  all_goals rw [if_neg (by omega), if_neg (by omega), if_neg (by omega), if_pos ⟨by omega, ⟨by omega, by omega⟩, ⟨by omega, by omega⟩, ⟨by omega, by omega⟩⟩, if_pos (by omega)]
/-- None of the four. -/
theorem one_0 {s : ByteArray} {i : Nat} (h1 : ¬ bt s i < 128) (h2 : ¬ (194 ≤ bt s i ∧ bt s i ≤ 223 ∧ cB s (i + 1) 128 191 = true))
    (h3 : ¬ (224 ≤ bt s i ∧ bt s i ≤ 239 ∧ cB s (i + 1) (if bt s i = 224 then 160 else 128) (if bt s i = 237 then 159 else 191) = true ∧ cB s (i + 2) 128 191 = true))
    (h4 : ¬ (240 ≤ bt s i ∧ bt s i ≤ 244 ∧ cB s (i + 1) (if bt s i = 240 then 144 else 128) (if bt s i = 244 then 143 else 191) = true ∧ cB s (i + 2) 128 191 = true ∧ cB s (i + 3) 128 191 = true)) :
    rv (s.data.toList.drop i) = -1 ∧ wd (s.data.toList.drop i) = 1 := by
  have k0 := bt_lt s i
  have k1 := bt_lt s (i + 1)
  have k2 := bt_lt s (i + 2)
  have k3 := bt_lt s (i + 3)
  simp only [cB, decide_eq_true_eq] at h2 h3 h4
  refine one_bad ?_
  rcases Lib.decodeN_shape (s.size - i) (bt s i) (bt s (i + 1)) (bt s (i + 2)) (bt s (i + 3)) with ⟨c, e⟩ | ⟨c1, c2, c3, cv, e⟩ | ⟨c1, c2, c3, c4, cv, cs, e⟩ | ⟨c1, c2, c3, c4, c5, cv, cw, e⟩ | e
  · omega
  · exfalso
    exact h2 ⟨by omega, by omega, by omega, by omega, by omega⟩
  · exfalso
    refine h3 ⟨by omega, by omega, ⟨by omega, ?_, ?_⟩, by omega, by omega, by omega⟩
    · split <;> omega
    · split <;> omega
  · exfalso
    refine h4 ⟨by omega, by omega, ⟨by omega, ?_, ?_⟩, ⟨by omega, by omega, by omega⟩, by omega, by omega, by omega⟩
    · split <;> omega
    · split <;> omega
  · exact e

/-! ### bits -/
theorem mask5 (x : Nat) (hx : x < 256) : bits .and .u8 (x : Int) 31 = ((x % 32 : Nat) : Int) := by
  have h := u8_and_nat x 31 hx (by decide)
  rw [nat_mask5] at h
  exact h
theorem mask4 (x : Nat) (hx : x < 256) : bits .and .u8 (x : Int) 15 = ((x % 16 : Nat) : Int) := and15 x hx
theorem mask3 (x : Nat) (hx : x < 256) : bits .and .u8 (x : Int) 7 = ((x % 8 : Nat) : Int) := by
  have h := u8_and_nat x 7 hx (by decide)
  rw [nat_mask3] at h
  exact h
theorem mask6 (x : Nat) (hx : x < 256) : bits .and .u8 (x : Int) 63 = ((x % 64 : Nat) : Int) := by
  have h := u8_and_nat x 63 hx (by decide)
  rw [nat_mask6] at h
  exact h
theorem i64_or (k : Nat) (a b : Nat) (ha : a < 1048576) (hb : b < 2 ^ k) (hk : k ≤ 18) : bits .or .i64 ((a : Int) * (2 ^ k : Nat)) (b : Int) = (a : Int) * (2 ^ k : Nat) + b := by
  have h1 : (2 : Nat) ^ k ≤ 2 ^ 18 := Nat.pow_le_pow_right (by decide) hk
  have h2 : a * 2 ^ k ≤ 1048576 * 2 ^ 18 := Nat.mul_le_mul (by omega) h1
  have h := (bits_nat .i64 62 (by decide) (fun n h0 h1 => by rw [IntKind.wrap_i64]; omega) (a * 2 ^ k) b (by omega) (by omega)).2
  have e : a * 2 ^ k ||| b = a * 2 ^ k + b := by
    rw [Nat.mul_comm, ← Nat.two_pow_add_eq_or_of_lt hb]
  rw [e] at h
  push_cast at h ⊢
  exact h
end Go.Proofs.YthmhcpghfbifiaaGreatDoor

/- What the document's one answers: the rune at a place, the place, how many bytes. -/
namespace Go.Proofs.YthmhcpghfbifiaaGreatDoor
open Go.RowKit

theorem below_one (w : World) (o : Obj) : Below w.heap.size w (w.alloc o).drew := ((Below.refl _ w).alloc (Nat.le_refl _) o).trans ⟨rfl, rfl, rfl, by simp [World.drew], fun _ _ => rfl⟩
def oneV (r : Int) (i k : Nat) : Value := .agg #[.int .i64 r, .int .i64 i, .int .i64 k]
end Go.Proofs.YthmhcpghfbifiaaGreatDoor

/- The document's one, where nothing right begins; and so everywhere. -/
namespace Go.Proofs.YthmhcpghfbifiaaGreatDoor
open Go.RowKit

end Go.Proofs.YthmhcpghfbifiaaGreatDoor

/- The document's runes of a text, and how many. -/
namespace Go.Proofs.YthmhcpghfbifiaaGreatDoor
open Go.RowKit

def rsT : Nat → List (Int × Nat) → List (Int × Nat × Nat)
  | _, [] => []
  | off, (r, k) :: t => (r, off, k) :: rsT (off + k) t
/-- A text's runes: each with where it begins and how many bytes it has. -/
def rs (l : List UInt8) : List (Int × Nat × Nat) := rsT 0 (ru l)
theorem rsT_length : ∀ (off : Nat) (t : List (Int × Nat)), (rsT off t).length = t.length
  | _, [] => rfl
  | off, (r, k) :: t => by rw [rsT, List.length_cons, List.length_cons, rsT_length]
theorem rs_length (l : List UInt8) : (rs l).length = (ru l).length := rsT_length _ _
def rsCells (x : List (Int × Nat × Nat)) : List Value := x.flatMap fun y => [.int .i64 y.1, .int .i64 y.2.1, .int .i64 y.2.2]
theorem rsCells_snoc (x : List (Int × Nat × Nat)) (y : Int × Nat × Nat) : rsCells (x ++ [y]) = rsCells x ++ [.int .i64 y.1, .int .i64 y.2.1, .int .i64 y.2.2] := by simp [rsCells]
theorem cell_three_at (w : World) (x y z : Value) (t : TypeId) (N : Nat) (hN : N = w.heap.size) : ∀ j v, [x, y, z][j]? = some v → (w.alloc (.cells #[x, y, z] t)).cell? ((⟨N, 0, none⟩ : Addr).add j) = some v := by
  subst hN
  intro j v hj
  match j, hj with
  | 0, hj => simp at hj; subst hj; simp [Addr.add]
  | 1, hj => simp at hj; subst hj; simp [Addr.add]
  | 2, hj => simp at hj; subst hj; simp [Addr.add]

theorem kept_new {w1 w2 : World} {row : Option Nat} {c : Array Value} {t : TypeId} {o2 : Obj} (hg : ((w1.alloc (.cells c t)).alloc o2).grownBy w2 row) (hr : ∀ k, row = some k → k < w1.heap.size) (j : Nat) (u : Value) (hj : c[j]? = some u) : w2.cell? ⟨w1.heap.size, j, none⟩ = some u := by
  have e : w2.heap[w1.heap.size]? = some (.cells c t (0, 0)) := by
    rw [hg.block _ (by simp; omega) (fun e => by have := hr _ e.symm; omega), Below.heap_alloc _ _ _ (by simp)]
    exact heap_alloc_new w1 _
  simp [World.cell?, e, hj]

end Go.Proofs.YthmhcpghfbifiaaGreatDoor

/- The document's runes, cell by cell. -/
namespace Go.Proofs.YthmhcpghfbifiaaGreatDoor
open Go.RowKit

theorem rsCells_at : ∀ (x : List (Int × Nat × Nat)) (k : Nat) (h : k < x.length), (rsCells x)[k * 3]? = some (.int .i64 (x[k]'h).1) ∧ (rsCells x)[k * 3 + 1]? = some (.int .i64 (x[k]'h).2.1) ∧ (rsCells x)[k * 3 + 2]? = some (.int .i64 (x[k]'h).2.2)
  | [], k, h => absurd h (by simp)
  | c :: r, 0, _ => ⟨rfl, rfl, rfl⟩
  | c :: r, k + 1, h => by
    have := rsCells_at r k (by simpa using h)
    have e : rsCells (c :: r) = [.int .i64 c.1, .int .i64 c.2.1, .int .i64 c.2.2] ++ rsCells r := rfl
    have e1 : (k + 1) * 3 = k * 3 + 3 := by omega
    rw [e, e1]
    exact this

/-- What a list of runes holds. -/
def RsAt (x : List (Int × Nat × Nat)) (a : Option Addr) (W : World) : Prop := ∀ k (h : k < x.length), ∃ g, a = some ⟨g, 0, none⟩ ∧ W.cell? ⟨g, k * 3, none⟩ = some (.int .i64 (x[k]'h).1) ∧ W.cell? ⟨g, k * 3 + 1, none⟩ = some (.int .i64 (x[k]'h).2.1) ∧ W.cell? ⟨g, k * 3 + 2, none⟩ = some (.int .i64 (x[k]'h).2.2)
theorem RsAt.below {x : List (Int × Nat × Nat)} {a : Option Addr} {W W' : World} (h : RsAt x a W) (hb : Below W.heap.size W W') : RsAt x a W' := fun k hk => by
  obtain ⟨g, e, h1, h2, h3⟩ := h k hk
  exact ⟨g, e, keepCell h1 hb, keepCell h2 hb, keepCell h3 hb⟩

theorem rs_le (s : ByteArray) : (rs s.data.toList).length ≤ s.size := by
  have := ru_length_le s.data.toList
  rw [rs_length]
  have h2 : s.data.toList.length = s.size := by rw [Array.length_toList]; rfl
  omega
end Go.Proofs.YthmhcpghfbifiaaGreatDoor

/- The document's letters and names. -/
namespace Go.Proofs.YthmhcpghfbifiaaGreatDoor
open Go.RowKit

/-- The document's letters. -/
def isLet (r : Int) : Bool := (decide (97 ≤ r) && decide (r ≤ 122)) || (decide (65 ≤ r) && decide (r ≤ 90)) || r == 95 || (decide (192 ≤ r) && decide (r ≤ 591) && !(r == 215) && !(r == 247)) || (decide (913 ≤ r) && decide (r ≤ 969) && !(r == 930))
theorem isLet_eq (r : Int) : isLet r = isLetter r := by
  rw [Bool.eq_iff_iff]
  unfold isLet isLetter
  simp [spans, inSpan]
  omega

def isRest (r : Int) : Bool := isLet r || (decide (48 ≤ r) && decide (r ≤ 57)) || r == 39
theorem isRest_eq (r : Int) : isRest r = (isLetter r || mayF r) := by
  unfold isRest mayF
  rw [isLet_eq, Bool.or_assoc]

end Go.Proofs.YthmhcpghfbifiaaGreatDoor

/- The document's names; the walk of the statement on names. -/
namespace Go.Proofs.YthmhcpghfbifiaaGreatDoor
open Go.RowKit

/-- Is a list of runes a name? -/
def okN : List (Int × Nat × Nat) → Bool
  | [] => false
  | y :: t => decide (t.length + 1 ≤ 32) && isLet y.1 && t.all fun z => isRest z.1
theorem isLetter_raw (r : Int) : isLetter (raw r) = isLetter r := by
  unfold raw
  split
  · rw [Bool.eq_iff_iff]
    unfold isLetter
    simp [spans, inSpan]
    omega
  · rfl
theorem mayF_raw (r : Int) : mayF (raw r) = mayF r := by
  unfold raw
  split
  · rw [Bool.eq_iff_iff]
    unfold mayF
    simp
    omega
  · rfl
theorem okR_rest : ∀ (off : Nat) (t : List (Int × Nat)), okR false t = (rsT off t).all fun z => isRest z.1
  | _, [] => rfl
  | off, (r, k) :: t => by
    rw [okR, rsT, List.all_cons, okR_rest (off + k) t, isRest_eq, isLetter_raw, mayF_raw]
    rfl
theorem name_doc (l : List UInt8) : ((nameE l == 0) = okN (rs l)) ∧ (nameE l = 0 ∨ nameE l = 21) := by
  unfold nameE rs
  by_cases h0 : l = []
  · subst h0
    rw [if_pos (.inl rfl)]
    exact ⟨rfl, .inr rfl⟩
  rw [ru_step l h0, rsT]
  by_cases h1 : 32 < ((rv l, wd l) :: ru (l.drop (wd l))).length
  · rw [if_pos (.inr h1)]
    refine ⟨?_, .inr rfl⟩
    rw [List.length_cons] at h1
    have e : decide ((rsT (0 + wd l) (ru (l.drop (wd l)))).length + 1 ≤ 32) = false := by
      rw [rsT_length]
      simp
      omega
    rw [okN, e]
    rfl
  · rw [if_neg (by rintro (h | h); exact h0 h; exact h1 h)]
    rw [List.length_cons] at h1
    have e : decide ((rsT (0 + wd l) (ru (l.drop (wd l)))).length + 1 ≤ 32) = true := by
      rw [rsT_length]
      simpa using h1
    rw [okN, e, okR, okR_rest (0 + wd l), isLetter_raw, isLet_eq]
    simp only [Bool.not_true, Bool.false_and, Bool.or_false, Bool.true_and]
    cases h : (isLetter (rv l) && (rsT (0 + wd l) (ru (l.drop (wd l)))).all fun z => isRest z.1)
    · exact ⟨rfl, .inr rfl⟩
    · exact ⟨rfl, .inl rfl⟩

end Go.Proofs.YthmhcpghfbifiaaGreatDoor
