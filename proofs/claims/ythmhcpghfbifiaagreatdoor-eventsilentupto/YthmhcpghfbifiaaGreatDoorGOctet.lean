/- Plain mathematics of layer 1: check sums bit by bit, over 32 bits. No statement of the program is proved here. -/
import Derived.WalkKit
import Derived.Laws.BitsAllLaws
import Derived.Test.YthmhcpghfbifiaaGreatDoorRows
import Derived.WalkSpells
import Derived.WalkLawsBesides
import Derived.Lib.Zigzag
import Derived.Test.YthmhcpghfbifiaaGreatDoorGText
import Derived.Lib.SlBytesConst
import Derived.Lib.AppendStr
namespace Go.Proofs.YthmhcpghfbifiaaGreatDoor

/-- One bit to the right; if a one came out, by exclusive or with EDB88320. -/
def crcBit (x : BitVec 32) : BitVec 32 := (x >>> 1) ^^^ (if x.getLsbD 0 then 0xEDB88320#32 else 0#32)

def iter {α : Type} (f : α → α) : Nat → α → α
  | 0, x => x
  | n + 1, x => f (iter f n x)

/-- A byte laid into the sum. -/
def crcB (x : BitVec 32) (c : UInt8) : BitVec 32 := iter crcBit 8 (x ^^^ c.toBitVec.setWidth 32)
def crcL (x : BitVec 32) (l : List UInt8) : BitVec 32 := l.foldl crcB x
/-- The check sum of bytes. -/
def crc (l : List UInt8) : BitVec 32 := ~~~ (crcL 0xFFFFFFFF#32 l)

theorem crcBit_walk (x : BitVec 32) :
    bits .xor .u32 ((x.toNat : Int) / 2) (3988292384 * bits .and .u32 (x.toNat : Int) 1 % 4294967296) = ((crcBit x).toNat : Int) := by
  have hx := x.isLt
  have h1 : bits .and .u32 (x.toNat : Int) 1 = ((x.toNat % 2 : Nat) : Int) := by
    have := u32_and_nat x.toNat 1 hx (by decide)
    rw [nat_mask1] at this
    exact this
  have hd : ((x.toNat : Int) / 2) = ((x.toNat / 2 : Nat) : Int) := by omega
  rw [h1, hd]
  have hb : x.getLsbD 0 = decide (x.toNat % 2 = 1) := by
    simp [BitVec.getLsbD, Nat.testBit_zero]
  rcases Nat.mod_two_eq_zero_or_one x.toNat with h | h
  · rw [h]
    have := u32_xor_nat (x.toNat / 2) 0 (by omega) (by decide)
    have e : (3988292384 * ((0 : Nat) : Int) % 4294967296) = ((0 : Nat) : Int) := by decide
    rw [e, this]
    unfold crcBit
    rw [hb, h]
    simp [BitVec.toNat_ushiftRight, Nat.shiftRight_eq_div_pow]
  · rw [h]
    have := u32_xor_nat (x.toNat / 2) 3988292384 (by omega) (by decide)
    have e : (3988292384 * ((1 : Nat) : Int) % 4294967296) = ((3988292384 : Nat) : Int) := by decide
    rw [e, this]
    unfold crcBit
    rw [hb, h]
    simp [BitVec.toNat_ushiftRight, Nat.shiftRight_eq_div_pow]

theorem xorByte_walk (x : BitVec 32) (c : UInt8) :
    bits .xor .u32 (x.toNat : Int) ((c.toNat : Int) % 4294967296) = ((x ^^^ c.toBitVec.setWidth 32).toNat : Int) := by
  have hc := c.toNat_lt
  have e : ((c.toNat : Int) % 4294967296) = ((c.toNat : Nat) : Int) := by omega
  rw [e, u32_xor_nat x.toNat c.toNat x.isLt (by omega)]
  simp only [BitVec.toNat_xor, BitVec.toNat_setWidth]
  rw [Nat.mod_eq_of_lt (b := 2 ^ 32)]
  · rfl
  · show c.toNat < _
    omega

theorem not_walk (x : BitVec 32) : bits .xor .u32 IntKind.u32.max (x.toNat : Int) = ((~~~x).toNat : Int) := by
  have e : IntKind.u32.max = ((4294967295 : Nat) : Int) := by decide
  rw [e, u32_xor_nat 4294967295 x.toNat (by decide) x.isLt]
  have : (4294967295 ^^^ x.toNat) = ((BitVec.allOnes 32) ^^^ x).toNat := by simp
  rw [this, BitVec.allOnes_xor]

theorem ret_int {k : IntKind} {a b : Int} (h : a = b) : Ending.returned (.int k a) = .returned (.int k b) := by rw [h]

end Go.Proofs.YthmhcpghfbifiaaGreatDoor

/- What crcByte and Crc answer, whatever they are given: the plain check sum; memory stays as it was. -/
namespace Go.Proofs.YthmhcpghfbifiaaGreatDoor
open Go.RowKit

/-- A slice of bytes that reads as l. -/
def Bytes (w : World) (v : Value) (l : List UInt8) : Prop :=
  ∃ a c, v = .slice a l.length c ∧ ∀ j (h : j < l.length), ∃ b off, a = some ⟨b, off, none⟩ ∧ w.cell? ⟨b, off + j, none⟩ = some (.int .u8 (l[j].toNat : Int))

theorem Bytes.elim {w : World} {v : Value} {l : List UInt8} (h : Bytes w v l) :
    (l = [] ∧ ∃ a c, v = .slice a 0 c) ∨
    (l ≠ [] ∧ ∃ b off c, v = .slice (some ⟨b, off, none⟩) l.length c ∧ ∀ j (h : j < l.length), w.cell? ⟨b, off + j, none⟩ = some (.int .u8 (l[j].toNat : Int))) := by
  obtain ⟨a, c, rfl, h⟩ := h
  rcases l with _ | ⟨x, l⟩
  · exact .inl ⟨rfl, a, c, rfl⟩
  · obtain ⟨b, off, rfl, _⟩ := h 0 (by simp)
    refine .inr ⟨by simp, b, off, c, rfl, fun j hj => ?_⟩
    obtain ⟨b', off', e, h'⟩ := h j hj
    simp only [Option.some.injEq, Addr.mk.injEq, and_true] at e
    obtain ⟨rfl, rfl⟩ := e
    exact h'

theorem crcL_snoc (x : BitVec 32) (l : List UInt8) (c : UInt8) : crcL x (l ++ [c]) = crcB (crcL x l) c := by simp [crcL]
theorem crcL_take (x : BitVec 32) (l : List UInt8) (k : Nat) (h : k < l.length) : crcL x (l.take (k + 1)) = crcB (crcL x (l.take k)) l[k] := by
  rw [List.take_succ_eq_append_getElem h, crcL_snoc]
theorem crcL_append (x : BitVec 32) (l m : List UInt8) : crcL x (l ++ m) = crcL (crcL x l) m := by simp [crcL]

end Go.Proofs.YthmhcpghfbifiaaGreatDoor

/- What front answers of bytes: the plain reading of a uvarint; memory stays as it was. -/
namespace Go.Proofs.YthmhcpghfbifiaaGreatDoor
open Go.RowKit

/-- The uvarint ahead: its number, how many bytes it has, the error. i bytes are read, they say v. -/
def frontGo : Nat → Nat → List UInt8 → Nat × Nat × Nat
  | _, _, [] => (0, 0, 10)
  | i, v, c :: r =>
    if i = 9 ∧ c.toNat ≠ 1 then (0, 0, 12)
    else if 128 ≤ c.toNat then frontGo (i + 1) (v + c.toNat % 128 * 2 ^ (7 * i)) r
    else if c.toNat = 0 ∧ 0 < i then (0, 0, 12)
    else (v + c.toNat % 128 * 2 ^ (7 * i), i + 1, 0)

def front (l : List UInt8) : Nat × Nat × Nat := frontGo 0 0 l

theorem acc_lt (acc n k : Nat) (hacc : acc < 2 ^ (7 * k)) : acc + n % 128 * 2 ^ (7 * k) < 2 ^ (7 * (k + 1)) := by
  have e : (2 : Nat) ^ (7 * (k + 1)) = 128 * 2 ^ (7 * k) := by
    rw [show 7 * (k + 1) = 7 + 7 * k by omega, Nat.pow_add]
  have h : n % 128 * 2 ^ (7 * k) ≤ 127 * 2 ^ (7 * k) := Nat.mul_le_mul_right _ (by omega)
  omega

/-- What the code's step of bits reckons. -/
def acc_walk_claim (acc n k : Nat) : Prop :=
    bits .or .u64 (acc : Int) (IntKind.u64.wrap (IntKind.u64.wrap (bits .andNot .u8 (n : Int) 128) * 2 ^ (7 * k))) = ((acc + n % 128 * 2 ^ (7 * k) : Nat) : Int)

theorem acc_walk (acc n k : Nat) (hk : k ≤ 9) (hacc : acc < 2 ^ (7 * k)) (hn : n < 256) (h9 : k = 9 → n = 1) :
    acc_walk_claim acc n k := by
  unfold acc_walk_claim
  have h1 : bits .andNot .u8 (n : Int) 128 = ((n % 128 : Nat) : Int) := by
    have := u8_andNot_nat n 128 hn (by decide)
    rw [show 255 - 128 = 127 from rfl, nat_mask7] at this
    exact this
  have hlt : n % 128 * 2 ^ (7 * k) < 2 ^ 64 := by
    by_cases h : k = 9
    · subst h
      rw [h9 rfl]
      decide
    · have : 2 ^ (7 * k) ≤ 2 ^ 56 := Nat.pow_le_pow_right (by decide) (by omega)
      have h2 : n % 128 * 2 ^ (7 * k) ≤ 127 * 2 ^ 56 := Nat.mul_le_mul (by omega) this
      exact Nat.lt_of_le_of_lt h2 (by decide)
  have hacc' : acc < 2 ^ 64 := Nat.lt_of_lt_of_le hacc (Nat.pow_le_pow_right (by decide) (by omega))
  have h2 : IntKind.u64.wrap ((n % 128 : Nat) : Int) = ((n % 128 : Nat) : Int) := by
    rw [IntKind.wrap_u64]; omega
  have h3 : IntKind.u64.wrap (((n % 128 : Nat) : Int) * 2 ^ (7 * k)) = ((n % 128 * 2 ^ (7 * k) : Nat) : Int) := by
    rw [IntKind.wrap_u64]
    have e : (((n % 128 : Nat) : Int) * 2 ^ (7 * k)) = ((n % 128 * 2 ^ (7 * k) : Nat) : Int) := by
      rw [Int.natCast_mul, Int.natCast_pow]; rfl
    rw [e]
    have : (n % 128 * 2 ^ (7 * k)) < 18446744073709551616 := hlt
    generalize n % 128 * 2 ^ (7 * k) = y at this ⊢
    omega
  rw [h1, h2, h3, u64_or_nat _ _ hacc' hlt, Nat.or_comm, nat_join (7 * k) _ _ (Nat.mul_mod_left _ _) hacc, Nat.add_comm]

theorem ret_three {k1 k2 k3 : IntKind} {a b c a' b' c' : Int} (h1 : a = a') (h2 : b = b') (h3 : c = c') :
    Ending.returned (.tuple #[.int k1 a, .int k2 b, .int k3 c]) = .returned (.tuple #[.int k1 a', .int k2 b', .int k3 c']) := by rw [h1, h2, h3]

set_option maxRecDepth 100000 in
set_option maxHeartbeats 1000000 in
theorem front_some (b off c : Nat) (l : List UInt8) (w : World) (hl : l.length ≤ maxLen)
    (hc : ∀ j (h : j < l.length), w.cell? ⟨b, off + j, none⟩ = some (.int .u8 (l[j].toNat : Int))) :
    Calls Tryz.prog 60 #[.slice (some ⟨b, off, none⟩) l.length c] w fun e w' =>
      e = .returned (.tuple #[.int .u64 (front l).1, .int .i64 (front l).2.1, .int .i64 (front l).2.2]) ∧ w' = w := by
  unfold maxLen at hl
  go_enter Tryz.func60, Tryz.ntmps60
  go_wp2
  go_loop [5, 10] (fun t i => ∃ k acc : Nat, k ≤ l.length ∧ k ≤ 9 ∧ acc < 2 ^ (7 * k) ∧ i = .int .i64 k ∧ t = .int .u64 acc ∧ frontGo k acc (l.drop k) = front l) (fun _ i => l.length - (intOf i).toNat)
  case atStart => exact ⟨0, 0, Nat.zero_le _, by omega, by decide, rfl, rfl, rfl⟩
  case round =>
    obtain ⟨k, acc, hk, hk9, hacc, rfl, rfl, hfr⟩ := hrel
    by_cases hlt : k < l.length
    · have hcell := hc k hlt
      clear hc
      rw [List.drop_eq_getElem_cons hlt, frontGo] at hfr
      generalize l[k] = x at hcell hfr
      have hx : x.toNat < 256 := x.toNat_lt
      have HA : Hid (acc < 2 ^ (7 * k)) := hacc
      clear hacc
      generalize x.toNat = n at hcell hx hfr
      by_cases h9 : k = 9
      · by_cases h1 : n = 1
        · have HW := acc_walk acc n k hk9 HA.out hx (fun _ => h1)
          rw [if_neg (by omega), if_neg (by omega), if_neg (by omega)] at hfr
          have HF : Hid (acc_walk_claim acc n k ∧ (acc + n % 128 * 2 ^ (7 * k), k + 1, 0) = front l) := ⟨HW, hfr⟩
          clear hfr HW
          subst h9
          subst h1
          go_wp2
          go_ret3
          exact ⟨ret_three (by rw [← HF.out.2]; exact HF.out.1) (by rw [← HF.out.2]; rfl) (by rw [← HF.out.2]; rfl), rfl⟩
        · rw [if_pos ⟨h9, h1⟩] at hfr
          have HF : Hid ((0, 0, 12) = front l) := hfr
          clear hfr
          subst h9
          go_wp2
          go_ret3
          exact ⟨ret_three (by rw [← HF.out]; rfl) (by rw [← HF.out]; rfl) (by rw [← HF.out]; rfl), rfl⟩
      · have HW := acc_walk acc n k hk9 HA.out hx (fun e => absurd e h9)
        rw [if_neg (fun h => h9 h.1)] at hfr
        by_cases h128 : 128 ≤ n
        · rw [if_pos h128] at hfr
          have HF : Hid (acc_walk_claim acc n k ∧ frontGo (k + 1) (acc + n % 128 * 2 ^ (7 * k)) (List.drop (k + 1) l) = front l) := ⟨HW, hfr⟩
          clear hfr HW
          go_wp2
          go_round
          case rel => exact ⟨k + 1, _, by omega, by omega, acc_lt _ n _ HA.out, by go_num, congrArg (Value.int .u64) HF.out.1, HF.out.2⟩
          case measure => simp [intOf]; omega
        · rw [if_neg h128] at hfr
          by_cases h0 : n = 0 ∧ 0 < k
          · rw [if_pos h0] at hfr
            obtain ⟨h0, h0'⟩ := h0
            have HF : Hid ((0, 0, 12) = front l) := hfr
            clear hfr HW
            subst h0
            go_wp2
            go_ret3
            exact ⟨ret_three (by rw [← HF.out]; rfl) (by rw [← HF.out]; rfl) (by rw [← HF.out]; rfl), rfl⟩
          · rw [if_neg h0] at hfr
            have HF : Hid (acc_walk_claim acc n k ∧ (acc + n % 128 * 2 ^ (7 * k), k + 1, 0) = front l) := ⟨HW, hfr⟩
            clear hfr HW
            by_cases hn0 : n = 0
            · have hk0 : k < 1 := by omega
              have hn1 : n < 1 := by omega
              clear h0 hn0
              go_wp2
              go_ret3
              exact ⟨ret_three (by rw [← HF.out.2]; have h := HF.out.1; rw [show n = 0 by omega] at h ⊢; exact h) (by rw [← HF.out.2]; rfl) (by rw [← HF.out.2]; rfl), rfl⟩
            · have hn1 : 0 < n := by omega
              clear h0 hn0
              go_wp2
              go_ret3
              exact ⟨ret_three (by rw [← HF.out.2]; exact HF.out.1) (by rw [← HF.out.2]; rfl) (by rw [← HF.out.2]; rfl), rfl⟩
    · have : k = l.length := by omega
      subst this
      rw [List.drop_length, frontGo] at hfr
      have HF : Hid ((0, 0, 10) = front l) := hfr
      clear hfr hc hacc
      go_wp2
      go_ret3
      exact ⟨ret_three (by rw [← HF.out]; rfl) (by rw [← HF.out]; rfl) (by rw [← HF.out]; rfl), rfl⟩

set_option maxRecDepth 100000 in
theorem front_none (a : Option Addr) (c : Nat) (w : World) :
    Calls Tryz.prog 60 #[.slice a 0 c] w fun e w' =>
      e = .returned (.tuple #[.int .u64 0, .int .i64 0, .int .i64 10]) ∧ w' = w := by
  go_enter Tryz.func60, Tryz.ntmps60
  go_wp2
  go_loop [5, 10] (fun t i => i = .int .i64 0 ∧ t = .int .u64 0) (fun _ i => 0)
  case atStart => exact ⟨rfl, rfl⟩
  case round =>
    obtain ⟨rfl, rfl⟩ := hrel
    go_wp2
    go_ret3
    exact ⟨rfl, rfl⟩

theorem front_any (v : Value) (l : List UInt8) (w : World) (hl : l.length ≤ maxLen) (hb : Bytes w v l) :
    Calls Tryz.prog 60 #[v] w fun e w' =>
      e = .returned (.tuple #[.int .u64 (front l).1, .int .i64 (front l).2.1, .int .i64 (front l).2.2]) ∧ w' = w := by
  rcases hb.elim with ⟨rfl, a, c, rfl⟩ | ⟨_, b, off, c, rfl, hc⟩
  · exact front_none a c w
  · exact front_some b off c l w hl hc
end Go.Proofs.YthmhcpghfbifiaaGreatDoor

/- What each call on a reader answers, and what it does to the reader: nothing else in memory turns. -/
namespace Go.Proofs.YthmhcpghfbifiaaGreatDoor
open Go.RowKit

/-- A slice of bytes that reads as l; its memory lies in blocks from lo on, below hi. -/
def BytesIn (w : World) (lo hi : Nat) (v : Value) (l : List UInt8) : Prop :=
  ∃ a c, v = .slice a l.length c ∧ l.length ≤ c ∧ c ≤ maxLen ∧ ∀ j (h : j < l.length), ∃ b off, a = some ⟨b, off, none⟩ ∧ lo ≤ b ∧ b < hi ∧ w.cell? ⟨b, off + j, none⟩ = some (.int .u8 (l[j].toNat : Int))

theorem BytesIn.plain {w : World} {lo hi : Nat} {v : Value} {l : List UInt8} (h : BytesIn w lo hi v l) : Bytes w v l := by
  obtain ⟨a, c, rfl, _, _, h⟩ := h
  exact ⟨a, c, rfl, fun j hj => by obtain ⟨b, off, e, _, _, h'⟩ := h j hj; exact ⟨b, off, e, h'⟩⟩

theorem BytesIn.len {w : World} {lo hi : Nat} {v : Value} {l : List UInt8} (h : BytesIn w lo hi v l) : l.length ≤ maxLen := by
  obtain ⟨a, c, rfl, h1, h2, _⟩ := h
  omega

theorem BytesIn.mono {w w' : World} {lo hi lo' hi' : Nat} {v : Value} {l : List UInt8} (h : BytesIn w lo hi v l)
    (hw : ∀ b o, lo ≤ b → b < hi → w'.cell? ⟨b, o, none⟩ = w.cell? ⟨b, o, none⟩) (hlo : lo' ≤ lo) (hhi : hi ≤ hi') : BytesIn w' lo' hi' v l := by
  obtain ⟨a, c, rfl, h1, h2, h⟩ := h
  refine ⟨a, c, rfl, h1, h2, fun j hj => ?_⟩
  obtain ⟨b, off, e, h3, h4, h'⟩ := h j hj
  exact ⟨b, off, e, by omega, by omega, by rw [hw b _ h3 h4]; exact h'⟩

theorem BytesIn.drop {w : World} {lo hi : Nat} {a : Option Addr} {c : Nat} {l : List UInt8} (h : BytesIn w lo hi (.slice a l.length c) l) {n : Nat} (hn : n ≤ l.length) :
    BytesIn w lo hi (sliced a n l.length c 1) (l.drop n) := by
  obtain ⟨a', c', e, h1, h2, h⟩ := h
  simp only [Value.slice.injEq, true_and] at e
  obtain ⟨rfl, rfl⟩ := e
  refine ⟨_, _, by rw [List.length_drop]; rfl, by rw [List.length_drop]; omega, by omega, fun j hj => ?_⟩
  rw [List.length_drop] at hj
  obtain ⟨b, off, rfl, h3, h4, h'⟩ := h (n + j) (by omega)
  have hne : ¬ c = n := by omega
  refine ⟨b, off + n, by simp [hne, Addr.add], h3, h4, ?_⟩
  rw [List.getElem_drop, Nat.add_assoc]
  exact h'

theorem BytesIn.drop_same {w : World} {lo hi : Nat} {a : Option Addr} {c : Nat} {l : List UInt8} (h : BytesIn w lo hi (.slice a l.length c) l) {n : Nat} (hn : n ≤ l.length) (e : c = n) :
    BytesIn w lo hi (.slice a (l.length - n) 0) (l.drop n) := by
  have := h.drop hn
  simpa only [sliced, e, if_true, Nat.sub_self] using this

theorem BytesIn.drop_more {w : World} {lo hi : Nat} {a : Option Addr} {c : Nat} {l : List UInt8} (h : BytesIn w lo hi (.slice a l.length c) l) {n : Nat} (hn : n ≤ l.length) (e : ¬ c = n) :
    BytesIn w lo hi (.slice (a.map fun x => x.add n) (l.length - n) (c - n)) (l.drop n) := by
  have := h.drop hn
  simpa only [sliced, e, if_false, Nat.mul_one] using this

/-- A reader that NewReader made, with l left. -/
def Rd (w : World) (rb lo : Nat) (l : List UInt8) : Prop :=
  w.cell? ⟨rb, 0, none⟩ = some (.bool true) ∧ w.frozen? ⟨rb, 1, none⟩ = false ∧ ∃ v, w.cell? ⟨rb, 1, none⟩ = some v ∧ BytesIn w lo rb v l

theorem Rd.kept {w w' : World} {rb lo : Nat} {l : List UInt8} (h : Rd w rb lo l) (hw : ∀ k, lo ≤ k → k ≤ rb → w'.heap[k]? = w.heap[k]?) (hlo : lo ≤ rb) : Rd w' rb lo l := by
  obtain ⟨h1, h2, v, h3, h4⟩ := h
  have e := hw rb hlo (Nat.le_refl _)
  refine ⟨by rw [World.cell?_of_block (w := w) e]; exact h1, by rw [World.frozen?_of_block (w := w) e]; exact h2, v, by rw [World.cell?_of_block (w := w) e]; exact h3, h4.mono (fun b o hb hb' => World.cell?_of_block (w := w) (hw b hb (by omega))) (Nat.le_refl _) (Nat.le_refl _)⟩

theorem grownBy_refl (w : World) (r : Option Nat) : w.grownBy w r := ⟨rfl, rfl, rfl, Nat.le_refl _, fun _ _ _ => rfl⟩
theorem grownBy_setCell (w : World) (b o : Nat) (v : Value) : w.grownBy (w.setCell ⟨b, o, none⟩ v) (some b) :=
  ⟨rfl, rfl, rfl, by simp [World.setCell], fun k _ hk => Below.heap_setCell _ _ _ _ (fun e => hk (by rw [e]))⟩

theorem cell?_setCell_ne (w : World) (b o b' o' : Nat) (v : Value) (h : b' ≠ b) : (w.setCell ⟨b, o, none⟩ v).cell? ⟨b', o', none⟩ = w.cell? ⟨b', o', none⟩ :=
  World.cell?_of_block (Below.heap_setCell _ _ _ _ h)

theorem Rd.set {w : World} {rb lo : Nat} {l l' : List UInt8} (h : Rd w rb lo l) (v : Value) (hv : BytesIn w lo rb v l') : Rd (w.setCell ⟨rb, 1, none⟩ v) rb lo l' := by
  obtain ⟨h1, h2, v0, h3, h4⟩ := h
  refine ⟨?_, ?_, v, ?_, hv.mono (fun b o hb hb' => cell?_setCell_ne _ _ _ _ _ _ (by omega)) (Nat.le_refl _) (Nat.le_refl _)⟩
  · exact (World.cell?_setCell_other _ _ _ _ (by simp)).trans h1
  · rw [World.frozen?_setCell]; exact h2
  · exact World.cell?_setCell_same _ _ _ h3

theorem front_err : ∀ (l : List UInt8) (i v : Nat), (frontGo i v l).2.2 ≠ 0 → (frontGo i v l).1 = 0 ∧ (frontGo i v l).2.1 = 0
  | [], i, v, _ => by simp [frontGo]
  | c :: r, i, v, h => by
    rw [frontGo] at h ⊢
    split
    · simp
    · rename_i h1
      rw [if_neg h1] at h
      split
      · rename_i h2
        rw [if_pos h2] at h
        exact front_err r _ _ h
      · rename_i h2
        rw [if_neg h2] at h
        split
        · simp
        · rename_i h3
          rw [if_neg h3] at h
          simp at h

theorem front_size : ∀ (l : List UInt8) (i v : Nat), (frontGo i v l).2.1 ≤ i + l.length
  | [], i, v => by simp [frontGo]
  | c :: r, i, v => by
    rw [frontGo]
    split
    · simp
    · split
      · have := front_size r (i + 1) (v + c.toNat % 128 * 2 ^ (7 * i))
        simp only [List.length_cons]
        omega
      · split <;> simp

theorem front_no (l : List UInt8) : (front l).2.2 = 0 ∨ (front l).2.2 = 10 ∨ (front l).2.2 = 12 := by
  have : ∀ (l : List UInt8) (i v : Nat), (frontGo i v l).2.2 = 0 ∨ (frontGo i v l).2.2 = 10 ∨ (frontGo i v l).2.2 = 12 := by
    intro l
    induction l with
    | nil => intro i v; simp [frontGo]
    | cons c r ih =>
      intro i v
      rw [frontGo]
      split
      · simp
      · split
        · exact ih _ _
        · split <;> simp
  exact this l 0 0

theorem front_fits (l : List UInt8) : (front l).2.1 ≤ l.length := by
  have := front_size l 0 0
  unfold front
  omega

theorem usable_yes (w : World) (rb : Nat) (h : w.cell? ⟨rb, 0, none⟩ = some (.bool true)) :
    Calls Tryz.prog 59 #[.pointer (some ⟨rb, 0, none⟩)] w fun e w' => e = .returned (.bool true) ∧ w' = w := by
  go_enter Tryz.func59, Tryz.ntmps59
  go_wp2
  go_ret
  exact ⟨rfl, rfl⟩

theorem ret_two {k1 k2 : IntKind} {a b a' b' : Int} (h1 : a = a') (h2 : b = b') :
    Ending.returned (.tuple #[.int k1 a, .int k2 b]) = .returned (.tuple #[.int k1 a', .int k2 b']) := by rw [h1, h2]

set_option maxRecDepth 100000 in
set_option maxHeartbeats 1000000 in
theorem rUvarint (w : World) (rb lo : Nat) (l : List UInt8) (h : Rd w rb lo l) :
    Calls Tryz.prog 38 #[.pointer (some ⟨rb, 0, none⟩)] w fun e w' =>
      e = .returned (.tuple #[.int .u64 (front l).1, .int .i64 (front l).2.2]) ∧ Rd w' rb lo (l.drop (front l).2.1) ∧ w.grownBy w' (some rb) := by
  have HR : Hid (Rd w rb lo l) := h
  obtain ⟨h1, h2, v, h3, h4⟩ := h
  have hl := h4.len
  have HP : Hid (Bytes w v l) := h4.plain
  have hfit := front_fits l
  have HE : Hid ((front l).2.2 ≠ 0 → (front l).1 = 0 ∧ (front l).2.1 = 0) := front_err l 0 0
  obtain ⟨a, c, rfl, h5, h6, h7⟩ := id h4
  clear h7
  unfold maxLen at hl h6
  by_cases he : (front l).2.2 = 0
  · generalize hf : front l = f at *
    obtain ⟨x, n, e⟩ := f
    simp only at he hfit ⊢
    subst he
    have HF : Hid (front l = (x, n, 0)) := hf
    clear hf HE
    have HB : Hid (BytesIn w lo rb (.slice a l.length c) l) := h4
    clear h4
    go_enter Tryz.func38, Tryz.ntmps38
    go_wp2_with (first | (go_at_call 59; refine (usable_yes _ _ h1).mono ?_; rintro e w' ⟨rfl, rfl⟩) | (go_at_call 60; refine (front_any _ l _ hl HP.out).mono ?_; rintro e w' ⟨rfl, rfl⟩; rw [HF.out]))
    all_goals
      go_ret2
      exact ⟨rfl, HR.out.set _ (by first | exact HB.out.drop_same hfit ‹_› | exact HB.out.drop_more hfit ‹_›), grownBy_setCell _ _ _ _⟩
  · have hz := HE.out he
    obtain ⟨hz1, hz2⟩ := hz
    have hno := front_no l
    rw [hz1, hz2]
    generalize hf : front l = f at *
    obtain ⟨x, n, e⟩ := f
    simp only at he hz1 hz2 hno ⊢
    subst hz1 hz2
    have HF : Hid (front l = (0, 0, e)) := hf
    have he' : 0 < e := by omega
    clear hf HE h4 he hno
    go_enter Tryz.func38, Tryz.ntmps38
    go_wp2_with (first | (go_at_call 59; refine (usable_yes _ _ h1).mono ?_; rintro e w' ⟨rfl, rfl⟩) | (go_at_call 60; refine (front_any _ l _ hl HP.out).mono ?_; rintro e w' ⟨rfl, rfl⟩; rw [HF.out]))
    go_ret2
    exact ⟨rfl, HR.out, grownBy_refl _ _⟩

/-- The number with a sign. -/
def unz (u : Nat) : Int := if u % 2 = 0 then ((u / 2 : Nat) : Int) else -((u / 2 : Nat) : Int) - 1

theorem xor_comm_i64 (x y : Int) : bits .xor .i64 x y = bits .xor .i64 y x := by
  show IntKind.i64.wrap ((BitVec.ofInt 64 x ^^^ BitVec.ofInt 64 y).toNat : Int) = IntKind.i64.wrap ((BitVec.ofInt 64 y ^^^ BitVec.ofInt 64 x).toNat : Int)
  rw [BitVec.xor_comm]

theorem xor_zero_i64 (x : Nat) (hx : x < 9223372036854775808) : bits .xor .i64 (x : Int) 0 = (x : Int) := by
  show IntKind.i64.wrap ((BitVec.ofInt 64 (x : Int) ^^^ BitVec.ofInt 64 0).toNat : Int) = _
  have h2 : (BitVec.ofInt 64 (x : Int)).toNat = x := by
    rw [BitVec.ofInt_natCast, BitVec.toNat_ofNat]; exact Nat.mod_eq_of_lt (by omega)
  have h3 : (BitVec.ofInt 64 0).toNat = 0 := by decide
  rw [BitVec.toNat_xor, h2, h3, Nat.xor_zero, IntKind.wrap_i64]
  omega

theorem unz_bits (u : Nat) (hu : u < 18446744073709551616) :
    bits .xor .i64 ((u : Int) / 2) (wrap64 (-wrap64 (bits .and .u64 (u : Int) 1))) = unz u := by
  rw [Lib.u64_and1 _ (by omega) (by omega)]
  have hd : ((u : Int) / 2) = ((u / 2 : Nat) : Int) := by omega
  rw [hd]
  unfold unz
  split
  · rename_i h
    have e : wrap64 (-wrap64 ((u : Int) % 2)) = 0 := by unfold wrap64; omega
    rw [e, xor_zero_i64 _ (by omega)]
  · rename_i h
    have e : wrap64 (-wrap64 ((u : Int) % 2)) = -1 := by unfold wrap64; omega
    rw [e, xor_comm_i64, Lib.i64_not _ (by omega)]

theorem unz_walk (u : Nat) (hu : u < 18446744073709551616) (w : World) :
    Calls Tryz.prog 175 #[.int .u64 u] w fun e w' => e = .returned (.int .i64 (unz u)) ∧ w' = w := by
  go_enter Tryz.func175, Tryz.ntmps175
  go_wp2
  go_ret
  exact ⟨ret_int (unz_bits u hu), rfl⟩

theorem frontGo_lt : ∀ (l : List UInt8) (i v : Nat), i ≤ 9 → v < 2 ^ (7 * i) → (frontGo i v l).1 < 18446744073709551616
  | [], i, v, _, _ => by simp [frontGo]
  | c :: r, i, v, hi, hv => by
    rw [frontGo]
    split
    · decide
    · rename_i h1
      split
      · rename_i h2
        exact frontGo_lt r (i + 1) _ (by omega) (acc_lt v c.toNat i hv)
      · split
        · decide
        · by_cases h9 : i = 9
          · subst h9
            have hc : c.toNat = 1 := by omega
            rw [hc]
            have : v < 9223372036854775808 := hv
            show v + 1 % 128 * 9223372036854775808 < 18446744073709551616
            omega
          · have h := acc_lt v c.toNat i hv
            have h2 : 2 ^ (7 * (i + 1)) ≤ 2 ^ 63 := Nat.pow_le_pow_right (by decide) (by omega)
            show v + c.toNat % 128 * 2 ^ (7 * i) < 18446744073709551616
            have h3 : (2 : Nat) ^ 63 < 18446744073709551616 := by decide
            exact Nat.lt_of_lt_of_le h (Nat.le_trans h2 (Nat.le_of_lt h3))

theorem front_lt (l : List UInt8) : (front l).1 < 18446744073709551616 := frontGo_lt l 0 0 (by decide) (by decide)

set_option maxRecDepth 100000 in
set_option maxHeartbeats 1000000 in
theorem rVarint (w : World) (rb lo : Nat) (l : List UInt8) (h : Rd w rb lo l) :
    Calls Tryz.prog 161 #[.pointer (some ⟨rb, 0, none⟩)] w fun e w' =>
      e = .returned (.tuple #[.int .i64 (unz (front l).1), .int .i64 (front l).2.2]) ∧ Rd w' rb lo (l.drop (front l).2.1) ∧ w.grownBy w' (some rb) := by
  have HR : Hid (Rd w rb lo l) := h
  clear h
  have HE : Hid ((front l).2.2 ≠ 0 → (front l).1 = 0 ∧ (front l).2.1 = 0) := front_err l 0 0
  have HL : Hid ((front l).1 < 18446744073709551616) := front_lt l
  have hno := front_no l
  by_cases he : (front l).2.2 = 0
  · clear hno
    have HF : Hid ((front l).2.2 = 0) := he
    rw [he]
    clear he
    go_enter Tryz.func161, Tryz.ntmps161
    go_wp2_with (first | (go_at_call 38; refine (rUvarint _ _ _ _ HR.out).mono ?_; rintro e w' ⟨rfl, H2, H3⟩; have H2' := show Hid _ from H2; have H3' := show Hid _ from H3; clear H2 H3; rw [HF.out]) | (go_at_call 175; refine (unz_walk _ HL.out _).mono ?_; rintro e w' ⟨rfl, rfl⟩))
    go_ret2
    exact ⟨rfl, H2'.out, H3'.out⟩
  · have hz := HE.out he
    obtain ⟨hz1, hz2⟩ := hz
    have e0 : unz 0 = 0 := rfl
    have he' : 0 < (front l).2.2 := by omega
    rw [hz1, e0]
    have HZ : Hid ((front l).1 = 0) := hz1
    clear hz1 e0 he hno hz2 HE HL
    go_enter Tryz.func161, Tryz.ntmps161
    go_wp2_with (go_at_call 38; refine (rUvarint _ _ _ _ HR.out).mono ?_; rintro e w' ⟨rfl, H2, H3⟩; have H2' := show Hid _ from H2; have H3' := show Hid _ from H3; clear H2 H3; rw [HZ.out])
    go_ret2
    exact ⟨rfl, H2'.out, H3'.out⟩

/-- What is left behind a text: none is taken where it does not fit. -/
def textRest (l : List UInt8) : List UInt8 :=
  if (front l).2.2 = 0 ∧ (front l).1 ≤ l.length - (front l).2.1 then l.drop ((front l).2.1 + (front l).1) else l
def textErr (l : List UInt8) : Nat :=
  if (front l).2.2 = 0 ∧ ¬ (front l).1 ≤ l.length - (front l).2.1 then 10 else (front l).2.2
def textOf (l : List UInt8) : List UInt8 :=
  if (front l).2.2 = 0 ∧ (front l).1 ≤ l.length - (front l).2.1 then (l.drop (front l).2.1).take (front l).1 else []
def bytesOf (l : List UInt8) : ByteArray := ⟨l.toArray⟩

set_option maxRecDepth 100000 in
theorem slice_low (w : World) (k : IntKind) (a : Option Addr) (c : Nat) {lo hi : Nat} {l : List UInt8} (h : BytesIn w lo hi (.slice a l.length c) l) (n : Nat) (hn : n ≤ l.length) :
    ∃ a' c', (∀ w' : World, (Instr.slice 23 (.slice a l.length c) (some (.int k n)) none none).run Tryz.prog w' = .ok (.slice a' (l.length - n) c') w') ∧
      BytesIn w lo hi (.slice a' (l.length - n) c') (l.drop n) := by
  refine ⟨_, _, fun w' => ?_, h.drop hn⟩
  rw [run_slice_l (P := Tryz.prog) w' 23 a l.length c Tryz.underlying23 k n (by omega) (by omega)]
  rfl

theorem BytesIn.take {w : World} {lo hi : Nat} {a : Option Addr} {c : Nat} {l : List UInt8} (h : BytesIn w lo hi (.slice a l.length c) l) {n : Nat} (hn : n ≤ l.length) :
    BytesIn w lo hi (.slice a n c) (l.take n) := by
  obtain ⟨a', c', e, h1, h2, h⟩ := h
  simp only [Value.slice.injEq, true_and] at e
  obtain ⟨rfl, rfl⟩ := e
  refine ⟨_, _, by rw [List.length_take, Nat.min_eq_left hn], by rw [List.length_take]; omega, by omega, fun j hj => ?_⟩
  rw [List.length_take] at hj
  obtain ⟨b, off, e, h3, h4, h'⟩ := h j (by omega)
  exact ⟨b, off, e, h3, h4, by rw [List.getElem_take]; exact h'⟩

set_option maxRecDepth 100000 in
theorem slice_high (w : World) (k : IntKind) (a : Option Addr) (c : Nat) {lo hi : Nat} {l : List UInt8} (h : BytesIn w lo hi (.slice a l.length c) l) (n : Nat) (hn : n ≤ l.length) :
    ∃ a' c', (∀ w' : World, (Instr.slice 23 (.slice a l.length c) none (some (.int k n)) none).run Tryz.prog w' = .ok (.slice a' n c') w') ∧
      BytesIn w lo hi (.slice a' n c') (l.take n) := by
  obtain ⟨a', c', e, h1, h2, h3⟩ := id h
  simp only [Value.slice.injEq, true_and] at e
  obtain ⟨rfl, rfl⟩ := e
  have hd := h.drop (n := 0) (Nat.zero_le _)
  simp only [sliced, List.drop_zero, Nat.sub_zero] at hd
  refine ⟨_, _, fun w' => ?_, hd.take hn⟩
  rw [run_slice_h (P := Tryz.prog) w' 23 a l.length c Tryz.underlying23 k n (by omega) (by omega)]
  rfl

set_option maxRecDepth 100000 in
theorem conv_bytes {w : World} {v : Value} {l : List UInt8} (h : Bytes w v l) : (convert 23 9 v).run Tryz.prog w = .ok (.string (bytesOf l)) w := by
  obtain ⟨a, c, rfl, h⟩ := h
  rcases a with _ | a
  · have : l = [] := by
      rcases l with _ | ⟨x, l⟩
      · rfl
      · obtain ⟨b, off, e, _⟩ := h 0 (by simp)
        cases e
    subst this
    exact run_convert_bytes_nil w 23 5 Tryz.underlying23 Tryz.underlying5 _ _ _ Tryz.underlying9
  · refine run_convert_bytes_back w 23 9 5 a c l Tryz.underlying23 Tryz.underlying5 Tryz.underlying9 ?_
    intro j hj
    obtain ⟨b, off, e, h'⟩ := h j hj
    cases e
    rw [Addr.add_lit]
    exact h'

set_option maxRecDepth 100000 in
set_option maxHeartbeats 1000000 in
theorem rText (w : World) (rb lo : Nat) (l : List UInt8) (h : Rd w rb lo l) :
    Calls Tryz.prog 64 #[.pointer (some ⟨rb, 0, none⟩)] w fun e w' =>
      e = .returned (.tuple #[.string (bytesOf (textOf l)), .int .i64 (textErr l)]) ∧ Rd w' rb lo (textRest l) ∧ w.grownBy w' (some rb) := by
  have HR : Hid (Rd w rb lo l) := h
  obtain ⟨h1, h2, v, h3, h4⟩ := h
  have hl := h4.len
  have HP : Hid (Bytes w v l) := h4.plain
  have hfit := front_fits l
  have hno := front_no l
  have HE : Hid ((front l).2.2 ≠ 0 → (front l).1 = 0 ∧ (front l).2.1 = 0) := front_err l 0 0
  have hlt : (front l).1 < 18446744073709551616 := front_lt l
  obtain ⟨a, c, rfl, h5, h6, h7⟩ := id h4
  clear h7
  unfold maxLen at hl h6
  by_cases he : (front l).2.2 = 0
  · by_cases hs : (front l).1 ≤ l.length - (front l).2.1
    · have e1 : textOf l = (l.drop (front l).2.1).take (front l).1 := if_pos ⟨he, hs⟩
      have e2 : textErr l = (front l).2.2 := if_neg (fun h => h.2 hs)
      have e3 : textRest l = l.drop ((front l).2.1 + (front l).1) := if_pos ⟨he, hs⟩
      rw [e1, e2, e3, he]
      clear e1 e2 e3
      generalize hf : front l = f at *
      obtain ⟨x, n, e⟩ := f
      simp only at he hfit hs hlt ⊢
      subst he
      have HF : Hid (front l = (x, n, 0)) := hf
      obtain ⟨a1, c1, hs1, hb1⟩ := slice_low w .i64 a c h4 n hfit
      have el : (l.drop n).length = l.length - n := List.length_drop
      rw [← el] at hb1 hs
      obtain ⟨a2, c2, hs2, hb2⟩ := slice_low w .u64 a1 c1 hb1 x hs
      obtain ⟨a3, c3, hs3, hb3⟩ := slice_high w .u64 a1 c1 hb1 x hs
      rw [List.drop_drop] at hb2
      rw [el] at hs2 hs3 hb2 hs
      have HB : Hid (BytesIn w lo rb (.slice a2 (l.length - n - x) c2) (l.drop (n + x))) := hb2
      have hs4 := conv_bytes (hb3.mono (w' := w.setCell ⟨rb, 1, none⟩ (.slice a2 (l.length - n - x) c2)) (fun b o _ hb => cell?_setCell_ne _ _ _ _ _ _ (by omega)) (Nat.le_refl _) (Nat.le_refl _)).plain
      clear hf HE h4 hno hb1 hb2 hb3 el
      go_enter Tryz.func64, Tryz.ntmps64
      go_wp2_with (first | (go_at_call 59; refine (usable_yes _ _ h1).mono ?_; rintro e w' ⟨rfl, rfl⟩) | (go_at_call 60; refine (front_any _ l _ hl HP.out).mono ?_; rintro e w' ⟨rfl, rfl⟩; rw [HF.out]))
      go_ret2
      exact ⟨rfl, HR.out.set _ HB.out, grownBy_setCell _ _ _ _⟩
    · have e1 : textOf l = [] := if_neg (fun h => hs h.2)
      have e2 : textErr l = 10 := if_pos ⟨he, hs⟩
      have e3 : textRest l = l := if_neg (fun h => hs h.2)
      rw [e1, e2, e3]
      clear e1 e2 e3
      generalize hf : front l = f at *
      obtain ⟨x, n, e⟩ := f
      simp only at he hfit hs hlt ⊢
      subst he
      have HF : Hid (front l = (x, n, 0)) := hf
      obtain ⟨a1, c1, hs1, hb1⟩ := slice_low w .i64 a c h4 n hfit
      have hgt : l.length - n < x := by omega
      clear hf HE h4 hno hb1 hs
      go_enter Tryz.func64, Tryz.ntmps64
      go_wp2_with (first | (go_at_call 59; refine (usable_yes _ _ h1).mono ?_; rintro e w' ⟨rfl, rfl⟩) | (go_at_call 60; refine (front_any _ l _ hl HP.out).mono ?_; rintro e w' ⟨rfl, rfl⟩; rw [HF.out]))
      go_ret2
      exact ⟨rfl, HR.out, grownBy_refl _ _⟩
  · have e1 : textOf l = [] := if_neg (fun h => he h.1)
    have e2 : textErr l = (front l).2.2 := if_neg (fun h => he h.1)
    have e3 : textRest l = l := if_neg (fun h => he h.1)
    rw [e1, e2, e3]
    clear e1 e2 e3
    have hz := HE.out he
    obtain ⟨hz1, hz2⟩ := hz
    generalize hf : front l = f at *
    obtain ⟨x, n, e⟩ := f
    simp only at he hz1 hz2 hno ⊢
    subst hz1 hz2
    have HF : Hid (front l = (0, 0, e)) := hf
    have he' : 0 < e := by omega
    clear hf HE h4 he hno
    go_enter Tryz.func64, Tryz.ntmps64
    go_wp2_with (first | (go_at_call 59; refine (usable_yes _ _ h1).mono ?_; rintro e w' ⟨rfl, rfl⟩) | (go_at_call 60; refine (front_any _ l _ hl HP.out).mono ?_; rintro e w' ⟨rfl, rfl⟩; rw [HF.out]))
    go_ret2
    exact ⟨rfl, HR.out, grownBy_refl _ _⟩

set_option maxRecDepth 100000 in
theorem rLeft (w : World) (rb lo : Nat) (l : List UInt8) (h : Rd w rb lo l) :
    Calls Tryz.prog 80 #[.pointer (some ⟨rb, 0, none⟩)] w fun e w' => e = .returned (.int .i64 l.length) ∧ w' = w := by
  obtain ⟨h1, h2, v, h3, h4⟩ := h
  obtain ⟨a, c, rfl, h5, h6, h7⟩ := id h4
  clear h7 h4
  unfold maxLen at h6
  go_enter Tryz.func80, Tryz.ntmps80
  go_wp2_with (go_at_call 59; refine (usable_yes _ _ h1).mono ?_; rintro e w' ⟨rfl, rfl⟩)
  go_ret
  exact ⟨rfl, rfl⟩

set_option maxRecDepth 100000 in
theorem rEnd (w : World) (rb lo : Nat) (l : List UInt8) (h : Rd w rb lo l) :
    Calls Tryz.prog 40 #[.pointer (some ⟨rb, 0, none⟩)] w fun e w' => e = .returned (.int .i64 (if l.length = 0 then 0 else 11)) ∧ w' = w := by
  obtain ⟨h1, h2, v, h3, h4⟩ := h
  obtain ⟨a, c, rfl, h5, h6, h7⟩ := id h4
  clear h7 h4
  unfold maxLen at h6
  by_cases h0 : l.length = 0
  · rw [if_pos h0]
    have h0' : l.length < 1 := by omega
    clear h0
    go_enter Tryz.func40, Tryz.ntmps40
    go_wp2_with (go_at_call 59; refine (usable_yes _ _ h1).mono ?_; rintro e w' ⟨rfl, rfl⟩)
    go_ret
    exact ⟨rfl, rfl⟩
  · rw [if_neg h0]
    have h0' : 0 < l.length := by omega
    clear h0
    go_enter Tryz.func40, Tryz.ntmps40
    go_wp2_with (go_at_call 59; refine (usable_yes _ _ h1).mono ?_; rintro e w' ⟨rfl, rfl⟩)
    go_ret
    exact ⟨rfl, rfl⟩

set_option maxRecDepth 100000 in
set_option maxHeartbeats 1000000 in
theorem rU8_none (w : World) (rb lo : Nat) (h : Rd w rb lo []) :
    Calls Tryz.prog 62 #[.pointer (some ⟨rb, 0, none⟩)] w fun e w' => e = .returned (.tuple #[.int .u8 0, .int .i64 10]) ∧ w' = w := by
  obtain ⟨h1, h2, v, h3, h4⟩ := h
  obtain ⟨a, c, rfl, h5, h6, h7⟩ := id h4
  clear h7 h4
  unfold maxLen at h6
  simp only [List.length_nil] at h3 h5
  go_enter Tryz.func62, Tryz.ntmps62
  go_wp2_with (go_at_call 59; refine (usable_yes _ _ h1).mono ?_; rintro e w' ⟨rfl, rfl⟩)
  go_ret2
  exact ⟨rfl, rfl⟩

set_option maxRecDepth 100000 in
set_option maxHeartbeats 1000000 in
theorem rU8_some (w : World) (rb lo : Nat) (x : UInt8) (l : List UInt8) (h : Rd w rb lo (x :: l)) :
    Calls Tryz.prog 62 #[.pointer (some ⟨rb, 0, none⟩)] w fun e w' =>
      e = .returned (.tuple #[.int .u8 x.toNat, .int .i64 0]) ∧ Rd w' rb lo l ∧ w.grownBy w' (some rb) := by
  have HR : Hid (Rd w rb lo (x :: l)) := h
  obtain ⟨h1, h2, v, h3, h4⟩ := h
  obtain ⟨a, c, rfl, h5, h6, h7⟩ := id h4
  obtain ⟨b, off, rfl, _, _, h8⟩ := h7 0 (by simp)
  clear h7
  unfold maxLen at h6
  simp only [List.getElem_cons_zero, Nat.add_zero] at h8
  obtain ⟨a1, c1, hs1, hb1⟩ := slice_low w .i64 _ c h4 1 (by simp)
  simp only [List.drop_succ_cons, List.drop_zero] at hb1
  have HB : Hid (BytesIn w lo rb (.slice a1 ((x :: l).length - 1) c1) l) := hb1
  clear hb1 h4
  simp only [show ((1 : Nat) : Int) = 1 from rfl] at hs1
  generalize hn : (x :: l).length = n at *
  have hn0 : 0 < n := by rw [← hn]; simp
  clear hn
  go_enter Tryz.func62, Tryz.ntmps62
  go_wp2_with (go_at_call 59; refine (usable_yes _ _ h1).mono ?_; rintro e w' ⟨rfl, rfl⟩)
  go_ret2
  exact ⟨rfl, HR.out.set _ HB.out, grownBy_setCell _ _ _ _⟩
end Go.Proofs.YthmhcpghfbifiaaGreatDoor

/- What slices.Clone and NewReader make: new memory with the same bytes. -/
namespace Go.Proofs.YthmhcpghfbifiaaGreatDoor
open Go.RowKit

theorem info_u8 : (Tryz.prog.info? 5).map (fun i => (i.zero, i.size, i.bytes)) = some (some (.int .u8 0), 1, 1) := by kernel_rfl

def cellsOf (l : List UInt8) : List Value := l.map fun c => Value.int .u8 (c.toNat : Int)
theorem cellsOf_length (l : List UInt8) : (cellsOf l).length = l.length := by simp [cellsOf]
theorem cellsOf_one (l : List UInt8) : ∀ u ∈ cellsOf l, u.oneCell' = true := by
  intro u hu
  obtain ⟨_, _, rfl⟩ := List.mem_map.1 hu
  rfl

theorem ownsRow_bytes {w : World} {base n : Nat} {v : Value} {l : List UInt8} (h : w.ownsRow base 5 1 v n (cellsOf l)) :
    n = l.length ∧ BytesIn w base w.heap.size v l := by
  have hn : n = l.length := by have := h.1; rw [cellsOf_length] at this; omega
  subst hn
  refine ⟨rfl, ?_⟩
  rcases h.2 with ⟨rfl, h0⟩ | ⟨g, cap, cur, rfl, hb, hg, hnc, hcm, hcs, htake⟩
  · exact ⟨none, 0, by rw [h0], by omega, by unfold maxLen; omega, fun j hj => by omega⟩
  · refine ⟨_, cap, rfl, hnc, hcm, fun j hj => ⟨g, 0, rfl, hb, (Array.getElem?_eq_some_iff.1 hg).1, ?_⟩⟩
    have := h.cells (g := g) rfl j (.int .u8 (l[j].toNat : Int)) (by simp [cellsOf, hj])
    rw [Addr.add_lit] at this
    exact this

theorem Bytes.cells {w : World} {ad : Addr} {c : Nat} {l : List UInt8} (h : Bytes w (.slice (some ad) l.length c) l) :
    ∀ j u, (cellsOf l)[j]? = some u → w.cell? (ad.add j) = some u := by
  intro j u hu
  obtain ⟨a', c', e, h⟩ := h
  simp only [Value.slice.injEq, true_and] at e
  obtain ⟨e1, rfl⟩ := e
  have hj : j < l.length := by
    have := (List.getElem?_eq_some_iff.1 hu).1
    rwa [cellsOf_length] at this
  obtain ⟨b, off, e, h'⟩ := h j hj
  rw [e] at e1
  simp only [Option.some.injEq] at e1
  subst e1
  rw [Addr.add_lit, h']
  simp [cellsOf, hj] at hu
  rw [hu]

theorem Bytes.later {w w' : World} {v : Value} {l : List UInt8} (h : Bytes w v l) (hb : Below w.heap.size w w') : Bytes w' v l := by
  obtain ⟨a, c, rfl, h⟩ := h
  refine ⟨a, c, rfl, fun j hj => ?_⟩
  obtain ⟨b, off, e, h'⟩ := h j hj
  exact ⟨b, off, e, cell_later hb h'⟩

set_option maxRecDepth 100000 in
set_option maxHeartbeats 1000000 in
theorem clone_any (w : World) (v : Value) (l : List UInt8) (hb : Bytes w v l) (hl : l.length ≤ 140737488355328) :
    Calls Tryz.prog 58 #[v] w fun e w' => ∃ a' c', e = .returned (.slice a' l.length c') ∧ BytesIn w' w.heap.size w'.heap.size (.slice a' l.length c') l ∧ Below w.heap.size w w' := by
  obtain ⟨i0, hi, hz0, hz1, hz2⟩ := info_parts info_u8
  obtain ⟨a, c, rfl, _⟩ := id hb
  rcases a with _ | ad
  · have : l = [] := by
      rcases hb.elim with ⟨h, _⟩ | ⟨_, b, off, c, h, _⟩
      · exact h
      · cases h
    subst this
    have hnil := fun w => Lib.run_eql_slice_nil (P := Tryz.prog) w 23 5 none 0 c 0 0 Tryz.underlying23
    go_enter Tryz.func58, Tryz.ntmps58
    go_wp2
    go_ret
    exact ⟨_, _, rfl, ⟨none, 0, rfl, by simp, by unfold maxLen; omega, fun j hj => by simp at hj⟩, Below.refl _ _⟩
  · have HB : Hid (Bytes w (.slice (some ad) l.length c) l) := hb
    clear hb
    have hnil := fun w => Lib.run_eql_slice_nil (P := Tryz.prog) w 23 5 (some ad) l.length c 0 0 Tryz.underlying23
    go_enter Tryz.func58, Tryz.ntmps58
    go_wp2_with (at_builtin; refine wpList_append_own _ rfl _ _ 23 rfl w.heap.size 5 i0 (.int .u8 0) 1 1 Tryz.underlying23 hi hz0 hz1 hz2 rfl (by decide) _ _ _ rfl (World.ownsRow_made w #[] 0 (Nat.le_refl _) (by unfold maxLen; omega) rfl) ad l.length c (cellsOf l) rfl ?c0 ?c1 (cellsOf_one l) ?c3 ?c4 ?c5 ?_)
    case c0 => rw [cellsOf_length, Nat.mul_one]
    case c1 => exact Bytes.cells (HB.out.later ((Below.refl _ _).alloc (Nat.le_refl _) _))
    case c3 => unfold maxLen; omega
    case c4 => omega
    case c5 => simp
    · intro v' w1 hown hgrow hne
      have hin := (ownsRow_bytes hown).2
      obtain ⟨a', c', ev, _⟩ := id hin
      have hbel : Below w.heap.size w w1 := ((Below.refl _ _).alloc (Nat.le_refl _) _).grown hgrow (by simp) (fun k hk => by simp [Value.ownBlock] at hk; omega)
      have R : Hid (v' = .slice a' l.length c' ∧ BytesIn w1 w.heap.size w1.heap.size v' l ∧ Below w.heap.size w w1) := ⟨ev, hin, hbel⟩
      clear hown hgrow hne hin hbel ev
      go_wp2
      go_ret
      obtain ⟨ev, hin, hbel⟩ := R
      exact ⟨a', c', congrArg Ending.returned ev, by rw [← ev]; exact hin, hbel⟩

set_option maxRecDepth 100000 in
set_option maxHeartbeats 1000000 in
theorem newReader_any (w : World) (v : Value) (l : List UInt8) (hb : Bytes w v l) (hl : l.length ≤ 140737488355328) :
    Calls Tryz.prog 36 #[v] w fun e w' => ∃ rb, e = .returned (.pointer (some ⟨rb, 0, none⟩)) ∧ w.heap.size ≤ rb ∧ rb + 1 = w'.heap.size ∧ Rd w' rb w.heap.size l ∧ Below w.heap.size w w' := by
  go_enter Tryz.func36, Tryz.ntmps36
  go_wp2_with (go_at_call 58; refine (clone_any _ _ l hb hl).mono ?_; rintro e w1 ⟨a1, c1, rfl, HB, HW⟩; have HB' := hide HB; have HW' := hide HW; clear HB HW)
  go_ret
  have h4 := HB'.out
  have h5 := HW'.out
  refine ⟨_, rfl, h5.size, by simp, ?_, h5.alloc h5.size _⟩
  refine ⟨?_, ?_, .slice a1 l.length c1, ?_, h4.mono (fun b o _ hb => World.cell?_alloc_lt _ _ _ hb) (Nat.le_refl _) (Nat.le_refl _)⟩
  · simp
  · simp
  · simp
end Go.Proofs.YthmhcpghfbifiaaGreatDoor

/- heads answers true, and turns nothing that was there. -/
namespace Go.Proofs.YthmhcpghfbifiaaGreatDoor
open Go.RowKit

theorem fr1 : front [172, 2, 1, 2, 97, 98] = (300, 2, 0) := by decide
theorem fr2 : front [1, 2, 97, 98] = (1, 1, 0) := by decide
theorem tx3 : textOf [2, 97, 98] = [97, 98] := by decide
theorem te3 : textErr [2, 97, 98] = 0 := by decide
theorem tr3 : textRest [2, 97, 98] = [] := by decide
theorem crc9 : (crc [49, 50, 51, 52, 53, 54, 55, 56, 57]).toNat = 3421780262 := by decide +kernel

theorem lit6 (w : World) : Bytes (w.alloc (.cells #[.int .u8 172, .int .u8 2, .int .u8 1, .int .u8 2, .int .u8 97, .int .u8 98] 5)) (.slice (some ⟨w.heap.size, 0, none⟩) 6 6) [172, 2, 1, 2, 97, 98] := by
  refine ⟨_, 6, rfl, fun j hj => ⟨w.heap.size, 0, rfl, ?_⟩⟩
  rw [Nat.zero_add, World.cell?_alloc_new]
  match j, hj with
  | 0, _ => rfl
  | 1, _ => rfl
  | 2, _ => rfl
  | 3, _ => rfl
  | 4, _ => rfl
  | 5, _ => rfl

theorem lit9 (w : World) (fr : Nat × Nat) : Bytes (w.alloc (.cells #[.int .u8 49, .int .u8 50, .int .u8 51, .int .u8 52, .int .u8 53, .int .u8 54, .int .u8 55, .int .u8 56, .int .u8 57] 5 fr)) (.slice (some ⟨w.heap.size, 0, none⟩) 9 9) [49, 50, 51, 52, 53, 54, 55, 56, 57] := by
  refine ⟨_, 9, rfl, fun j hj => ⟨w.heap.size, 0, rfl, ?_⟩⟩
  rw [Nat.zero_add, World.cell?_alloc_mark]
  match j, hj with
  | 0, _ => rfl
  | 1, _ => rfl
  | 2, _ => rfl
  | 3, _ => rfl
  | 4, _ => rfl
  | 5, _ => rfl
  | 6, _ => rfl
  | 7, _ => rfl
  | 8, _ => rfl

theorem hU (w : World) (rb lo : Nat) (h : Rd w rb lo [172, 2, 1, 2, 97, 98]) :
    Calls Tryz.prog 38 #[.pointer (some ⟨rb, 0, none⟩)] w fun e w' =>
      e = .returned (.tuple #[.int .u64 300, .int .i64 0]) ∧ Rd w' rb lo [1, 2, 97, 98] ∧ w.grownBy w' (some rb) := by
  have := rUvarint w rb lo _ h
  rw [fr1] at this
  exact this
theorem hV (w : World) (rb lo : Nat) (h : Rd w rb lo [1, 2, 97, 98]) :
    Calls Tryz.prog 161 #[.pointer (some ⟨rb, 0, none⟩)] w fun e w' =>
      e = .returned (.tuple #[.int .i64 (-1), .int .i64 0]) ∧ Rd w' rb lo [2, 97, 98] ∧ w.grownBy w' (some rb) := by
  have := rVarint w rb lo _ h
  rw [fr2] at this
  exact this
theorem hT (w : World) (rb lo : Nat) (h : Rd w rb lo [2, 97, 98]) :
    Calls Tryz.prog 64 #[.pointer (some ⟨rb, 0, none⟩)] w fun e w' =>
      e = .returned (.tuple #[.string ⟨#[97, 98]⟩, .int .i64 0]) ∧ Rd w' rb lo [] ∧ w.grownBy w' (some rb) := by
  have := rText w rb lo _ h
  rw [tx3, te3, tr3] at this
  exact this
theorem hE (w : World) (rb lo : Nat) (h : Rd w rb lo []) :
    Calls Tryz.prog 40 #[.pointer (some ⟨rb, 0, none⟩)] w fun e w' => e = .returned (.int .i64 0) ∧ w' = w := by
  have := rEnd w rb lo _ h
  rw [if_pos (show ([] : List UInt8).length = 0 from rfl)] at this
  exact this

theorem below_grown {B rb : Nat} {w w1 w2 : World} (h : Below B w w1) (hg : w1.grownBy w2 (some rb)) (hB : B ≤ rb) (hs : B ≤ w1.heap.size) : Below B w w2 :=
  h.grown hg hs (fun k hk => by cases hk; exact hB)

end Go.Proofs.YthmhcpghfbifiaaGreatDoor

/- What Uvarint, Varint and Text write: the document's bytes, in new memory. -/
namespace Go.Proofs.YthmhcpghfbifiaaGreatDoor
open Go.RowKit
open Go.Lib (uvarint uvarint_small uvarint_big uvarint_length64 uvarint_pos)

theorem cellsOf_append (l m : List UInt8) : cellsOf (l ++ m) = cellsOf l ++ cellsOf m := by simp [cellsOf]

theorem byte_more (x : Nat) : bits .or .u8 ((x : Int) % 256) 128 = (((x % 128 + 128).toUInt8.toNat : Nat) : Int) := by
  rw [Lib.u8_or128_any _ (by omega) (by omega)]
  have : (x % 128 + 128).toUInt8.toNat = x % 128 + 128 := by
    rw [Nat.toUInt8_eq, UInt8.toNat_ofNat']
    omega
  rw [this]
  omega

theorem byte_last (x : Nat) (h : x < 128) : (x : Int) = ((x.toUInt8.toNat : Nat) : Int) := by
  have : x.toUInt8.toNat = x := by
    rw [Nat.toUInt8_eq, UInt8.toNat_ofNat']
    omega
  rw [this]

/-- The new cell of an append of one byte, as cells. -/
theorem cell_new (w : World) (v : Value) (c : UInt8) (h : v = .int .u8 (c.toNat : Int)) :
    ∀ j u, (cellsOf [c])[j]? = some u → (w.alloc (.cells #[v] 5)).cell? ((⟨w.heap.size, 0, none⟩ : Addr).add j) = some u := by
  intro j u hu
  subst h
  match j, hu with
  | 0, hu =>
    simp [cellsOf] at hu
    subst hu
    rw [Addr.add_lit, World.cell?_alloc_new]
    rfl

theorem ref_more (x : Nat) : ((x : Int) % 128 + 128) = (((x % 128 + 128).toUInt8.toNat : Nat) : Int) := by
  have : (x % 128 + 128).toUInt8.toNat = x % 128 + 128 := by
    rw [Nat.toUInt8_eq, UInt8.toNat_ofNat']
    omega
  rw [this]
  omega

set_option maxRecDepth 100000 in
set_option maxHeartbeats 1000000 in
theorem uvarint_any (u : Nat) (hu : u < 18446744073709551616) (w : World) :
    Calls Tryz.prog 32 #[.int .u64 u] w fun e w' => ∃ v, e = .returned v ∧ w'.ownsRow w.heap.size 5 1 v (uvarint u).length (cellsOf (uvarint u)) ∧ Below w.heap.size w w' := by
  obtain ⟨i0, hi, hz0, hz1, hz2⟩ := info_parts info_u8
  have HL : Hid ((uvarint u).length ≤ 10) := uvarint_length64 hu
  go_enter Tryz.func32, Tryz.ntmps32
  go_wp2
  go_loopw [0, 3] (fun t v wr => ∃ (x : Nat) (pre : List UInt8), t = .int .u64 x ∧ x < 18446744073709551616 ∧ pre ++ uvarint x = uvarint u ∧ wr.ownsRow w.heap.size 5 1 v pre.length (cellsOf pre) ∧ Below w.heap.size w wr) (fun t _ _ => (intOf t).toNat)
  case atStart => exact ⟨u, [], rfl, hu, rfl, World.ownsRow_nil _ _ _ _, Below.refl _ _⟩
  case round =>
    obtain ⟨x, pre, rfl, hx, hpre, hown, hbel⟩ := hrel
    have hlen : pre.length + (uvarint x).length ≤ 10 := by
      have := HL.out
      rw [← hpre, List.length_append] at this
      exact this
    have hpos := uvarint_pos x
    have hsz := hbel.size
    by_cases h128 : 128 ≤ x
    · obtain ⟨c, hc⟩ : ∃ c, c = (x % 128 + 128).toUInt8 := ⟨_, rfl⟩
      have hb := byte_more x
      rw [← hc] at hb
      have hp : (pre ++ [c]) ++ uvarint (x / 128) = uvarint u := by
        rw [← hpre, uvarint_big h128, hc, List.append_assoc]; rfl
      have HB := hide hb
      have HP := hide hp
      have HW := hide hbel
      clear hpre hbel hb hp hc
      go_wp2_with (at_builtin; refine wpList_append_own _ rfl _ _ 23 rfl w.heap.size 5 i0 (.int .u8 0) 1 1 Tryz.underlying23 hi hz0 hz1 hz2 rfl (by decide) _ _ _ rfl (hown.alloc _) ⟨wr.heap.size, 0, none⟩ 1 1 (cellsOf [c]) rfl rfl ?c1 (cellsOf_one _) ?c3 ?c4 ?c5 ?_)
      case c1 => exact cell_new _ _ _ (congrArg (Value.int .u8) HB.out)
      case c3 => unfold maxLen; omega
      case c4 => omega
      case c5 => simp; omega
      · intro v' w1 hown' hgrow _
        have R : Hid (w1.ownsRow w.heap.size 5 1 v' (pre ++ [c]).length (cellsOf (pre ++ [c])) ∧ Below w.heap.size w w1) := by
          refine ⟨?_, ?_⟩
          · rw [cellsOf_append, List.length_append]; exact hown'
          · exact (HW.out.alloc hsz _).grown hgrow (by simp; omega) (fun k hk => (hown.lt k hk).1)
        clear hown' hgrow hown
        go_wp2
        go_roundw
        case rel => exact ⟨x / 128, pre ++ [c], by go_num, by omega, HP.out, R.out.1, R.out.2⟩
        case measure => simp [intOf]; omega
    · obtain ⟨c, hc⟩ : ∃ c, c = x.toUInt8 := ⟨_, rfl⟩
      have hb := byte_last x (by omega)
      rw [← hc] at hb
      have hp : pre ++ [c] = uvarint u := by
        rw [← hpre, uvarint_small (by omega), hc]
      have HB := hide hb
      have HP := hide hp
      have HW := hide hbel
      clear hpre hbel hb hp hc
      go_wp2_with (at_builtin; refine wpList_append_own _ rfl _ _ 23 rfl w.heap.size 5 i0 (.int .u8 0) 1 1 Tryz.underlying23 hi hz0 hz1 hz2 rfl (by decide) _ _ _ rfl (hown.alloc _) ⟨wr.heap.size, 0, none⟩ 1 1 (cellsOf [c]) rfl rfl ?c1 (cellsOf_one _) ?c3 ?c4 ?c5 ?_)
      case c1 => exact cell_new _ _ _ (congrArg (Value.int .u8) HB.out)
      case c3 => unfold maxLen; omega
      case c4 => omega
      case c5 => simp; omega
      · intro v' w1 hown' hgrow _
        have R : Hid (w1.ownsRow w.heap.size 5 1 v' (pre ++ [c]).length (cellsOf (pre ++ [c])) ∧ Below w.heap.size w w1) := by
          refine ⟨?_, ?_⟩
          · rw [cellsOf_append, List.length_append]; exact hown'
          · exact (HW.out.alloc hsz _).grown hgrow (by simp; omega) (fun k hk => (hown.lt k hk).1)
        clear hown' hgrow hown
        go_wp2
        go_ret
        rw [← HP.out]
        exact ⟨v', rfl, R.out.1, R.out.2⟩
/-- The number of a varint. -/
def zz (v : Int) : Nat := if 0 ≤ v then (2 * v).toNat else (-2 * v - 1).toNat

theorem fold_bits (v : Int) (h0 : -9223372036854775808 ≤ v) (h1 : v ≤ 9223372036854775807) :
    bits .xor .u64 (IntKind.u64.wrap (IntKind.u64.wrap v * 2)) (IntKind.u64.wrap (v / 9223372036854775808)) = ((zz v : Nat) : Int) := by
  unfold zz
  simp only [IntKind.wrap_u64]
  split
  · have e1 : (v % 18446744073709551616 * 2) % 18446744073709551616 = (((2 * v).toNat : Nat) : Int) := by omega
    have e2 : v / 9223372036854775808 % 18446744073709551616 = ((0 : Nat) : Int) := by omega
    rw [e1, e2, u64_xor_nat _ _ (by omega) (by omega), Nat.xor_zero]
  · have e1 : (v % 18446744073709551616 * 2) % 18446744073709551616 = (((2 * v + 18446744073709551616).toNat : Nat) : Int) := by omega
    have e2 : v / 9223372036854775808 % 18446744073709551616 = ((18446744073709551615 : Nat) : Int) := by omega
    rw [e1, e2, u64_xor_nat _ _ (by omega) (by omega), Nat.xor_comm]
    have := Lib.xor_ones64 (2 * v + 18446744073709551616).toNat (by omega)
    have e3 : (18446744073709551615 : Nat) = 2 ^ 64 - 1 := by decide
    rw [e3, this]
    omega

theorem zz_lt (v : Int) (h0 : -9223372036854775808 ≤ v) (h1 : v ≤ 9223372036854775807) : zz v < 18446744073709551616 := by
  unfold zz
  split <;> omega

theorem fold_any (v : Int) (h0 : -9223372036854775808 ≤ v) (h1 : v ≤ 9223372036854775807) (w : World) :
    Calls Tryz.prog 102 #[.int .i64 v] w fun e w' => e = .returned (.int .u64 (zz v)) ∧ w' = w := by
  go_enter Tryz.func102, Tryz.ntmps102
  go_wp2
  go_ret
  exact ⟨ret_int (fold_bits v h0 h1), rfl⟩

theorem varint_any (v : Int) (h0 : -9223372036854775808 ≤ v) (h1 : v ≤ 9223372036854775807) (w : World) :
    Calls Tryz.prog 78 #[.int .i64 v] w fun e w' => ∃ v', e = .returned v' ∧ w'.ownsRow w.heap.size 5 1 v' (uvarint (zz v)).length (cellsOf (uvarint (zz v))) ∧ Below w.heap.size w w' := by
  go_enter Tryz.func78, Tryz.ntmps78
  go_wp2_with (first | (go_at_call 102; refine (fold_any _ h0 h1 _).mono ?_; rintro e w1 ⟨rfl, rfl⟩) | (go_at_call 32; refine (uvarint_any _ (zz_lt v h0 h1) _).mono ?_; rintro e w1 ⟨v1, rfl, A1, A2⟩; have B1 := hide A1; have B2 := hide A2; clear A1 A2))
  go_ret
  exact ⟨_, rfl, B1.out, B2.out⟩

theorem uvarint_at (x : Int) (u : Nat) (e : x = u) (hu : u < 18446744073709551616) (w : World) :
    Calls Tryz.prog 32 #[.int .u64 x] w fun e w' => ∃ v, e = .returned v ∧ w'.ownsRow w.heap.size 5 1 v (uvarint u).length (cellsOf (uvarint u)) ∧ Below w.heap.size w w' := by
  subst e
  exact uvarint_any u hu w

/-- A text's bytes: how many, and these. -/
def txt (s : ByteArray) : List UInt8 := uvarint s.size ++ s.data.toList

theorem strCells_eq (s : ByteArray) : Lib.strCells s = cellsOf s.data.toList := rfl
theorem size_eq (s : ByteArray) : s.data.toList.length = s.size := by rw [Array.length_toList]; rfl

theorem ownsRow_len {w : World} {base : Nat} {v : Value} {n m : Nat} {xs : List Value} (h : w.ownsRow base 5 1 v n xs) (e : n = m) : w.ownsRow base 5 1 v m xs := by
  subst e
  exact h

set_option maxRecDepth 100000 in
set_option maxHeartbeats 1000000 in
theorem text_any (s : ByteArray) (hs : s.size ≤ 140737488351232) (w : World) :
    Calls Tryz.prog 34 #[.string s] w fun e w' => ∃ v, e = .returned v ∧ w'.ownsRow w.heap.size 5 1 v (txt s).length (cellsOf (txt s)) ∧ Below w.heap.size w w' := by
  obtain ⟨i0, hi, hz0, hz1, hz2⟩ := info_parts info_u8
  have hL : (uvarint s.size).length ≤ 10 := uvarint_length64 (by omega)
  go_enter Tryz.func34, Tryz.ntmps34
  go_wp2_with (first | (go_at_call 32; refine (uvarint_at _ s.size rfl (by omega) _).mono ?_; rintro e w1 ⟨v1, rfl, A1, A2⟩; have B1 := hide A1; have B2 := hide A2; clear A1 A2) | (at_builtin; refine Lib.wpList_append_own_string _ rfl (.tmp 6) (.tmp 7) 23 9 rfl w.heap.size 5 i0 Tryz.underlying23 Tryz.underlying9 hi hz0 hz1 hz2 _ _ _ rfl B1.out s rfl (by unfold maxLen; omega) (by omega) (B2.out.size) ?_))
  intro v' w2 hown hgrow _
  have R : Hid (w2.ownsRow w.heap.size 5 1 v' (txt s).length (cellsOf (txt s)) ∧ Below w.heap.size w w2) := by
    refine ⟨?_, ?_⟩
    · rw [strCells_eq, ← cellsOf_append] at hown
      exact ownsRow_len hown (by unfold txt; rw [List.length_append, size_eq])
    · exact B2.out.grown hgrow B2.out.size (fun k hk => (B1.out.lt k hk).1)
  clear hown hgrow
  go_wp2
  go_ret
  exact ⟨_, rfl, R.out.1, R.out.2⟩

end Go.Proofs.YthmhcpghfbifiaaGreatDoor
