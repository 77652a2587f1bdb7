/- Plain mathematics of layer 1: check sums bit by bit, over 32 bits. No statement of the program is proved here. -/
import Derived.WalkKit
import Derived.Laws.BitsAllLaws
namespace Go.Proofs.Ytfgcpkbbneicfab

/-- One bit to the right; if a one came out, by exclusive or with EDB88320. -/
def crcBit (x : BitVec 32) : BitVec 32 := (x >>> 1) ^^^ (if x.getLsbD 0 then 0xEDB88320#32 else 0#32)

def iter {α : Type} (f : α → α) : Nat → α → α
  | 0, x => x
  | n + 1, x => f (iter f n x)

/-- A byte laid into the sum. -/
def crcB (x : BitVec 32) (c : UInt8) : BitVec 32 := iter crcBit 8 (x ^^^ c.toBitVec.setWidth 32)
def crcL (x : BitVec 32) (l : List UInt8) : BitVec 32 := l.foldl crcB x
/-- The check sum of bytes. -/
def crc (l : List UInt8) : BitVec 32 := ~~~ (crcL 0xFFFFFFFF#32 l)

theorem crcBit_walk (x : BitVec 32) :
    bits .xor .u32 ((x.toNat : Int) / 2) (3988292384 * bits .and .u32 (x.toNat : Int) 1 % 4294967296) = ((crcBit x).toNat : Int) := by
  have hx := x.isLt
  have h1 : bits .and .u32 (x.toNat : Int) 1 = ((x.toNat % 2 : Nat) : Int) := by
    have := u32_and_nat x.toNat 1 hx (by decide)
    rw [nat_mask1] at this
    exact this
  have hd : ((x.toNat : Int) / 2) = ((x.toNat / 2 : Nat) : Int) := by omega
  rw [h1, hd]
  have hb : x.getLsbD 0 = decide (x.toNat % 2 = 1) := by
    simp [BitVec.getLsbD, Nat.testBit_zero]
  rcases Nat.mod_two_eq_zero_or_one x.toNat with h | h
  · rw [h]
    have := u32_xor_nat (x.toNat / 2) 0 (by omega) (by decide)
    have e : (3988292384 * ((0 : Nat) : Int) % 4294967296) = ((0 : Nat) : Int) := by decide
    rw [e, this]
    unfold crcBit
    rw [hb, h]
    simp [BitVec.toNat_ushiftRight, Nat.shiftRight_eq_div_pow]
  · rw [h]
    have := u32_xor_nat (x.toNat / 2) 3988292384 (by omega) (by decide)
    have e : (3988292384 * ((1 : Nat) : Int) % 4294967296) = ((3988292384 : Nat) : Int) := by decide
    rw [e, this]
    unfold crcBit
    rw [hb, h]
    simp [BitVec.toNat_ushiftRight, Nat.shiftRight_eq_div_pow]

theorem xorByte_walk (x : BitVec 32) (c : UInt8) :
    bits .xor .u32 (x.toNat : Int) ((c.toNat : Int) % 4294967296) = ((x ^^^ c.toBitVec.setWidth 32).toNat : Int) := by
  have hc := c.toNat_lt
  have e : ((c.toNat : Int) % 4294967296) = ((c.toNat : Nat) : Int) := by omega
  rw [e, u32_xor_nat x.toNat c.toNat x.isLt (by omega)]
  simp only [BitVec.toNat_xor, BitVec.toNat_setWidth]
  rw [Nat.mod_eq_of_lt (b := 2 ^ 32)]
  · rfl
  · show c.toNat < _
    omega

theorem not_walk (x : BitVec 32) : bits .xor .u32 IntKind.u32.max (x.toNat : Int) = ((~~~x).toNat : Int) := by
  have e : IntKind.u32.max = ((4294967295 : Nat) : Int) := by decide
  rw [e, u32_xor_nat 4294967295 x.toNat (by decide) x.isLt]
  have : (4294967295 ^^^ x.toNat) = ((BitVec.allOnes 32) ^^^ x).toNat := by simp
  rw [this, BitVec.allOnes_xor]

theorem ret_int {k : IntKind} {a b : Int} (h : a = b) : Ending.returned (.int k a) = .returned (.int k b) := by rw [h]

end Go.Proofs.Ytfgcpkbbneicfab
