/- There and back: what is needed to walk OctetBack. -/
import Derived.Test.YtfgcpkbbneicfaaSeal
namespace Go.Proofs.Ytfgcpkbbneicfaa
open Go.RowKit
open Go.Lib (uvarint uvarint_small uvarint_big uvarint_length64 uvarint_pos)

/-- A piece that came in. -/
structure Pc where
  kind : Int
  u : Nat
  v : Int
  s : ByteArray
  hu : u < 18446744073709551616
  h0 : -9223372036854775808 ≤ v
  h1 : v ≤ 9223372036854775807
  hs : s.size ≤ 1048576

/-- Its bytes. -/
def Pc.bytes (p : Pc) : List UInt8 :=
  if p.kind = 1 then [p.u.toUInt8] else if p.kind = 2 then uvarint p.u else if p.kind = 3 then uvarint (zz p.v) else if p.kind = 4 then txt p.s else []

def en (ps : List Pc) (k : Nat) : List UInt8 := (ps.take k).flatMap Pc.bytes
def de (ps : List Pc) (k : Nat) : List UInt8 := (ps.drop k).flatMap Pc.bytes
theorem en_succ (ps : List Pc) (k : Nat) (h : k < ps.length) : en ps (k + 1) = en ps k ++ ps[k].bytes := by
  unfold en
  rw [List.take_succ_eq_append_getElem h, List.flatMap_append]
  simp
theorem en_all (ps : List Pc) (k : Nat) (h : ps.length ≤ k) : en ps k = de ps 0 := by unfold en de; rw [List.take_of_length_le h]; rfl
theorem en_le (ps : List Pc) (k : Nat) : (en ps k).length ≤ (de ps 0).length := by
  have := congrArg List.length (congrArg (List.flatMap Pc.bytes) (List.take_append_drop k ps))
  rw [List.flatMap_append, List.length_append] at this
  show ((ps.take k).flatMap Pc.bytes).length ≤ ((ps.drop 0).flatMap Pc.bytes).length
  rw [List.drop_zero]
  omega
theorem de_succ (ps : List Pc) (k : Nat) (h : k < ps.length) : de ps k = ps[k].bytes ++ de ps (k + 1) := by
  unfold de
  rw [List.drop_eq_getElem_cons h, List.flatMap_cons]
theorem de_end (ps : List Pc) (k : Nat) (h : ps.length ≤ k) : de ps k = [] := by
  unfold de
  rw [List.drop_eq_nil_iff.2 h]
  rfl

/-- The pieces in memory. -/
def Pcs (w : World) (pa : Option Addr) (ps : List Pc) : Prop :=
  ∀ i (h : i < ps.length), ∃ b off, pa = some ⟨b, off, none⟩ ∧ w.cell? ⟨b, off + i * 4, none⟩ = some (.int .i64 ps[i].kind) ∧ w.cell? ⟨b, off + i * 4 + 1, none⟩ = some (.int .u64 ps[i].u) ∧
    w.cell? ⟨b, off + i * 4 + 2, none⟩ = some (.int .i64 ps[i].v) ∧ w.cell? ⟨b, off + i * 4 + 3, none⟩ = some (.string ps[i].s)

theorem text_back (s : ByteArray) (hs : s.size ≤ 1048576) (r : List UInt8) : textOf (txt s ++ r) = s.data.toList ∧ textErr (txt s ++ r) = 0 ∧ textRest (txt s ++ r) = r := by
  have hf : front (txt s ++ r) = (s.size, (uvarint s.size).length, 0) := by
    unfold txt
    rw [List.append_assoc]
    exact front_back s.size (by omega) _
  have hl : s.data.toList.length = s.size := size_eq s
  have hfit : s.size ≤ (txt s ++ r).length - (uvarint s.size).length := by
    unfold txt
    simp only [List.length_append, hl]
    omega
  have hd : (txt s ++ r).drop (uvarint s.size).length = s.data.toList ++ r := by
    unfold txt
    rw [List.append_assoc, List.drop_left]
  refine ⟨?_, ?_, ?_⟩
  · unfold textOf
    rw [hf]
    simp only [true_and]
    rw [if_pos hfit, hd, ← hl, List.take_left]
  · unfold textErr
    rw [hf]
    exact if_neg (fun h => h.2 hfit)
  · unfold textRest
    rw [hf]
    simp only [true_and]
    rw [if_pos hfit, ← List.drop_drop, hd, ← hl, List.drop_left]

/-- A reader of the call's own. -/
def RB (w wx : World) (rb : Nat) (l : List UInt8) : Prop := w.heap.size ≤ rb ∧ rb < wx.heap.size ∧ (∃ lo, Rd wx rb lo l) ∧ Below w.heap.size w wx

theorem RB.step {w wx w' : World} {rb lo : Nat} {l l' : List UInt8} (h : RB w wx rb l) (hr : Rd w' rb lo l') (hg : wx.grownBy w' (some rb)) : RB w w' rb l' := by
  have := hg.size
  have h2 := h.2.1
  exact ⟨h.1, by omega, ⟨lo, hr⟩, below_grown h.2.2.2 hg h.1 h.2.2.2.size⟩

section
variable {w wx : World} {rb : Nat}
theorem bU8 {c : UInt8} {r : List UInt8} (h : RB w wx rb (c :: r)) : Calls Try.prog 20 #[.pointer (some ⟨rb, 0, none⟩)] wx fun e w' => e = .returned (.tuple #[.int .u8 c.toNat, .int .i64 0]) ∧ RB w w' rb r := by
  obtain ⟨lo, hr⟩ := h.2.2.1
  exact (rU8_some wx rb lo c r hr).mono fun e w' ⟨h1, h2, h3⟩ => ⟨h1, h.step h2 h3⟩
theorem bU {u : Nat} (hu : u < 18446744073709551616) {r : List UInt8} (h : RB w wx rb (uvarint u ++ r)) : Calls Try.prog 22 #[.pointer (some ⟨rb, 0, none⟩)] wx fun e w' => e = .returned (.tuple #[.int .u64 u, .int .i64 0]) ∧ RB w w' rb r := by
  obtain ⟨lo, hr⟩ := h.2.2.1
  have hh := rUvarint wx rb lo _ hr
  rw [front_back u hu r] at hh
  exact hh.mono fun e w' ⟨h1, h2, h3⟩ => ⟨h1, h.step (by rw [List.drop_left] at h2; exact h2) h3⟩
theorem bV {v : Int} (h0 : -9223372036854775808 ≤ v) (h1 : v ≤ 9223372036854775807) {r : List UInt8} (h : RB w wx rb (uvarint (zz v) ++ r)) : Calls Try.prog 24 #[.pointer (some ⟨rb, 0, none⟩)] wx fun e w' => e = .returned (.tuple #[.int .i64 v, .int .i64 0]) ∧ RB w w' rb r := by
  obtain ⟨lo, hr⟩ := h.2.2.1
  have hh := rVarint wx rb lo _ hr
  rw [front_back (zz v) (zz_lt v h0 h1) r] at hh
  simp only [unz_zz] at hh
  exact hh.mono fun e w' ⟨h1, h2, h3⟩ => ⟨h1, h.step (by rw [List.drop_left] at h2; exact h2) h3⟩
theorem bT {s : ByteArray} (hs : s.size ≤ 1048576) {r : List UInt8} (h : RB w wx rb (txt s ++ r)) : Calls Try.prog 26 #[.pointer (some ⟨rb, 0, none⟩)] wx fun e w' => e = .returned (.tuple #[.string s, .int .i64 0]) ∧ RB w w' rb r := by
  obtain ⟨lo, hr⟩ := h.2.2.1
  obtain ⟨t1, t2, t3⟩ := text_back s hs r
  have hh := rText wx rb lo _ hr
  rw [t1, t2, t3] at hh
  have e : bytesOf s.data.toList = s := by
    unfold bytesOf
    rw [Array.toArray_toList]
  rw [e] at hh
  exact hh.mono fun e w' ⟨h1, h2, h3⟩ => ⟨h1, h.step h2 h3⟩
theorem bE (h : RB w wx rb []) : Calls Try.prog 28 #[.pointer (some ⟨rb, 0, none⟩)] wx fun e w' => e = .returned (.int .i64 0) ∧ wx = w' := by
  obtain ⟨lo, hr⟩ := h.2.2.1
  exact (hE wx rb lo hr).mono fun _ _ h => ⟨h.1, h.2.symm⟩
end

theorem open_sealed (l : List UInt8) : openErr (sealed l) = 0 ∧ openData (sealed l) = l := by
  have h4 : (le4 (crc l).toNat).length = 4 := rfl
  have hl : (sealed l).length = l.length + 4 := by unfold sealed; rw [List.length_append, h4]
  have ht : (sealed l).take l.length = l := by unfold sealed; rw [List.take_left]
  have hd : (sealed l).drop l.length = le4 (crc l).toNat := by unfold sealed; rw [List.drop_left]
  have e : openErr (sealed l) = 0 := by
    unfold openErr
    rw [if_neg (by omega), show (sealed l).length - 4 = l.length by omega, ht, hd]
    simp
  refine ⟨e, ?_⟩
  unfold openData
  rw [if_pos e, show (sealed l).length - 4 = l.length by omega, ht]
end Go.Proofs.Ytfgcpkbbneicfaa
